/- Part 5 of the texts on which TopFrames rests: facts and contracts. -/
import Derived.Test.YtmddiiidofmklaaTopFramesM4
import Derived.StillTail
import Derived.Deep.Quiet
import Derived.Deep.QuietTactic
import Derived.BigQuiet
import Derived.Lib.MinMax
import Derived.WalkKit
import Derived.ProofKit
import Derived.OpenShut
import Derived.JoinedCond
import Derived.Carry
import Derived.ChangeArms
import Derived.Deep.Slices
import Derived.SizedLaws
import Derived.Laws.StructEq
import Derived.WalkSpells
namespace Go.Proofs.Ytmddiiidofmklaa
open Go Go.RowKit

theorem row_keep_types {w w' : World} {S : Nat → Prop} (k : Kept w w' S) : w.heap.size ≤ w'.heap.size := k.size
/-- a box of the disk alone -/
theorem d1box (w : World) (x : Dl) : ∃ W, W = w.alloc (.cells #[.slice x.fA x.files.length x.fc, .slice x.wA x.waits.length x.wc, .int .i64 x.room, .bool x.down, .int .i64 x.fuse] 28) ∧ Below w.heap.size w W ∧ W.heap.size = w.heap.size + 1 ∧ Own W w.heap.size 28 x.cells := dbox w x
set_option maxRecDepth 100000 in
set_option maxHeartbeats 3200000 in
theorem dread_any (x : Dl) (n : ByteArray) (w : World) (h : DIn w w.heap.size x) (ok : DOk x) :
    Calls Try.prog 9 #[x.val, .string n] w fun e w' => e = .returned (.tuple #[.string (readD x.d n).1, .int .i64 (readD x.d n).2]) ∧ Below w.heap.size w w' := by
  obtain ⟨V, hV, hVb, hVs, oD⟩ := dbox w x
  have hk := h.keep hVb
  have y1 := Lib.hid (open_any x V hk ok)
  have H := Lib.hid (And.intro hVb (And.intro hVs ok))
  obtain ⟨d0, d1, d2, d3, d4⟩ := own5 oD
  unfold Dl.val at y1
  unfold Dl.val readD
  clear h ok hk hVb hVs oD
  cases hg : goodD x.d
  · rw [hg] at y1
    simp only [Bool.false_eq_true, if_false] at y1 ⊢
    unfold zeroWk at y1
    clear hg
    go_enter Try.func9, Try.ntmps9
    go_upto_region 1 with fail
    rw [← hV]
    clear hV
    go_wp2_with fail
    refine y1.out.mono ?_
    rintro _ w1 ⟨b1, rfl⟩
    obtain ⟨W, hW, bW⟩ := z7box w1
    have HX := Lib.hid (H.out.1.trans ((b1.trans (bW.mono b1.size)).mono H.out.1.size))
    clear b1 bW y1 d0 d1 d2 d3 d4
    go_upto_region 2 with fail
    rw [← hW]
    clear hW
    go_wp2_with fail
    go_ret2
    exact ⟨rfl, HX.out⟩
  · rw [hg] at y1
    simp only [if_true] at y1 ⊢
    have hdn : x.d.down = x.down := rfl
    rw [hdn]
    clear hg hdn
    generalize hrd : (if x.down = true then ((⟨#[]⟩ : ByteArray), (7 : Int)) else readF (seen x.d) n) = rd
    have HRD := Lib.hid hrd
    clear hrd
    go_enter Try.func9, Try.ntmps9
    go_upto_region 1 with fail
    rw [← hV]
    clear hV
    go_wp2_with fail
    refine y1.out.mono ?_
    rintro _ w1 ⟨b1, ho⟩
    obtain ⟨Af, cf, Aw, cw, A, c, l, W, rfl, hW, bW, sW, hVw, kW, hfl, hwl⟩ := opened_box ho b1 H.out.2.2
    obtain ⟨c0, c1, c2, c3, c4, c5, c6⟩ := kW.cells
    have y2 := Lib.hid (read_any V.heap.size w1.heap.size 5 _ _ A c l n W kW.at_)
    rw [hfl] at y2
    have HX := Lib.hid (H.out.1.trans (bW.mono H.out.1.size))
    dsimp only at c0 c1 c2 c3 c4
    clear ho b1 y1 d0 d1 d2 d3 d4 bW sW hVw kW hfl hwl
    go_upto_region 2 with fail
    rw [← hW]
    clear hW
    cases hd : x.down
    · rw [hd] at c3
      have hz := HRD.out
      rw [hd] at hz
      simp only [Bool.false_eq_true, if_false] at hz
      rw [hz] at y2
      clear hz hd
      go_wp2_with fail
      refine y2.out.mono ?_
      rintro _ w2 ⟨rfl, b2⟩
      go_wp2_with fail
      go_ret2
      exact ⟨rfl, HX.out.trans (b2.mono HX.out.size)⟩
    · rw [hd] at c3
      have hz := HRD.out
      rw [hd] at hz
      simp only [if_true] at hz
      have HZ := Lib.hid hz
      clear hz hd
      go_wp2_with fail
      go_ret2
      refine ⟨?_, HX.out⟩
      rw [← HZ.out]
      rfl
/-- files and an error, handed back -/
def Tells (w w' : World) (e : Ending) (s : List Fl × Int) : Prop :=
  Below w.heap.size w w' ∧ ∃ A c, e = .returned (.tuple #[.slice A s.1.length c, .int .i64 s.2]) ∧ Lies 2 Fl.cells w' w'.heap.size A s.1
set_option maxRecDepth 100000 in
set_option maxHeartbeats 3200000 in
theorem dsync_anyN (x : Dl) (w : World) (h : DIn w w.heap.size x) (ok : DOk x) :
    Calls Try.prog 7 #[x.val] w fun e w' => GivesN w w' e (syncD x.d) := by
  obtain ⟨V, hV, hVb, hVs, oD, oR⟩ := do_box w x
  have hk := h.keep hVb
  have y1 := Lib.hid (open_any x V hk ok)
  have H := Lib.hid (And.intro hVb (And.intro hVs (And.intro oR ok)))
  obtain ⟨d0, d1, d2, d3, d4⟩ := own5 oD
  unfold Dl.val at y1
  unfold Dl.val syncD
  clear h ok hk hVb hVs oD oR
  cases hg : goodD x.d
  · rw [hg] at y1
    simp only [Bool.false_eq_true, if_false] at y1 ⊢
    unfold zeroWk at y1
    clear hg
    go_enter Try.func7, Try.ntmps7
    go_upto_region 1 with fail
    rw [← hV]
    clear hV
    go_wp2_with fail
    refine y1.out.mono ?_
    rintro _ w1 ⟨b1, rfl⟩
    obtain ⟨W, hW, bW⟩ := z7box w1
    have oR1 := (H.out.2.2.1.past b1 H.out.2.2.1.inside).past bW (H.out.2.2.1.past b1 H.out.2.2.1.inside).inside
    obtain ⟨r0, r1, r2, r3, r4⟩ := own5 oR1
    obtain ⟨f0, f1, f2, f3, f4⟩ := open5 oR1
    have oE := set5_own oR1 (.slice none 0 0) (.slice none 0 0) (.int .i64 0) (.bool false) (.int .i64 0)
    have kE := set5_kept W (w.heap.size + 1) (.slice none 0 0) (.slice none 0 0) (.int .i64 0) (.bool false) (.int .i64 0)
    have hbw : Below w.heap.size w W := H.out.1.trans ((b1.trans (bW.mono b1.size)).mono H.out.1.size)
    have HX := Lib.hid (hbw.trans (kE.below (fun k e => by omega) hbw.size))
    unfold set5 at oE HX
    obtain ⟨e0, e1, e2, e3, e4⟩ := own5 oE
    clear oR1 oE kE hbw b1 y1 d0 d1 d2 d3 d4
    go_upto_region 2 with fail
    rw [← hW]
    clear hW
    go_wp2_with fail
    exact bodyPost_ret (v := .tuple #[.agg #[.slice none 0 0, .slice none 0 0, .int .i64 0, .bool false, .int .i64 0], .int .i64 8]) (by simp [results, Try.results7, go_sem, e0, e1, e2, e3, e4]) rfl ⟨HX.out, zeroDl, rfl, rfl, zero_din _, zero_new _⟩
  · rw [hg] at y1
    simp only [if_true] at y1 ⊢
    have hdn : x.d.down = x.down := rfl
    have hdf : x.d.fuse = x.fuse := rfl
    rw [hdn, hdf]
    clear hg hdn hdf
    generalize hrd : (if x.down = true then (x.d, (7 : Int)) else if x.fuse = 0 then ((⟨x.d.files, x.d.waits, x.d.room, true, x.fuse⟩ : Dk), (7 : Int)) else ((⟨seen x.d, [], x.d.room, x.down, lessN x.fuse⟩ : Dk), (0 : Int))) = rd
    have HRD := Lib.hid hrd
    clear hrd
    go_enter Try.func7, Try.ntmps7
    go_upto_region 1 with fail
    rw [← hV]
    clear hV
    go_wp2_with fail
    refine y1.out.mono ?_
    rintro _ w1 ⟨b1, ho⟩
    obtain ⟨Af, cf, Aw, cw, A, c, l, W, rfl, hW, bW, sW, hVw, kW, hfl, hwl⟩ := opened_box ho b1 H.out.2.2.2
    obtain ⟨c0, c1, c2, c3, c4, c5, c6⟩ := kW.cells
    have y2 := Lib.hid (burn_any V.heap.size w1.heap.size _ A c l W kW H.out.2.2.2.fuse)
    have oR1 := H.out.2.2.1.past bW H.out.2.2.1.inside
    have HX := Lib.hid (And.intro bW (And.intro hVw (And.intro sW (And.intro kW (And.intro oR1 hfl)))))
    dsimp only at c0 c1 c2 c3 c4
    clear ho b1 y1 d0 d1 d2 d3 d4 bW sW hVw kW hfl hwl oR1
    go_upto_region 2 with fail
    rw [← hW]
    clear hW
    cases hd : x.down
    · rw [hd] at c3
      have hz := HRD.out
      rw [hd] at hz
      simp only [Bool.false_eq_true, if_false] at hz
      have HZ := Lib.hid hz
      have HD := Lib.hid hd
      clear hz hd
      go_upto_region 4 with fail
      go_wp2_with fail
      refine y2.out.mono ?_
      rintro _ w2 ⟨rfl, k2, kb⟩
      have hb2 : Below V.heap.size V w2 := HX.out.1.trans (kb.below (fun k e => by have := HX.out.2.1; omega) HX.out.1.size)
      have oR2 := H.out.2.2.1.past hb2 H.out.2.2.1.inside
      by_cases hf : x.fuse = 0
      · have t1 : decide (x.fuse ≠ 0) = false := by simp [hf]
        have hz := HZ.out
        rw [if_pos hf] at hz
        have HZ2 := Lib.hid hz
        have hbu : burnL ⟨Af, cf, x.files, Aw, cw, x.waits, x.room, x.down, x.fuse⟩ = ⟨Af, cf, x.files, Aw, cw, x.waits, x.room, true, x.fuse⟩ := by unfold burnL; exact if_pos hf
        rw [hbu] at k2
        obtain ⟨c0, c1, c2, c3, c4, c5, c6⟩ := k2.cells
        have hfin := hand_back2 H.out.2.1 H.out.1 hb2 k2
        obtain ⟨r0, r1, r2, r3, r4⟩ := own5 oR2
        obtain ⟨f0, f1, f2, f3, f4⟩ := open5 oR2
        have oE := set5_own oR2 (.slice Af x.files.length cf) (.slice Aw x.waits.length cw) (.int .i64 x.room) (.bool true) (.int .i64 x.fuse)
        have HF := Lib.hid hfin
        unfold set5 at oE HF
        dsimp only at HF c0 c1 c2 c3 c4
        obtain ⟨e0, e1, e2, e3, e4⟩ := own5 oE
        rw [t1]
        clear hz hfin oE k2 kb hb2 oR2 hbu hf
        go_wp2_with fail
        refine bodyPost_ret (v := .tuple #[.agg #[.slice Af x.files.length cf, .slice Aw x.waits.length cw, .int .i64 x.room, .bool true, .int .i64 x.fuse], .int .i64 7]) (by simp [results, Try.results7, go_sem, e0, e1, e2, e3, e4]) rfl ⟨HF.out.1, ⟨Af, cf, x.files, Aw, cw, x.waits, x.room, true, x.fuse⟩, ?_, ?_, HF.out.2⟩
        · rw [← HZ2.out]; rfl
        · rw [← HZ2.out]; rfl
      · have t1 : decide (x.fuse ≠ 0) = true := by simp [hf]
        have hz := HZ.out
        rw [if_neg hf] at hz
        have HZ2 := Lib.hid hz
        have hbu : burnL ⟨Af, cf, x.files, Aw, cw, x.waits, x.room, x.down, x.fuse⟩ = ⟨Af, cf, x.files, Aw, cw, x.waits, x.room, x.down, lessN x.fuse⟩ := by unfold burnL; exact if_neg hf
        rw [hbu] at k2
        obtain ⟨c0, c1, c2, c3, c4, c5, c6⟩ := k2.cells
        have y3 := Lib.hid (list_any V.heap.size w1.heap.size 5 _ _ A c l w2 k2.at_)
        have hln : l.length = (seen x.d).length := by rw [← HX.out.2.2.2.2.2]; unfold flV; simp
        rw [HX.out.2.2.2.2.2, hln] at y3
        have HK := Lib.hid (And.intro k2.at_.own (And.intro hb2 oR2))
        dsimp only at c0 c1 c2 c3 c4
        rw [t1]
        clear hz k2 kb hb2 oR2 hbu hf hln
        go_wp2_with fail
        refine y3.out.mono ?_
        rintro _ w3 ⟨v, rfl, rv, b3⟩
        obtain ⟨A2, c2', rfl⟩ := row_slice rv
        have oK3 := HK.out.1.past b3 HK.out.1.inside
        have oR3 := HK.out.2.2.past b3 HK.out.2.2.inside
        have hRK : w.heap.size + 1 < w1.heap.size := by have := HX.out.2.1; have := H.out.2.1; omega
        have hKw : w1.heap.size < w2.heap.size := HK.out.1.inside
        have oK4 := (oK3.set_ 0 (.slice A2 (seen x.d).length c2')).set_ 1 (.slice none 0 0)
        have k4 : Kept w3 ((w3.setCell ⟨w1.heap.size, 0, none⟩ (.slice A2 (seen x.d).length c2')).setCell ⟨w1.heap.size, 1, none⟩ (.slice none 0 0)) (fun k => k = w1.heap.size) := ((Kept.refl w3 (fun k => k = w1.heap.size)).set_ (.inl rfl) _).set_ (.inl rfl) _
        have oR4 := k4.own oR3 (by omega)
        have r4v := k4.row rv (fun k e he => by have := (rv.lt k e).1; omega)
        have hb4 : Below w.heap.size w ((w3.setCell ⟨w1.heap.size, 0, none⟩ (.slice A2 (seen x.d).length c2')).setCell ⟨w1.heap.size, 1, none⟩ (.slice none 0 0)) := by
          have a1 : Below w.heap.size w w2 := H.out.1.trans (HK.out.2.1.mono H.out.1.size)
          have a2 : Below w.heap.size w w3 := a1.trans (b3.mono a1.size)
          exact a2.trans (k4.below (fun k e => by omega) a2.size)
        obtain ⟨g0, g1, g2, g3, g4, g5, g6⟩ := own7 oK3
        obtain ⟨gf0, gf1, _⟩ := open7 oK3
        have HO := Lib.hid (And.intro oK4 (And.intro oR4 (And.intro r4v (And.intro hb4 (And.intro hRK hKw)))))
        dsimp only at g0 g1 g2 g3 g4
        clear rv b3 oK3 oR3 oK4 k4 oR4 r4v hb4 c0 c1 c2 c3 c4 c5 c6
        go_upto_region 7 with fail
        obtain ⟨W4, hW4⟩ : ∃ W4, W4 = (w3.setCell ⟨w1.heap.size, 0, none⟩ (.slice A2 (seen x.d).length c2')).setCell ⟨w1.heap.size, 1, none⟩ (.slice none 0 0) := ⟨_, rfl⟩
        rw [← hW4] at HO ⊢
        clear hW4 g0 g1 g2 g3 g4 g5 g6 gf0 gf1
        obtain ⟨g0, g1, g2, g3, g4, g5, g6⟩ := own7 HO.out.1
        obtain ⟨r0, r1, r2, r3, r4⟩ := own5 HO.out.2.1
        obtain ⟨f0, f1, f2, f3, f4⟩ := open5 HO.out.2.1
        have oE := set5_own HO.out.2.1 (.slice A2 (seen x.d).length c2') (.slice none 0 0) (.int .i64 x.room) (.bool x.down) (.int .i64 (lessN x.fuse))
        have kE := set5_kept W4 (w.heap.size + 1) (.slice A2 (seen x.d).length c2') (.slice none 0 0) (.int .i64 x.room) (.bool x.down) (.int .i64 (lessN x.fuse))
        have HF := Lib.hid (And.intro (HO.out.2.2.2.1.trans (kE.below (fun k e => by omega) HO.out.2.2.2.1.size)) (row_lies (size := 2) (cells := Fl.cells) (by decide) (fun _ => rfl) (kE.row HO.out.2.2.1 (fun k e he => by have := (HO.out.2.2.1.lt k e).1; have := HO.out.2.2.2.2; omega))))
        unfold set5 at oE HF
        dsimp only at g0 g1 g2 g3 g4
        obtain ⟨e0, e1, e2, e3, e4⟩ := own5 oE
        clear oE kE
        go_wp2_with fail
        refine bodyPost_ret (v := .tuple #[.agg #[.slice A2 (seen x.d).length c2', .slice none 0 0, .int .i64 x.room, .bool x.down, .int .i64 (lessN x.fuse)], .int .i64 0]) (by simp [results, Try.results7, go_sem, e0, e1, e2, e3, e4]) rfl ⟨HF.out.1, ⟨A2, c2', seen x.d, none, 0, [], x.room, x.down, lessN x.fuse⟩, ?_, ?_, ⟨HF.out.2, fun h => absurd h (by simp), Nat.le_refl _⟩, ⟨fun b q e => by have e : A2 = some (⟨b, q, none⟩ : Addr) := e; subst e; have h1 := (HO.out.2.2.1.lt b rfl).1; have h2 := HO.out.2.2.2.2; omega, fun _ _ h => (by cases h)⟩⟩
        · rw [← HZ2.out]; rfl
        · rw [← HZ2.out]
          show Dk.mk _ _ _ _ _ = Dk.mk _ _ _ _ _
          rw [HD.out]; rfl
    · rw [hd] at c3
      have hz := HRD.out
      rw [hd] at hz
      simp only [if_true] at hz
      have HZ := Lib.hid hz
      have hfin := hand_back2 H.out.2.1 H.out.1 HX.out.1 HX.out.2.2.2.1
      obtain ⟨r0, r1, r2, r3, r4⟩ := own5 HX.out.2.2.2.2.1
      obtain ⟨f0, f1, f2, f3, f4⟩ := open5 HX.out.2.2.2.2.1
      have oE := set5_own HX.out.2.2.2.2.1 (.slice Af x.files.length cf) (.slice Aw x.waits.length cw) (.int .i64 x.room) (.bool x.down) (.int .i64 x.fuse)
      have HF := Lib.hid hfin
      unfold set5 at oE HF
      dsimp only at HF
      rw [hd] at oE HF
      obtain ⟨e0, e1, e2, e3, e4⟩ := own5 oE
      have HD := Lib.hid hd
      clear hz hd hfin oE
      go_wp2_with fail
      refine bodyPost_ret (v := .tuple #[.agg #[.slice Af x.files.length cf, .slice Aw x.waits.length cw, .int .i64 x.room, .bool true, .int .i64 x.fuse], .int .i64 7]) (by simp [results, Try.results7, go_sem, e0, e1, e2, e3, e4]) rfl ⟨HF.out.1, ⟨Af, cf, x.files, Aw, cw, x.waits, x.room, true, x.fuse⟩, ?_, ?_, HF.out.2⟩
      · rw [← HZ.out]; rfl
      · rw [← HZ.out]
        show Dk.mk _ _ _ _ _ = Dk.mk _ _ _ _ _
        rw [HD.out]
theorem dsync_any (x : Dl) (w : World) (h : DIn w w.heap.size x) (ok : DOk x) :
    Calls Try.prog 7 #[x.val] w fun e w' => Gives w w' e (syncD x.d) := (dsync_anyN x w h ok).mono fun _ _ h => h.gives
end Go.Proofs.Ytmddiiidofmklaa
namespace Go.Proofs.Ytmddiiidofmklaa
open Go Go.RowKit

section
variable {P : Program} {ops : Array Oper} {md : Region.Mode} {C : World → Prop}
def wpAnyT (P : Program) (md : Region.Mode) (ops : Array Oper) (C : World → Prop) (n : Nat) (L : Array Bool → Act → Prop) : Nat → Array Bool → Act → Prop
  | 0, listed, a => L listed a
  | f + 1, listed, a =>
    Region.ready md ops listed ≠ [] ∧ ∀ i ∈ Region.ready md ops listed, i < n ∧ qOp P ops C i (wpAnyT P md ops C n L f (listed.setIfInBounds i true)) a
theorem wpAny_of_headT {n g : Nat} {L : Array Bool → Act → Prop} {Q' : Exit → Act → World → Prop} (hL : ∀ listed a w, C w → L listed a → wpAny P md ops Q' g listed a w) :
    ∀ (f : Nat) (listed : Array Bool) (a : Act) (w : World), C w → wpAnyT P md ops C n L f listed a → wpAny P md ops Q' (f + g) listed a w
  | 0, listed, a, w, hw, h => by rw [Nat.zero_add]; exact hL _ _ _ hw h
  | f + 1, listed, a, w, hw, h => by
    rw [show f + 1 + g = (f + g) + 1 by omega]
    exact ⟨fun h0 => absurd h0 h.1, fun i hi => wpOp_of_qOp hw (fun a' w' hw' h' => wpAny_of_headT hL f _ a' w' hw' h') (h.2 i hi).2⟩
theorem wpAnyT_first {n i : Nat} {oi : Oper} {v : Value} {L : Array Bool → Act → Prop} (hi : ops[i]? = some oi) (hsel : ∀ (j : Nat) (o : Oper) cs b, ops[j]? = some o → o.op ≠ .select cs b)
    (hs : Region.sinkB md ops n = true) (hc : Region.chainB md ops n = true) (hn : n < ops.size) (hin : i < n)
    (hdone : ∀ listed a, L listed a → ∀ j ∈ Region.ready md ops listed, n ≤ j) :
    ∀ (f : Nat) (listed : Array Bool) (a : Act), HeadInv md ops n listed →
      (∀ j oj, ops[j]? = some oj → j ≠ i → listed.getD j true = false → (∀ e ∈ oj.after, Region.binds md e = true → e.on ≠ i) → oi.apart ops oj = true) →
      i ∈ Region.ready md ops listed → YieldsIn P ops C oi v a →
      wpAnyT P md ops C n L f (listed.setIfInBounds i true) (a.put oi.dst v) → wpAnyT P md ops C n L (f + 1) listed a := by
  intro f
  induction f with
  | zero =>
    intro listed a inv _ hr hy H
    have hun := (mem_ready.1 hr).1
    refine ⟨fun h => (by rw [h] at hr; cases hr), fun j hj => ?_⟩
    have hjn : j < n := by
      rcases Nat.lt_or_ge j n with h | h
      · exact h
      · exact absurd hj (tail_waits hs hc hn inv _ i rfl hin hun j h)
    refine ⟨hjn, ?_⟩
    by_cases hji : j = i
    · subst hji; exact hy.qOp hi H
    · have := hdone _ _ H j (ready_mono hj hji)
      omega
  | succ f ih =>
    intro listed a inv hfree hr hy H
    have hun := (mem_ready.1 hr).1
    refine ⟨fun h => (by rw [h] at hr; cases hr), fun j hj => ?_⟩
    have hjn : j < n := by
      rcases Nat.lt_or_ge j n with h | h
      · exact h
      · exact absurd hj (tail_waits hs hc hn inv _ i rfl hin hun j h)
    refine ⟨hjn, ?_⟩
    by_cases hji : j = i
    · subst hji; exact hy.qOp hi H
    · have h1 := (H.2 j (ready_mono hj hji)).2
      obtain ⟨hjun, oj, hoj, hall⟩ := mem_ready.1 hj
      have hnot : ∀ e ∈ oj.after, Region.binds md e = true → e.on ≠ i := fun e he hb heq => by
        have h1 := hall e he hb
        rw [heq, getD_both hun] at h1
        cases h1
      have h2 := qOp_put hoj (hfree j oj hoj hji hjun hnot) (fun cs b => hsel i oi cs b hi) (fun cs b => hsel j oj cs b hoj) hy h1
      have hfree' : ∀ k ok, ops[k]? = some ok → k ≠ i → (listed.setIfInBounds j true).getD k true = false →
          (∀ e ∈ ok.after, Region.binds md e = true → e.on ≠ i) → oi.apart ops ok = true := fun k ok hk hki hun hno => by
        refine hfree k ok hk hki ?_ hno
        by_cases hjk : j = k
        · subst hjk; exact hjun
        · rw [getD_set_ne true hjk] at hun; exact hun
      refine qOp_mono (fun a' h3 => ih (listed.setIfInBounds j true) a' (inv.set hj hjn) hfree' (ready_mono hr (Ne.symm hji)) h3.1 ?_) h2
      rw [Array.setIfInBounds_comm _ _ hji]
      exact h3.2
theorem wpAnyT_lex {n g : Nat} {Lq : Act → Prop} (hsel : Region.noSelect ops = true) (hs : Region.sinkB md ops n = true) (hc : Region.chainB md ops n = true) (hn : n < ops.size) :
    ∀ (l : List Oper) (k : Nat) (listed : Array Bool) (a : Act), (∀ j, j < l.length → l[j]? = ops[k + j]?) → k + l.length = n → HeadInv md ops n listed →
    Region.lexHead md ops g l.length k listed = true → wpQuiet P ops C Lq l a →
    wpAnyT P md ops C n (fun listed' a' => Region.seqB md ops g n listed' = true ∧ Lq a') l.length listed a
  | [], k, listed, a, _, hk, _, hB, h => by
    have : k = n := by simpa using hk
    subst this
    exact ⟨by simpa [Region.lexHead] using hB, h⟩
  | o :: l, k, listed, a, hl, hk, inv, hB, h => by
    have h0 : ops[k]? = some o := by simpa using (hl 0 (by simp)).symm
    simp only [List.length_cons, Region.lexHead, Bool.and_eq_true] at hB
    obtain ⟨⟨hr, hf⟩, hB'⟩ := hB
    have hkn : k < n := by simp only [List.length_cons] at hk; omega
    have hr' : k ∈ Region.ready md ops listed := by simpa using hr
    have hst : qOp P ops C k (wpQuiet P ops C Lq l) a := by unfold qOp; simp only [h0]; exact h
    obtain ⟨v, hy, hK⟩ := yieldsIn_of_qOp h0 hst
    exact wpAnyT_first h0 (Region.noSelect_spec hsel) hs hc hn hkn (fun listed' a' hL => seqB_ready hL.1) l.length listed a inv (Region.free_spec h0 hf) hr' hy
      (wpAnyT_lex hsel hs hc hn l (k + 1) _ _ (fun j hj => by have := hl (j + 1) (by simp; omega); simpa [Nat.add_assoc, Nat.add_comm 1 j] using this) (by simp only [List.length_cons] at hk; omega) (inv.set hr' hkn) hB' hK)
theorem wp_region_quiet_tail {id : Nat} {Q : Exit → Act → World → Prop} {a : Act} {w : World} {l : List Oper} (n : Nat) (hm : P.follows .mixedOrders = true) (hB : Region.lexTailB .any l.toArray n = true) (hC : C { w with drawn := w.drawn + 1 })
    (h : wpQuiet P l.toArray C (fun a' => ∀ w', C w' → wpList P l.toArray Q (l.drop n) a' w') (l.take n) a) : (Code.region id l.toArray true).wp P Q a w := by
  simp only [Region.lexTailB, Bool.and_eq_true, decide_eq_true_eq] at hB
  obtain ⟨⟨⟨⟨hsel, hn⟩, hs⟩, hc⟩, hlex⟩ := hB
  have hn' : n < l.length := by simpa using hn
  have htl : (l.take n).length = n := by simp; omega
  have hdl : (l.drop n).length = l.toArray.size - n := by simp
  have inv0 : HeadInv .any l.toArray n (Array.replicate l.toArray.size false) :=
    ⟨by simp, fun j oj _ hl => (by rw [getD_replicate_false] at hl; cases hl), fun t _ ht => getD_in (by simpa using ht) (getD_replicate_false _ _)⟩
  have H := wpAnyT_lex (md := .any) (g := l.toArray.size - n) hsel hs hc hn (l.take n) 0 _ a (fun j hj => by
    have hj' : j < n := by rw [htl] at hj; exact hj
    simp [hj']) (by simpa using htl) inv0 (by rw [htl]; exact hlex) h
  refine wp_region_any hm ?_
  have := wpAny_of_headT (Q' := Q) (g := l.toArray.size - n) (C := C) (fun listed a' w' hw' hL => by
    have := wpAny_of_seq (Q' := Q) (l.drop n) n listed a' w' (fun j => by simp) (by rw [hdl]; exact hL.1) (hL.2 w' hw')
    rwa [hdl] at this) _ _ _ _ hC H
  rw [htl, show n + (l.toArray.size - n) = l.toArray.size by omega] at this
  exact this
end
theorem wp_region_past_tail {P : Program} {id : Nat} {Q : Exit → Act → World → Prop} {a : Act} {w : World} {l : List Oper} (V : World) (n : Nat) (hm : P.follows .mixedOrders = true) (hB : Region.lexTailB .any l.toArray n = true) (hV : Below V.heap.size V w)
    (h : wpQuiet P l.toArray (fun w' => ∃ p : Past V, w' = p.w) (fun a' => ∀ w', (∃ p : Past V, w' = p.w) → wpList P l.toArray Q (l.drop n) a' w') (l.take n) a) : (Code.region id l.toArray true).wp P Q a w :=
  wp_region_quiet_tail (C := fun w' => ∃ p : Past V, w' = p.w) n hm hB ⟨⟨_, hV.drew⟩, rfl⟩ h
end Go.Proofs.Ytmddiiidofmklaa
namespace Go.Proofs.Ytmddiiidofmklaa
open Go Go.RowKit

theorem lies_take {w : World} {B : Nat} {A : Option Addr} {l : List Wr} {q : Nat} (h : Lies 4 Wr.cells w B A l) : Lies 4 Wr.cells w B A (l.take q) := fun hp => by
  have hl : 0 < l.length := by rw [List.length_take] at hp; omega
  obtain ⟨b, o, e, hb, hc⟩ := h hl
  refine ⟨b, o, e, hb, fun i x hi j u hj => hc i x ?_ j u hj⟩
  rw [List.getElem?_take] at hi
  split at hi
  · exact hi
  · cases hi
theorem visbox (w : World) : Below w.heap.size w (w.alloc (.cells #[.slice none 0 0, .int .i64 0] 49)).drew ∧ Own (w.alloc (.cells #[.slice none 0 0, .int .i64 0] 49)).drew w.heap.size 49 [.slice none 0 0, .int .i64 0] :=
  ⟨Below.drew ((Below.refl _ _).alloc (Nat.le_refl _) _), Own.made w _ _⟩
def CrashMid (w1 wx : World) (G : Nat) (m : List Fl) (b : Nat) : Prop :=
  ∃ A c l, VisAt wx w1.heap.size G 0 49 [.slice A l.length c, .int .i64 (szF (flV l) : Int)] A c l ∧ flV l = m ∧ wtV l ≤ b ∧ Below w1.heap.size w1 wx ∧ w1.heap.size ≤ G
theorem left_eq {x : Dl} {keep tear : Int} {q : Nat} (hq : q = keepN keep x.waits.length) : leftD x.d keep tear = tornF (lookF x.files (x.waits.take q)) x.waits[q]? tear := by
  rw [hq]; rfl
def CrashEnd (w wx w1 : World) (G : Nat) (x : Dl) (keep tear : Int) : Prop :=
  ∃ A c l cs, VisAt wx w1.heap.size G 0 49 cs A c l ∧ flV l = leftD x.d keep tear ∧ Own wx w.heap.size 28 x.cells ∧ Own wx (w.heap.size + 1) 28 zero5 ∧ Below w.heap.size w wx ∧ w1.heap.size ≤ G
theorem crash_mid1 {w1 W w2 : World} {A : Option Addr} {c b b' : Nat} {l : List Vf} {m : List Fl} (bW : Below w1.heap.size w1 W) (ob : Own w2 w1.heap.size 49 [.slice none 0 0, .int .i64 0]) (hv : Vis w2 W.heap.size A c l) (hfl : flV l = m) (hs : SortedN (namesV l)) (hwt : wtV l ≤ b') (hB : Below W.heap.size W w2) (hb : b ≤ 1099511627776) (hbb : b' ≤ b) (hin : w1.heap.size < W.heap.size := by simp) :
    CrashMid w1 ((w2.setCell ⟨w1.heap.size, 0, none⟩ (.slice A l.length c)).setCell ⟨w1.heap.size, 1, none⟩ (.int .i64 (szF (flV l) : Int))) w1.heap.size m b := by
  have kk : Kept w2 ((w2.setCell ⟨w1.heap.size, 0, none⟩ (.slice A l.length c)).setCell ⟨w1.heap.size, 1, none⟩ (.int .i64 (szF (flV l) : Int))) (fun k => k = w1.heap.size) := ((Kept.refl w2 (fun k => k = w1.heap.size)).set_ (.inl rfl) _).set_ (.inl rfl) _
  have hb2 : Below w1.heap.size w1 w2 := bW.trans (hB.mono bW.size)
  refine ⟨A, c, l, ⟨(ob.set_ 0 _).set_ 1 _, rfl, rfl, (hv.kept kk (fun k e he => by have := (hv.lt k e).1; omega)).lower (by omega), fun e => by have := (hv.lt _ e).1; omega, hs, by omega, Nat.le_trans hb2.size kk.size⟩, hfl, by omega, hb2.trans (kk.below (fun k e => by omega) hb2.size), Nat.le_refl _⟩
theorem crash_mid2 {w1 w2 : World} {A : Option Addr} {c b b' : Nat} {l : List Vf} {m : List Fl} (hv : Vis w2 w1.heap.size A c l) (hfl : flV l = m) (hs : SortedN (namesV l)) (hwt : wtV l ≤ b') (hB : Below w1.heap.size w1 w2) (hb : b ≤ 1099511627776) (hbb : b' ≤ b) :
    CrashMid w1 (w2.alloc (.cells #[.slice A l.length c, .int .i64 (szF (flV l) : Int)] 49)) w2.heap.size m b := by
  obtain ⟨V, hV, h1, h2, h3, h4⟩ := looked_box 49 hv hs hwt (by omega) hB
  rw [← hV]
  exact ⟨A, c, l, h4, hfl, by omega, h1, hB.size⟩
set_option maxRecDepth 100000 in
set_option maxHeartbeats 3200000 in
theorem dcrash_any (x : Dl) (keep tear : Int) (w : World) (h : DIn w w.heap.size x) (ok : DOk x) :
    Calls Try.prog 8 #[x.val, .int .i64 keep, .int .i64 tear] w fun e w' => Gives w w' e (crashD x.d keep tear) := by
  obtain ⟨V, hV, hVb, hVs, oD, oR⟩ := do_box w x
  have hk := h.keep hVb
  have y1 := Lib.hid (dcheck_any x V hk ok)
  have H := Lib.hid (And.intro hVb (And.intro hVs (And.intro oR (And.intro ok (And.intro hk oD)))))
  obtain ⟨d0, d1, d2, d3, d4⟩ := own5 oD
  unfold Dl.val at y1
  unfold chkD at y1
  unfold Dl.val crashD
  clear h ok hk hVb hVs oD oR
  cases hg : goodD x.d
  · rw [hg] at y1
    simp only [Bool.false_eq_true, if_false] at y1 ⊢
    clear hg
    go_enter Try.func8, Try.ntmps8
    go_upto_region 1 with fail
    rw [← hV]
    clear hV
    go_wp2_with fail
    refine y1.out.mono ?_
    rintro _ w1 ⟨rfl, b1⟩
    have oR1 := H.out.2.2.1.past b1 H.out.2.2.1.inside
    obtain ⟨r0, r1, r2, r3, r4⟩ := own5 oR1
    obtain ⟨f0, f1, f2, f3, f4⟩ := open5 oR1
    have oE := set5_own oR1 (.slice none 0 0) (.slice none 0 0) (.int .i64 0) (.bool false) (.int .i64 0)
    have kE := set5_kept w1 (w.heap.size + 1) (.slice none 0 0) (.slice none 0 0) (.int .i64 0) (.bool false) (.int .i64 0)
    have hbw : Below w.heap.size w w1 := H.out.1.trans (b1.mono H.out.1.size)
    have HX := Lib.hid (hbw.trans (kE.below (fun k e => by omega) hbw.size))
    unfold set5 at oE HX
    obtain ⟨e0, e1, e2, e3, e4⟩ := own5 oE
    clear oR1 oE kE hbw b1 y1 d0 d1 d2 d3 d4
    go_wp2_with fail
    exact bodyPost_ret (v := .tuple #[.agg #[.slice none 0 0, .slice none 0 0, .int .i64 0, .bool false, .int .i64 0], .int .i64 8]) (by simp [results, Try.results8, go_sem, e0, e1, e2, e3, e4]) rfl ⟨HX.out, zeroDl, rfl, rfl, zero_din _⟩
  · rw [hg] at y1
    simp only [if_true] at y1 ⊢
    clear hg
    obtain ⟨q, hq⟩ : ∃ q, q = keepN keep x.waits.length := ⟨_, rfl⟩
    have hq1 : q ≤ x.waits.length := by rw [hq]; unfold keepN; omega
    have hq2 : (min (max keep 0) (x.waits.length : Int)) = (q : Int) := by rw [hq]; unfold keepN; omega
    have HQ := Lib.hid hq
    have hlw : x.waits.length ≤ 1099511627776 := by have := len_le_wtW x.waits; have := H.out.2.2.2.1.wt; unfold wtD Dl.d at this; dsimp only at this; omega
    clear hq
    go_enter Try.func8, Try.ntmps8
    go_upto_region 1 with fail
    rw [← hV]
    clear hV
    go_wp2_with fail
    refine y1.out.mono ?_
    rintro _ w1 ⟨rfl, b1⟩
    have oD1 := H.out.2.2.2.2.2.past b1 H.out.2.2.2.2.2.inside
    have k1 := H.out.2.2.2.2.1.keep b1
    clear d0 d1 d2 d3 d4 y1
    obtain ⟨d0, d1, d2, d3, d4⟩ := own5 oD1
    have H1 := Lib.hid (And.intro b1 (And.intro oD1 k1))
    have hcap : (q : Int) ≤ (x.wc : Int) := by have := k1.cap; omega
    have hq0 : (0 : Int) ≤ (q : Int) := by omega
    have hq3 : (q : Int).toNat = q := by omega
    clear b1 oD1 k1
    have htk : (x.waits.take q).length = q := by rw [List.length_take]; omega
    have y2 := fun W (hb : Below w1.heap.size w1 W) => Lib.hid (look_any x.fA x.wA x.fc x.wc x.files (x.waits.take q) W (H1.out.2.2.keep hb).files (lies_take (H1.out.2.2.keep hb).waits) (by have := wtW_le x.waits q; have := H.out.2.2.2.1.wt; unfold wtD Dl.d at this; dsimp only at this; omega))
    rw [htk] at y2
    have hbx := visbox w1
    have hDw : w.heap.size < w1.heap.size := H1.out.2.1.inside
    have d0' : (w1.alloc (.cells #[.slice none 0 0, .int .i64 0] 49)).cell? ⟨w.heap.size, 0, none⟩ = some (.slice x.fA x.files.length x.fc) := (hbx.1.cell (p := ⟨w.heap.size, 0, none⟩) hDw).trans d0
    have d1' : (w1.alloc (.cells #[.slice none 0 0, .int .i64 0] 49)).cell? ⟨w.heap.size, 1, none⟩ = some (.slice x.wA x.waits.length x.wc) := (hbx.1.cell (p := ⟨w.heap.size, 1, none⟩) hDw).trans d1
    go_wp2_with fail
    go_cut [9] (fun s9 wx => ∃ G, s9 = .pointer (some ⟨G, 0, none⟩) ∧ CrashMid w1 wx G (lookF x.files (x.waits.take q)) (wtF x.files + wtW (x.waits.take q)))
    case first =>
      go_region_with (go_at_call 20; refine (y2 _ (by first | exact hbx.1 | exact Below.drew (Below.refl _ _))).out.mono ?_; rintro _ w2 ⟨A, c, l, rfl, hv, hfl, hs, hwt, hB⟩; replace hfl := Lib.hid hfl; first | (have ob := hbx.2.past hB hbx.2.inside; have p0 := ob.at_ 0; have p1 := ob.at_ 1; have z0 := ob.open_ 0; have z1 := ob.open_ 1; simp only [List.getElem?_cons_zero, List.getElem?_cons_succ] at p0 p1) | skip)
      all_goals
        go_wp2_with fail
        go_meet
        first
          | exact ⟨_, rfl, crash_mid1 (w1 := w1) hbx.1 ob hv hfl.out hs hwt hB (by have := wtW_le x.waits q; have := H.out.2.2.2.1.wt; unfold wtD Dl.d at this; dsimp only at this; omega) (Nat.le_refl _)⟩
          | exact ⟨_, rfl, crash_mid2 (w1 := w1) hv hfl.out hs hwt (below_undrew hB) (by have := wtW_le x.waits q; have := H.out.2.2.2.1.wt; unfold wtD Dl.d at this; dsimp only at this; omega) (Nat.le_refl _)⟩
    case rest =>
      obtain ⟨G, rfl, A, c, l, hat, hfl, hwt, hB, hGb⟩ := hcut
      have oD2 := H1.out.2.1.past hB H1.out.2.1.inside
      have k2 := H1.out.2.2.keep hB
      have oR2 := (H.out.2.2.1.past H1.out.1 H.out.2.2.1.inside).past hB (H.out.2.2.1.past H1.out.1 H.out.2.2.1.inside).inside
      have hbw : Below w.heap.size w wc := H.out.1.trans ((H1.out.1.trans (hB.mono H1.out.1.size)).mono H.out.1.size)
      clear d0 d1 d2 d3 d4 d0' d1' hbx y2
      obtain ⟨d0, d1, d2, d3, d4⟩ := own5 oD2
      have hGw := hat.inside
      have HC := Lib.hid (And.intro hat (And.intro hfl (And.intro hwt (And.intro oD2 (And.intro k2 (And.intro oR2 hbw))))))
      clear hat hfl hwt oD2 k2 oR2 hbw hB
      obtain ⟨t6, ht6⟩ : ∃ t6, t6 = (match x.waits[q]? with | some r => decide (r.k = 1 ∧ 1 ≤ tear) | none => false) := ⟨_, rfl⟩
      have HT := Lib.hid ht6
      clear ht6
      go_upto_region 6 with fail
      go_cut [47] (fun s47 wx => s47 = .bool t6 ∧ wc = wx)
      case first =>
        by_cases hlt : q < x.waits.length
        · have hx : x.waits[q]? = some x.waits[q] := List.getElem?_eq_getElem hlt
          have ht := HT.out
          rw [hx] at ht
          obtain ⟨b, o, hA, hB, hxs⟩ := HC.out.2.2.2.2.1.waits (by omega)
          have x0 := hxs q _ hx 0 _ rfl
          rw [hA] at d1
          generalize x.waits[q] = r at *
          dsimp only at ht
          simp only [Nat.add_zero] at x0
          have hwq : q < x.wc := by have := HC.out.2.2.2.2.1.cap; omega
          by_cases hk1 : r.k = 1
          · by_cases hte : 1 ≤ tear
            · have t1 : decide (1 ≤ tear) = true := decide_eq_true hte
              have hz := Lib.hid (show t6 = true by rw [ht]; exact decide_eq_true ⟨hk1, hte⟩)
              rw [hk1] at x0
              clear hte ht hk1 hx hxs
              go_wp2_with fail
              go_meet
              exact ⟨by rw [hz.out], rfl⟩
            · have t1 : decide (1 ≤ tear) = false := decide_eq_false hte
              have hz := Lib.hid (show t6 = false by rw [ht]; exact decide_eq_false (fun e => hte e.2))
              rw [hk1] at x0
              clear hte ht hk1 hx hxs
              go_wp2_with fail
              go_meet
              exact ⟨by rw [hz.out], rfl⟩
          · have t1 : (r.k == 1) = false := beq_eq_false_iff_ne.2 hk1
            have hz := Lib.hid (show t6 = false by rw [ht]; exact decide_eq_false (fun e => hk1 e.1))
            clear ht hk1 hx hxs
            go_wp2_with fail
            go_meet
            exact ⟨by rw [hz.out], rfl⟩
        · have hz := Lib.hid (show t6 = false by rw [HT.out, List.getElem?_eq_none (by omega)])
          have t1 : decide (q < x.waits.length) = false := decide_eq_false hlt
          have t2 : decide ((q : Int) < (x.waits.length : Int)) = false := decide_eq_false (by omega)
          clear hlt
          go_wp2_with fail
          go_meet
          exact ⟨by rw [hz.out], rfl⟩
      case rest =>
        obtain ⟨rfl, rfl⟩ := hcut
        go_upto_if 47 with fail
        go_cut [8] (fun s8 wx => s8 = .int .i64 0 ∧ CrashEnd w wx w1 G x keep tear)
        case first =>
          cases t6
          · have hz := HT.out
            have he : leftD x.d keep tear = lookF x.files (x.waits.take q) := by
              rw [left_eq HQ.out]
              cases hx : x.waits[q]? with
              | none => rfl
              | some r =>
                rw [hx] at hz
                have h2 := of_decide_eq_false hz.symm
                exact if_neg h2
            have HE := Lib.hid he
            clear hz he
            go_wp2_with fail
            go_meet
            exact ⟨rfl, A, c, l, _, HC.out.1, by rw [HE.out]; exact HC.out.2.1, HC.out.2.2.2.1, HC.out.2.2.2.2.2.1, HC.out.2.2.2.2.2.2, hGb⟩
          · obtain ⟨r, hx, hk1, hte⟩ : ∃ r, x.waits[q]? = some r ∧ r.k = 1 ∧ 1 ≤ tear := by
              have hz := HT.out
              cases hx : x.waits[q]? with
              | none => rw [hx] at hz; cases hz
              | some r =>
                rw [hx] at hz
                have h2 := of_decide_eq_true hz.symm
                exact ⟨r, rfl, h2.1, h2.2⟩
            have hlt := (List.getElem?_eq_some_iff.1 hx).1
            have he : leftD x.d keep tear = extF (lookF x.files (x.waits.take q)) r.n (r.d.extract 0 (min tear.toNat r.d.size)) := by
              rw [left_eq HQ.out, hx]
              exact if_pos ⟨hk1, hte⟩
            have HE := Lib.hid he
            obtain ⟨b, o, hA, hB, hxs⟩ := HC.out.2.2.2.2.1.waits (by omega)
            have x0 := hxs q _ hx 0 _ rfl
            have x1 := hxs q _ hx 1 _ rfl
            have x2 := hxs q _ hx 2 _ rfl
            have x3 := hxs q _ hx 3 _ rfl
            rw [hA] at d1
            clear hA
            simp only [Nat.add_zero] at x0
            obtain ⟨m, hm⟩ : ∃ m, m = min tear.toNat r.d.size := ⟨_, rfl⟩
            have hm1 : m ≤ r.d.size := by omega
            have hm2 : (min tear (r.d.size : Int)) = (m : Int) := by omega
            have hm3 : (m : Int) ≤ (r.d.size : Int) := by omega
            have hm0 : (0 : Int) ≤ (m : Int) := by omega
            have hsz : (r.d.extract 0 m).size ≤ r.d.size := by rw [ByteArray.size_extract]; omega
            rw [← hm] at HE
            have hwx : wtW (x.waits.take q) + 2 + r.d.size ≤ wtW x.waits := by have := wtW_take hx; have := wtW_le x.waits (q + 1); omega
            obtain ⟨W5, hW5, bW5, sW5, oW5⟩ := wrbox wc r
            have y5 := fun W (hb : Below W5.heap.size W5 W) => Lib.hid (extend_any w1.heap.size G 0 _ _ A c l r.n (r.d.extract 0 m) W ((HC.out.1.below bW5).below hb) (by have h1 := HC.out.2.2.1; have h2 := H.out.2.2.2.1.wt; unfold wtD Dl.d at h2; dsimp only at h2; omega))
            have e0 := oW5.at_ 0
            have e1 := oW5.at_ 1
            have e2 := oW5.at_ 2
            have e3 := oW5.at_ 3
            simp only [Wr.cells, List.getElem?_cons_zero, List.getElem?_cons_succ] at e0 e1 e2 e3
            have H5 := Lib.hid bW5
            have hB10 := oW5.inside
            have hwq : q < x.wc := by have := HC.out.2.2.2.2.1.cap; omega
            have hex : ByteArray.extract r.d 0 m = r.d.extract 0 m := rfl
            have hVs := Lib.hid H.out.2.1
            clear hx hk1 hte he hxs hsz hwx bW5 sW5 oW5 hm
            go_upto_region 8 with fail
            rw [← hW5]
            clear hW5
            have g0 := fun p : Past W5 => (p.h.cell (p := ⟨wc.heap.size, 0, none⟩) hB10).trans e0
            have g1 := fun p : Past W5 => (p.h.cell (p := ⟨wc.heap.size, 1, none⟩) hB10).trans e1
            have g2 := fun p : Past W5 => (p.h.cell (p := ⟨wc.heap.size, 2, none⟩) hB10).trans e2
            have g3 := fun p : Past W5 => (p.h.cell (p := ⟨wc.heap.size, 3, none⟩) hB10).trans e3
            clear e0 e1 e2 e3
            refine wp_region_past_tail W5 10 (by kernel_rfl) (by kernel_rfl) (Below.refl _ _) ?_
            repeat (first | go_big_quiet_step (fail) | quiet_step (fail))
            refine wpQuiet_nil ?_
            intro wz hw'
            obtain ⟨⟨wy, hbz⟩, hw''⟩ := hw'
            dsimp only at hw''
            subst hw''
            go_wp2_with fail
            refine (y5 _ hbz).out.mono ?_
            rintro _ w6 ⟨rfl, A', c', l', hv6, hfl6, _⟩
            replace hfl6 := Lib.hid hfl6
            have kk := hv6.kept
            have hG1 : w.heap.size + 1 < w1.heap.size := by have := H1.out.1.size; have := hVs.out; omega
            have hno : ∀ z, z < w1.heap.size → ¬ (z = G ∨ Fp A l z) := fun z hz e => by
              rcases e with e | e
              · omega
              · have := (HC.out.1.vis.lt z e).1; omega
            have oD6 := kk.own (((HC.out.2.2.2.1.past H5.out HC.out.2.2.2.1.inside).past hbz (HC.out.2.2.2.1.past H5.out HC.out.2.2.2.1.inside).inside)) (hno _ (by omega))
            have oR6 := kk.own (((HC.out.2.2.2.2.2.1.past H5.out HC.out.2.2.2.2.2.1.inside).past hbz (HC.out.2.2.2.2.2.1.past H5.out HC.out.2.2.2.2.2.1.inside).inside)) (hno _ (by omega))
            have hbz2 : Below w.heap.size w wz := HC.out.2.2.2.2.2.2.trans ((H5.out.trans (hbz.mono H5.out.size)).mono HC.out.2.2.2.2.2.2.size)
            have hbw6 : Below w.heap.size w w6 := hbz2.trans (kk.below (fun z e => by
              rcases e with e | e
              · omega
              · have := (HC.out.1.vis.lt z e).1; omega) hbz2.size)
            have HE6 := Lib.hid (And.intro hv6.at_ (And.intro oD6 (And.intro oR6 hbw6)))
            clear hv6 kk oD6 oR6 hbw6 hno y5
            go_wp2_with fail
            go_meet
            exact ⟨rfl, A', c', l', _, HE6.out.1, by rw [hfl6.out, HE.out, HC.out.2.1], HE6.out.2.1, HE6.out.2.2.1, HE6.out.2.2.2, hGb⟩
        case rest =>
          obtain ⟨rfl, A', c', l', cs', hat, hfl, oD2, oR2, hbw, _⟩ := hcut
          have y9 := fun W (hb : Below wc.heap.size wc W) => Lib.hid (list_any w1.heap.size G 0 _ _ A' c' l' W (hat.below hb))
          have hln : l'.length = (leftD x.d keep tear).length := by rw [← hfl]; unfold flV; simp
          rw [hfl, hln] at y9
          clear d0 d1 d2 d3 d4
          obtain ⟨d0, d1, d2, d3, d4⟩ := own5 oD2
          have HL := Lib.hid (And.intro oD2 (And.intro oR2 hbw))
          clear hat hfl hln oD2 oR2 hbw
          go_wp2_with fail
          go_region_with (go_at_call 18; refine (y9 _ (Below.drew (Below.refl _ _))).out.mono ?_; rintro _ w7 ⟨v, rfl, rv, b7⟩; obtain ⟨A2, c2', rfl⟩ := row_slice rv; have oD7 := (own_drew HL.out.1).past b7 (own_drew HL.out.1).inside; have oR7 := (own_drew HL.out.2.1).past b7 (own_drew HL.out.2.1).inside; obtain ⟨g0, g1, g2, g3, g4⟩ := own5 oD7; obtain ⟨r0, r1, r2, r3, r4⟩ := own5 oR7; obtain ⟨f0, f1, f2, f3, f4⟩ := open5 oR7)
          all_goals
            have oE := set5_own oR7 (.slice A2 (leftD x.d keep tear).length c2') (.slice none 0 0) (.int .i64 x.room) (.bool false) (.int .i64 (-1))
            have kE := set5_kept w7 (w.heap.size + 1) (.slice A2 (leftD x.d keep tear).length c2') (.slice none 0 0) (.int .i64 x.room) (.bool false) (.int .i64 (-1))
            have hbw7 : Below w.heap.size w w7 := HL.out.2.2.trans ((below_undrew b7).mono HL.out.2.2.size)
            have hRl : w.heap.size + 1 < wc.heap.size := HL.out.2.1.inside
            have HF := Lib.hid (And.intro (hbw7.trans (kE.below (fun k e => by omega) hbw7.size)) (row_lies (size := 2) (cells := Fl.cells) (by decide) (fun _ => rfl) (kE.row rv (fun k e he => by have h1 : wc.heap.size ≤ k := (rv.lt k e).1; omega))))
            unfold set5 at oE HF
            obtain ⟨e0, e1, e2, e3, e4⟩ := own5 oE
            clear oE kE hbw7 rv b7 oD7 oR7 y9
            go_wp2_with fail
            exact bodyPost_ret (v := .tuple #[.agg #[.slice A2 (leftD x.d keep tear).length c2', .slice none 0 0, .int .i64 x.room, .bool false, .int .i64 (-1)], .int .i64 0]) (by simp [results, Try.results8, go_sem, e0, e1, e2, e3, e4]) rfl ⟨HF.out.1, ⟨A2, c2', leftD x.d keep tear, none, 0, [], x.room, false, -1⟩, rfl, rfl, HF.out.2, fun h => absurd h (by simp), Nat.le_refl _⟩
end Go.Proofs.Ytmddiiidofmklaa
namespace Go.Proofs.Ytmddiiidofmklaa
open Go Go.RowKit

def nA : ByteArray := ⟨#[97]⟩
def nB : ByteArray := ⟨#[98]⟩
def nC : ByteArray := ⟨#[99]⟩
def tX : ByteArray := ⟨#[120]⟩
def tYZ : ByteArray := ⟨#[121, 122]⟩
def tXYZ : ByteArray := ⟨#[120, 121, 122]⟩
def tXY : ByteArray := ⟨#[120, 121]⟩
def t7 : ByteArray := ⟨#[49, 50, 51, 52, 53, 54, 55]⟩
def e0 : ByteArray := ⟨#[]⟩
def wA : Wr := ⟨1, nA, e0, tX⟩
def wB : Wr := ⟨1, nA, e0, tYZ⟩
def wC : Wr := ⟨2, nA, nB, e0⟩
def wD : Wr := ⟨1, nC, e0, t7⟩
def k0 : Dk := ⟨[], [], 9, false, -1⟩
def k1 : Dk := ⟨[], [wA], 9, false, -1⟩
def k2 : Dk := ⟨[⟨nA, tX⟩], [], 9, false, -1⟩
def k3 : Dk := ⟨[⟨nA, tX⟩], [wB, wC], 9, false, -1⟩
def k4 : Dk := ⟨[⟨nA, tXY⟩], [], 9, false, -1⟩
theorem lv1 : doD k0 [wA] = (k1, 0) := by kernel_rfl
theorem lv2 : syncD k1 = (k2, 0) := by kernel_rfl
theorem lv3 : doD k2 [wB, wC] = (k3, 0) := by kernel_rfl
theorem lv4 : readD k3 nB = (tXYZ, 0) := by kernel_rfl
theorem lv5 : crashD k3 0 1 = (k4, 0) := by kernel_rfl
theorem lv6 : readD k4 nA = (tXY, 0) := by kernel_rfl
theorem lv7 : (doD k3 [wD]).2 = 9 := by kernel_rfl
end Go.Proofs.Ytmddiiidofmklaa
namespace Go.Proofs.Ytmddiiidofmklaa
open Go Go.RowKit

theorem lies4_own {W : World} {G : Nat} {t : TypeId} {l : List Wr} (h : Own W G t (l.flatMap Wr.cells)) : Lies 4 Wr.cells W W.heap.size (some ⟨G, 0, none⟩) l := fun _ =>
  ⟨G, 0, rfl, h.inside, fun i x hi j u hj => by rw [show 0 + i * 4 + j = i * 4 + j by omega, h.at_]; exact flat_of (size := 4) (cells := Wr.cells) (fun _ => rfl) l i j x u hi hj⟩
structure DTold (k : Dk) (n : Nat) : Prop where
  wt : wtD k + n ≤ 1099511627776
  fuse : -9223372036854775808 ≤ k.fuse ∧ k.fuse ≤ 9223372036854775807
theorem DTold.ok {y : Dl} {k : Dk} {n : Nat} (h : DTold k n) (e : y.d = k) : DOk y := by
  subst e; exact ⟨by have := h.wt; omega, h.fuse⟩
/-- a disk told and an error, handed back -/
def Gv (w w' : World) (e : Ending) (k : Dk) (n : Int) : Prop :=
  Below w.heap.size w w' ∧ ∃ z : Dl, e = .returned (.tuple #[.agg #[.slice z.fA z.files.length z.fc, .slice z.wA z.waits.length z.wc, .int .i64 z.room, .bool z.down, .int .i64 z.fuse], .int .i64 n]) ∧ z.d = k ∧ DIn w' w'.heap.size z
theorem do_at {W : World} {y : Dl} {k k' : Dk} {n : Int} {ws : List Wr} {B : Option Addr} (c : Nat) (hd : DIn W W.heap.size y) (hk : y.d = k) (hs : doD k ws = (k', n)) (hws : Lies 4 Wr.cells W W.heap.size B ws) (ht : DTold k (wtW ws)) :
    RowKit.Hid (Calls Try.prog 6 #[.agg #[.slice y.fA y.files.length y.fc, .slice y.wA y.waits.length y.wc, .int .i64 y.room, .bool y.down, .int .i64 y.fuse], .slice B ws.length c] W fun e w' => Gv W w' e k' n) := by
  subst hk
  have h := do_any y B c ws W hd hws (ht.ok rfl) ht.wt
  rw [hs] at h
  exact Lib.hid h
theorem sync_at {W : World} {y : Dl} {k k' : Dk} {n : Int} (hd : DIn W W.heap.size y) (hk : y.d = k) (hs : syncD k = (k', n)) (ht : DTold k 0) :
    RowKit.Hid (Calls Try.prog 7 #[.agg #[.slice y.fA y.files.length y.fc, .slice y.wA y.waits.length y.wc, .int .i64 y.room, .bool y.down, .int .i64 y.fuse]] W fun e w' => Gv W w' e k' n) := by
  subst hk
  have h := dsync_any y W hd (ht.ok rfl)
  rw [hs] at h
  exact Lib.hid h
theorem crash_at {W : World} {y : Dl} {k k' : Dk} {n : Int} (a b : Int) (hd : DIn W W.heap.size y) (hk : y.d = k) (hs : crashD k a b = (k', n)) (ht : DTold k 0) :
    RowKit.Hid (Calls Try.prog 8 #[.agg #[.slice y.fA y.files.length y.fc, .slice y.wA y.waits.length y.wc, .int .i64 y.room, .bool y.down, .int .i64 y.fuse], .int .i64 a, .int .i64 b] W fun e w' => Gv W w' e k' n) := by
  subst hk
  have h := dcrash_any y a b W hd (ht.ok rfl)
  rw [hs] at h
  exact Lib.hid h
theorem read_at {W : World} {y : Dl} {k : Dk} {n : Int} {s : ByteArray} (a : ByteArray) (hd : DIn W W.heap.size y) (hk : y.d = k) (hs : readD k a = (s, n)) (ht : DTold k 0) :
    RowKit.Hid (Calls Try.prog 9 #[.agg #[.slice y.fA y.files.length y.fc, .slice y.wA y.waits.length y.wc, .int .i64 y.room, .bool y.down, .int .i64 y.fuse], .string a] W fun e w' => e = .returned (.tuple #[.string s, .int .i64 n]) ∧ Below W.heap.size W w') := by
  subst hk
  have h := dread_any y a W hd (ht.ok rfl)
  rw [hs] at h
  exact Lib.hid h
/-- the same, in new memory -/
def GvN (w w' : World) (e : Ending) (k : Dk) (n : Int) : Prop :=
  Below w.heap.size w w' ∧ ∃ z : Dl, e = .returned (.tuple #[.agg #[.slice z.fA z.files.length z.fc, .slice z.wA z.waits.length z.wc, .int .i64 z.room, .bool z.down, .int .i64 z.fuse], .int .i64 n]) ∧ z.d = k ∧ DIn w' w'.heap.size z ∧ NewD w.heap.size z
theorem do_atN {W : World} {y : Dl} {k k' : Dk} {n : Int} {ws : List Wr} {B : Option Addr} (c : Nat) (hd : DIn W W.heap.size y) (hk : y.d = k) (hs : doD k ws = (k', n)) (hws : Lies 4 Wr.cells W W.heap.size B ws) (ht : DTold k (wtW ws)) :
    RowKit.Hid (Calls Try.prog 6 #[.agg #[.slice y.fA y.files.length y.fc, .slice y.wA y.waits.length y.wc, .int .i64 y.room, .bool y.down, .int .i64 y.fuse], .slice B ws.length c] W fun e w' => GvN W w' e k' n) := by
  subst hk
  have h := do_anyN y B c ws W hd hws (ht.ok rfl) ht.wt
  rw [hs] at h
  exact Lib.hid h
theorem sync_atN {W : World} {y : Dl} {k k' : Dk} {n : Int} (hd : DIn W W.heap.size y) (hk : y.d = k) (hs : syncD k = (k', n)) (ht : DTold k 0) :
    RowKit.Hid (Calls Try.prog 7 #[.agg #[.slice y.fA y.files.length y.fc, .slice y.wA y.waits.length y.wc, .int .i64 y.room, .bool y.down, .int .i64 y.fuse]] W fun e w' => GvN W w' e k' n) := by
  subst hk
  have h := dsync_anyN y W hd (ht.ok rfl)
  rw [hs] at h
  exact Lib.hid h
/-- what lies as files or writes lies in no variable of a disk -/
theorem off_files {w : World} {B G : Nat} {t : TypeId} {y : Dl} {A : Option Addr} {l : List Fl} (h : Lies 2 Fl.cells w B A l) (o : Own w G t y.cells) : 0 < l.length → ∀ b q, A = some ⟨b, q, none⟩ → b ≠ G := fun hp b q e hb => by
  subst hb
  obtain ⟨b', q', e', _, hc⟩ := h hp
  rw [e] at e'
  obtain ⟨rfl, rfl⟩ : b = b' ∧ q = q' := by
    injection e' with e'; injection e' with e1 e2; exact ⟨e1, e2⟩
  have h0 := hc 0 l[0] (List.getElem?_eq_getElem hp) 0 _ rfl
  rw [o.at_] at h0
  unfold Dl.cells at h0
  match q, h0 with
  | 0, h0 => cases h0
  | 1, h0 => cases h0
  | 2, h0 => cases h0
  | 3, h0 => cases h0
  | 4, h0 => cases h0
  | q + 5, h0 => simp at h0
theorem off_waits {w : World} {B G : Nat} {t : TypeId} {y : Dl} {A : Option Addr} {l : List Wr} (h : Lies 4 Wr.cells w B A l) (o : Own w G t y.cells) : 0 < l.length → ∀ b q, A = some ⟨b, q, none⟩ → b ≠ G := fun hp b q e hb => by
  subst hb
  obtain ⟨b', q', e', _, hc⟩ := h hp
  rw [e] at e'
  obtain ⟨rfl, rfl⟩ : b = b' ∧ q = q' := by
    injection e' with e'; injection e' with e1 e2; exact ⟨e1, e2⟩
  have h0 := hc 0 l[0] (List.getElem?_eq_getElem hp) 0 _ rfl
  rw [o.at_] at h0
  unfold Dl.cells at h0
  match q, h0 with
  | 0, h0 => cases h0
  | 1, h0 => cases h0
  | 2, h0 => cases h0
  | 3, h0 => cases h0
  | 4, h0 => cases h0
  | q + 5, h0 => simp at h0
theorem kept_cell {w w' : World} {S : Nat → Prop} {b q : Nat} {u : Value} (k : Kept w w' S) (hn : ¬ S b) (hb : b < w.heap.size) (h : w.cell? ⟨b, q, none⟩ = some u) : w'.cell? ⟨b, q, none⟩ = some u := by
  have e := k.block b hb hn
  unfold World.cell? at h ⊢
  dsimp only at h ⊢
  rw [e]; exact h
/-- a variable that holds a disk, another one stored to it -/
theorem var_set {w : World} {G : Nat} {y z : Dl} (o : Own w G 28 y.cells) (h : DIn w w.heap.size z) :
    ∃ W, W = ((((w.setCell ⟨G, 0, none⟩ (.slice z.fA z.files.length z.fc)).setCell ⟨G, 1, none⟩ (.slice z.wA z.waits.length z.wc)).setCell ⟨G, 2, none⟩ (.int .i64 z.room)).setCell ⟨G, 3, none⟩ (.bool z.down)).setCell ⟨G, 4, none⟩ (.int .i64 z.fuse) ∧
      Own W G 28 z.cells ∧ DIn W W.heap.size z ∧ (∀ B, B ≤ G → Below B w W) := by
  have k := set5_kept w G (.slice z.fA z.files.length z.fc) (.slice z.wA z.waits.length z.wc) (.int .i64 z.room) (.bool z.down) (.int .i64 z.fuse)
  have oE := set5_own o (.slice z.fA z.files.length z.fc) (.slice z.wA z.waits.length z.wc) (.int .i64 z.room) (.bool z.down) (.int .i64 z.fuse)
  refine ⟨_, rfl, oE, ⟨fun hp => ?_, fun hp => ?_, h.cap⟩, fun B hB => k.below (fun b e => by omega) (by have := o.inside; omega)⟩
  · obtain ⟨b, q, e, hb, hc⟩ := h.files hp
    exact ⟨b, q, e, Nat.lt_of_lt_of_le hb k.size, fun i x hi j u hj => kept_cell k (off_files h.files o hp b q e) hb (hc i x hi j u hj)⟩
  · obtain ⟨b, q, e, hb, hc⟩ := h.waits hp
    exact ⟨b, q, e, Nat.lt_of_lt_of_le hb k.size, fun i x hi j u hj => kept_cell k (off_waits h.waits o hp b q e) hb (hc i x hi j u hj)⟩
theorem var_new {w : World} {z : Dl} (h : DIn w w.heap.size z) :
    ∃ W, W = w.alloc (.cells #[.slice z.fA z.files.length z.fc, .slice z.wA z.waits.length z.wc, .int .i64 z.room, .bool z.down, .int .i64 z.fuse] 28) ∧
      Own W w.heap.size 28 z.cells ∧ DIn W W.heap.size z ∧ Below w.heap.size w W := by
  obtain ⟨W, hW, hb, _, o⟩ := dbox w z
  exact ⟨W, hW, o, h.keep hb, hb⟩
end Go.Proofs.Ytmddiiidofmklaa
namespace Go.Proofs.Ytmddiiidofmklaa
open Go Go.RowKit

def kB0 : Dk := ⟨[], [], 1099511627776, false, -1⟩
def kB1 : Dk := ⟨[], [wA], 1099511627776, false, -1⟩
theorem bg1 : doD kB0 [wA] = (kB1, 0) := by kernel_rfl
theorem bg2 : readD kB1 nA = (tX, 0) := by kernel_rfl
theorem bt0 : DTold kB0 (wtW [wA]) := ⟨by decide, by decide⟩
theorem bt1 : DTold kB1 0 := ⟨by decide, by decide⟩
theorem sum_nine : sumS (⟨#[49, 50, 51, 52, 53, 54, 55, 56, 57]⟩ : ByteArray).data.toList = 3808858755 := sumS_digits
set_option maxRecDepth 100000 in
set_option maxHeartbeats 3200000 in
theorem begins_true (w : World) : Calls Try.prog 4 #[] w fun e w' => e = .returned (.bool true) ∧ Below w.heap.size w w' := by
  obtain ⟨V1, hV1, bV1, sV1, oV1⟩ := wrbox w ⟨1, ⟨#[97]⟩, ⟨#[]⟩, ⟨#[120]⟩⟩
  have hc := do_at (W := V1) (y := ⟨none, 0, [], none, 0, [], 1099511627776, false, -1⟩) (B := some ⟨w.heap.size, 0, none⟩) 1 ⟨fun h => absurd h (by decide), fun h => absurd h (by decide), Nat.le_refl _⟩ rfl bg1 (lies4_own (t := 36) (l := [wA]) oV1) bt0
  have tx : (tX.toList == [120]) = true := by kernel_rfl
  have hsum := Lib.hid (fun W => sum_any ⟨#[49, 50, 51, 52, 53, 54, 55, 56, 57]⟩ W (by decide))
  rw [sum_nine] at hsum
  have H1 := Lib.hid bV1
  clear bV1 sV1 oV1
  go_enter Try.func4, Try.ntmps4
  go_wp2_with fail
  rw [← hV1]
  clear hV1
  refine hc.out.mono ?_
  rintro _ w2 ⟨b2, z1, rfl, hz1, iz1⟩
  obtain ⟨W2, hW2, o2, i2, bW2⟩ := var_new iz1
  have hc2 := read_at ⟨#[97]⟩ i2 hz1 bg2 bt1
  have H2 := Lib.hid ((H1.out.trans (b2.mono H1.out.size)).trans (bW2.mono (Nat.le_trans H1.out.size b2.size)))
  obtain ⟨d0, d1, d2, d3, d4⟩ := own5 o2
  clear b2 hz1 iz1 bW2 i2 o2 hc
  go_upto_region 2 with fail
  rw [← hW2]
  clear hW2
  go_wp2_with fail
  refine hc2.out.mono ?_
  rintro _ w3 ⟨rfl, b3⟩
  have H3 := Lib.hid (H2.out.trans (b3.mono H2.out.size))
  clear b3 d0 d1 d2 d3 d4 hc2
  go_wp2_with fail
  refine (hsum.out _).mono ?_
  rintro _ w4 ⟨rfl, b4⟩
  have H4 := Lib.hid (H3.out.trans (b4.mono H3.out.size))
  clear b4
  go_wp2_with fail
  go_ret
  exact ⟨rfl, H4.out⟩
end Go.Proofs.Ytmddiiidofmklaa
namespace Go.Proofs.Ytmddiiidofmklaa
open Go Go.RowKit Go.ChangeShapes Go.WideShapes Go.ChangeAt Go.Deep

section
variable {H : Type} {enc : TypeId × Value → H} {P : Program} {w : World} {base : Nat} {spare : Nat → Bool} {held : Bool}
/-- the slice, its list; and what its reading tells of its length -/
theorem open_list_at {α : Type} [Inhabited α] {size : Nat} {cells : α → List Value} {OK : α → Prop} {t e : TypeId} (ht : P.underlying t = some (.slice e)) (hc : P.cellsOf e = size) (hpos : 0 < size) (hcl : ∀ x, (cells x).length = size)
    (dec : ∀ {n : Nat} {cs : List Value} {x : DataW H × List MemPlace}, DataW.trod enc P w base spare held n e cs = some x → ∃ a, cs = cells a ∧ OK a)
    {fuel : Nat} {cs : List Value} {x : DataW H × List MemPlace} (hf : DataW.trod enc P w base spare held fuel t cs = some x) :
    ∃ (A : Option Addr) (c : Nat) (l : List α), cs = [.slice A l.length c] ∧ l.length ≤ c ∧ c ≤ maxLen ∧ Lies size cells w w.heap.size A l ∧ (∀ a ∈ l, OK a) ∧ (x.1 = .nil ∧ l = [] ∧ c = 0 ∨ ∃ es sp, x.1 = .slice es sp ∧ es.length = l.length) := by
  rcases open_slice ht hf with ⟨e, hx⟩ | ⟨a, len, cap, m, n, D, Pl, e, hb, hl, hm, hmm, hx, hi⟩
  · subst e hx
    exact ⟨none, 0, [], rfl, by simp, by unfold maxLen; omega, fun h => absurd h (by simp), fun a ha => (by cases ha), .inl ⟨rfl, rfl, rfl⟩⟩
  · subst e hx
    obtain ⟨n0, rfl⟩ : ∃ n0, n0 = len := ⟨_, rfl⟩
    obtain ⟨c0, rfl⟩ : ∃ c0, c0 = cap := ⟨_, rfl⟩
    have hlm : n0 ≤ m := by rw [hmm]; split <;> omega
    rw [hc] at hi
    have hT : ∀ i, ∃ x : α, i < n0 → OK x ∧ ∀ (j : Nat) (u : Value), (cells x)[j]? = some u → w.cell? ((a.add (i * size)).add j) = some u := by
      intro i
      by_cases hil : i < n0
      · obtain ⟨cs', hcs, htr⟩ := hi i (by omega)
        obtain ⟨x, rfl, hok⟩ := dec htr
        obtain ⟨_, _, hat⟩ := World.cells?_some hcs
        refine ⟨x, fun _ => ⟨hok, fun j u hj => ?_⟩⟩
        have hjs : j < size := by have := (List.getElem?_eq_some_iff.1 hj).1; rw [hcl] at this; exact this
        rw [hat j hjs]
        exact hj
      · exact ⟨default, fun h => absurd h hil⟩
    obtain ⟨f, hf'⟩ : ∃ f : Nat → α, ∀ i, i < n0 → OK (f i) ∧ ∀ (j : Nat) (u : Value), (cells (f i))[j]? = some u → w.cell? ((a.add (i * size)).add j) = some u :=
      ⟨fun i => Classical.choose (hT i), fun i => Classical.choose_spec (hT i)⟩
    clear hT
    have hlen : ((List.range n0).map f).length = n0 := by simp
    refine ⟨some a, c0, (List.range n0).map f, by rw [hlen], by rw [hlen]; exact hl, hm, fun hp => ?_, fun x hx => ?_, .inr ⟨_, _, rfl, by simp⟩⟩
    · rw [hlen] at hp
      have hz : ((a.add (0 * size)).add 0) = a := by unfold Addr.add; simp
      obtain ⟨v0, h0⟩ : ∃ v0, w.cell? a = some v0 := by
        have h1 : 0 < (cells (f 0)).length := by rw [hcl]; exact hpos
        have := (hf' 0 hp).2 0 _ (List.getElem?_eq_getElem h1)
        rw [hz] at this
        exact ⟨_, this⟩
      have hspot : a.spot = none := by
        cases hs : a.spot with
        | none => rfl
        | some s =>
          unfold World.cell? at h0
          rw [hs] at h0
          split at h0 <;> simp at h0
      obtain ⟨b, o, sp⟩ := a
      simp only at hspot
      subst hspot
      have hadd : ∀ k j, ((⟨b, o, none⟩ : Addr).add k).add j = ⟨b, o + k + j, none⟩ := fun k j => by unfold Addr.add; split <;> split <;> simp_all
      refine ⟨b, o, rfl, World.block_lt_of_cell? w _ h0, fun i x hit j u hj => ?_⟩
      have hil : i < n0 := by have := (List.getElem?_eq_some_iff.1 hit).1; omega
      have hti : f i = x := by simpa [hil] using hit
      subst hti
      have := (hf' i hil).2 j u hj
      rwa [hadd] at this
    · obtain ⟨i, hi1, rfl⟩ := List.mem_map.1 hx
      exact (hf' i (List.mem_range.1 hi1)).1
theorem open_list {α : Type} [Inhabited α] {size : Nat} {cells : α → List Value} {OK : α → Prop} {t e : TypeId} (ht : P.underlying t = some (.slice e)) (hc : P.cellsOf e = size) (hpos : 0 < size) (hcl : ∀ x, (cells x).length = size)
    (dec : ∀ {n : Nat} {cs : List Value} {x : DataW H × List MemPlace}, DataW.trod enc P w base spare held n e cs = some x → ∃ a, cs = cells a ∧ OK a)
    {v : Value} {d : DataW H} {p : List MemPlace} {r : Reach} {b0 : Nat} (hv : Value.okWide P w r b0 t v) (h : DataW.Trod enc P w base spare held t v d p) :
    ∃ (A : Option Addr) (c : Nat) (l : List α), v = .slice A l.length c ∧ l.length ≤ c ∧ c ≤ maxLen ∧ Lies size cells w w.heap.size A l ∧ (∀ a ∈ l, OK a) ∧ (d = .nil ∧ l = [] ∧ c = 0 ∨ ∃ es sp, d = .slice es sp ∧ es.length = l.length) := by
  obtain ⟨a0, n0, c0, rfl⟩ := okWide_slice ht hv
  obtain ⟨fuel, hf⟩ := h
  obtain ⟨A, c, l, e, h1⟩ := open_list_at ht hc hpos hcl dec hf
  exact ⟨A, c, l, by simpa [Value.cells] using e, h1⟩
end
end Go.Proofs.Ytmddiiidofmklaa
namespace Go.Proofs.Ytmddiiidofmklaa
open Go Go.RowKit Go.ChangeShapes Go.WideShapes Go.ChangeAt Go.Deep
set_option maxRecDepth 100000

def cS (s : ByteArray) : List Value := [.string s]
def cB (b : Bool) : List Value := [.bool b]
theorem cS_len (s : ByteArray) : (cS s).length = 1 := rfl
theorem cB_len (b : Bool) : (cB b).length = 1 := rfl
theorem cS_one (s : ByteArray) : ∀ u ∈ cS s, u.oneCell' = true := by
  intro u hu
  obtain rfl : u = .string s := by simpa [cS] using hu
  rfl
theorem cS_map (l : List ByteArray) : l.flatMap cS = l.map Value.string := by
  induction l with
  | nil => rfl
  | cons s l ih => rw [List.flatMap_cons, ih]; rfl
instance : Inhabited ByteArray := ⟨⟨#[]⟩⟩
section
variable {H : Type} {enc : TypeId × Value → H} {w : World} {base : Nat} {spare : Nat → Bool} {held : Bool}
theorem open_texts {v : Value} {d : DataW H} {p : List MemPlace} {r : Reach} {b0 : Nat} (hv : Value.okWide Try.prog w r b0 22 v) (h : DataW.Trod enc Try.prog w base spare held 22 v d p) :
    ∃ (A : Option Addr) (c : Nat) (l : List ByteArray), v = .slice A l.length c ∧ l.length ≤ c ∧ c ≤ maxLen ∧ Lies 1 cS w w.heap.size A l ∧ (∀ a ∈ l, a.size ≤ maxLen) := by
  obtain ⟨A, c, l, e, h1, h2, h3, h4, h5⟩ := open_list (size := 1) (cells := cS) (OK := fun s => s.size ≤ maxLen) Try.underlying22 (by kernel_rfl) (by decide) cS_len (fun {n cs x} ht => by
    obtain ⟨s, e, _, hs⟩ := DataW.trod_string Try.underlying9 ht
    exact ⟨s, e, hs⟩) hv h
  exact ⟨A, c, l, e, h1, h2, h3, h4⟩
theorem open_truths {v : Value} {d : DataW H} {p : List MemPlace} {r : Reach} {b0 : Nat} (hv : Value.okWide Try.prog w r b0 23 v) (h : DataW.Trod enc Try.prog w base spare held 23 v d p) :
    ∃ (A : Option Addr) (c : Nat) (l : List Bool), v = .slice A l.length c ∧ l.length ≤ c ∧ c ≤ maxLen ∧ Lies 1 cB w w.heap.size A l := by
  obtain ⟨A, c, l, e, h1, h2, h3, h4, h5⟩ := open_list (size := 1) (cells := cB) (OK := fun _ => True) Try.underlying23 (by kernel_rfl) (by decide) cB_len (fun {n cs x} ht => by
    obtain ⟨s, e, _⟩ := DataW.trod_bool Try.underlying4 ht
    exact ⟨s, e, trivial⟩) hv h
  exact ⟨A, c, l, e, h1, h2, h3⟩
end
end Go.Proofs.Ytmddiiidofmklaa
namespace Go.Proofs.Ytmddiiidofmklaa
open Go Go.RowKit

theorem tk0 : DTold k0 (wtW [wA]) := ⟨by decide, by decide⟩
theorem tk1 : DTold k1 0 := ⟨by decide, by decide⟩
theorem tk2 : DTold k2 (wtW [wB, wC]) := ⟨by decide, by decide⟩
theorem tk3 : DTold k3 0 := ⟨by decide, by decide⟩
theorem tk3' : DTold k3 (wtW [wD]) := ⟨by decide, by decide⟩
theorem tk4 : DTold k4 0 := ⟨by decide, by decide⟩
theorem below_made {w v : World} {o : Obj} (h : Below (w.alloc o).heap.size (w.alloc o) v) : Below w.heap.size w v := ((Below.refl _ _).alloc (Nat.le_refl _) o).trans (h.mono (by simp))
def DkAt (z : Dl) (w : World) (P : Nat) : Prop := Own w P 28 z.cells
theorem own_made1 (w : World) (o : Obj) (t : TypeId) (l : List Value) : Own ((w.alloc o).alloc (.cells l.toArray t)) (w.heap.size + 1) t l := by
  have h := Own.made (w.alloc o) t l
  simp only [World.size_alloc] at h
  exact h
theorem undrew1 {w v : World} (h : Below w.drew.heap.size w.drew v) : Below w.heap.size w v := below_undrew h
theorem undrew2 {w v : World} {o : Obj} (h : Below (w.alloc o).drew.heap.size (w.alloc o).drew v) : Below w.heap.size w v := below_made (below_undrew h)
theorem past_made {w v : World} {t : TypeId} {l : List Value} (h : Below (w.alloc (.cells l.toArray t)).drew.heap.size (w.alloc (.cells l.toArray t)).drew v) : Own v w.heap.size t l := (own_drew (Own.made w t l)).past h (own_drew (Own.made w t l)).inside
theorem own_after {W w8 : World} {T : Nat} {t : TypeId} {l : List Value} (o : Own W T t l) (h : Below W.heap.size W w8) : Own w8 T t l := o.past h o.inside
theorem DkAt.inside {z : Dl} {w : World} {P : Nat} (h : DkAt z w P) : P < w.heap.size := Own.inside h
theorem DkAt.more {z : Dl} {w : World} {P : Nat} (h : DkAt z w P) (o : Obj) : DkAt z (w.alloc o) P := Own.more h o
theorem DkAt.drew {z : Dl} {w : World} {P : Nat} (h : DkAt z w P) : DkAt z w.drew P := h
theorem DkAt.stored {z : Dl} {w : World} {P b o : Nat} (h : DkAt z w P) (hn : b ≠ P) (u : Value) : DkAt z (w.setCell ⟨b, o, none⟩ u) P := Own.other h hn u
theorem DkAt.past {z : Dl} {w w' : World} {P B : Nat} (h : DkAt z w P) (hb : Below B w w') (hB : P < B) : DkAt z w' P := Own.past h hb hB
def Mid (w wx : World) (G : Nat) (k : Dk) : Prop := ∃ z : Dl, z.d = k ∧ Own wx G 28 z.cells ∧ DIn wx wx.heap.size z ∧ Below w.heap.size w wx ∧ w.heap.size ≤ G
end Go.Proofs.Ytmddiiidofmklaa
namespace Go.Proofs.Ytmddiiidofmklaa
open Go Go.RowKit

theorem grd_file (op : BinOp) (x y : Operand) (xs ys : Array Value) (w : World) : (eqGuard op 68 x y (.agg xs) (.agg ys)).run Try.prog w = .ok () w := run_eqGuard_agg w op _ x y xs ys (by kernel_rfl)
theorem grd_write (op : BinOp) (x y : Operand) (xs ys : Array Value) (w : World) : (eqGuard op 36 x y (.agg xs) (.agg ys)).run Try.prog w = .ok () w := run_eqGuard_agg w op _ x y xs ys (by kernel_rfl)
theorem neq_file (x : Fl) (w : World) : (binOp .neq 68 (.agg #[.string x.n, .string x.d]) (.agg #[.string x.n, .string x.d])).run Try.prog w = .ok (.bool false) w := by
  have u2 := Try.underlying9
  have z2 := Try.sizeOf9
  have a2 := Try.isAgg9
  have hS : Try.prog.underlying 68 = some (.struct (Try.prog.fieldsOf 68)) := by kernel_rfl
  have hp : Try.prog.stoodInHeld 68 = false := by kernel_rfl
  have h : (Op.equalIn 10000 68 (.agg #[.string x.n, .string x.d]) (.agg #[.string x.n, .string x.d])).run Try.prog w = .ok true w := by
    rw [show (10000 : Nat) = 9998 + 1 + 1 from rfl, run_equalIn_agg w _ _ _ _ hS hp]
    simp only [Program.fieldsOf, Try.underlying68]
    simp [Op.eqFields, part, a2, z2, run_equalIn_string w _ _ _ _ u2, go_sem]
  rw [run_neq_struct, h]; rfl
theorem neq_write (x : Wr) (w : World) : (binOp .neq 36 (.agg #[.int .u8 x.k, .string x.n, .string x.t, .string x.d]) (.agg #[.int .u8 x.k, .string x.n, .string x.t, .string x.d])).run Try.prog w = .ok (.bool false) w := by
  have u1 := Try.underlying34
  have u2 := Try.underlying9
  have z1 := Try.sizeOf34
  have a1 := Try.isAgg34
  have z2 := Try.sizeOf9
  have a2 := Try.isAgg9
  have hS : Try.prog.underlying 36 = some (.struct (Try.prog.fieldsOf 36)) := by kernel_rfl
  have hp : Try.prog.stoodInHeld 36 = false := by kernel_rfl
  have h : (Op.equalIn 10000 36 (.agg #[.int .u8 x.k, .string x.n, .string x.t, .string x.d]) (.agg #[.int .u8 x.k, .string x.n, .string x.t, .string x.d])).run Try.prog w = .ok true w := by
    rw [show (10000 : Nat) = 9998 + 1 + 1 from rfl, run_equalIn_agg w _ _ _ _ hS hp]
    simp only [Program.fieldsOf, Try.underlying36]
    simp [Op.eqFields, part, a1, a2, z1, z2, run_equalIn_int w _ _ _ _ _ _ u1, run_equalIn_string w _ _ _ _ u2, go_sem]
  rw [run_neq_struct, h]; rfl
def two_of (w : World) (x y : Dl) : World := (w.alloc (.cells #[.slice x.fA x.files.length x.fc, .slice x.wA x.waits.length x.wc, .int .i64 x.room, .bool x.down, .int .i64 x.fuse] 28)).alloc (.cells #[.slice y.fA y.files.length y.fc, .slice y.wA y.waits.length y.wc, .int .i64 y.room, .bool y.down, .int .i64 y.fuse] 28)
theorem two_box (w : World) (x y : Dl) : ∃ W, W = two_of w x y ∧ Below w.heap.size w W ∧ Own W w.heap.size 28 x.cells ∧ Own W (w.heap.size + 1) 28 y.cells := by
  refine ⟨_, rfl, ((Below.refl _ _).alloc (Nat.le_refl _) _).alloc (by simp) _, (Own.made w _ _).more _, ?_⟩
  have h := Own.made (w.alloc (.cells #[.slice x.fA x.files.length x.fc, .slice x.wA x.waits.length x.wc, .int .i64 x.room, .bool x.down, .int .i64 x.fuse] 28)) 28 y.cells
  simp only [World.size_alloc] at h
  exact h
end Go.Proofs.Ytmddiiidofmklaa
namespace Go.Proofs.Ytmddiiidofmklaa
open Go Go.RowKit

def FOk (k : Dk) : Prop := -9223372036854775808 ≤ k.fuse ∧ k.fuse ≤ 9223372036854775807
theorem wtW_cons (r : Wr) (ws : List Wr) : wtW (r :: ws) = 2 + r.d.size + wtW ws := by unfold wtW; simp
theorem wtW_append (a b : List Wr) : wtW (a ++ b) = wtW a + wtW b := by unfold wtW; simp
theorem write_wt (d : Dk) (l : List Fl) (r : Wr) : wtD (writeD d l r).1 ≤ wtD d + (2 + r.d.size) := by
  have hw : ∀ x : List Wr, wtW (x ++ [r]) = wtW x + (2 + r.d.size) := fun x => by rw [wtW_append, wtW_cons]; rfl
  unfold writeD
  repeat' split
  all_goals first
    | omega
    | (dsimp only; omega)
    | (unfold wtD; dsimp only; omega)
    | (unfold wtD; dsimp only; rw [hw]; omega)
theorem doS_wt : ∀ (ws : List Wr) (d : Dk) (l : List Fl), wtD (doS d l ws).1 ≤ wtD d + wtW ws
  | [], d, l => by simp [doS]
  | r :: ws, d, l => by
    have h1 := write_wt d l r
    have h2 := doS_wt ws (writeD d l r).1 (writeD d l r).2.1
    rw [wtW_cons]
    simp only [doS]
    split
    · omega
    · dsimp only; omega
theorem doS_fuse : ∀ (ws : List Wr) (d : Dk) (l : List Fl), FOk d → FOk (doS d l ws).1
  | [], d, l, h => h
  | r :: ws, d, l, h => by
    have h1 : FOk (writeD d l r).1 := by
      unfold FOk
      rcases write_fuse d l r with e | e
      · rw [e]; exact h
      · rw [e]; exact lessN_fit h
    simp only [doS]
    split
    · exact doS_fuse ws _ _ h1
    · exact h1
theorem doD_told {d k : Dk} {n : Int} {a : List Wr} {m : Nat} (hd : doD d a = (k, n)) (hf : FOk d) (hm : wtD d + wtW a + m ≤ 1099511627776) : DTold k m := by
  have e : k = (doD d a).1 := by rw [hd]
  subst e
  unfold doD
  split
  · exact ⟨by have := doS_wt a d (seen d); omega, doS_fuse a d _ hf⟩
  · exact ⟨by show 0 + m ≤ _; omega, by decide⟩
theorem lies_drop {w : World} {B b o : Nat} {l : List Wr} {q : Nat} (h : Lies 4 Wr.cells w B (some ⟨b, o, none⟩) l) : Lies 4 Wr.cells w B (some ⟨b, o + q * 4, none⟩) (l.drop q) := fun hp => by
  have hl : 0 < l.length := by rw [List.length_drop] at hp; omega
  obtain ⟨b', o', e, hb, hc⟩ := h hl
  obtain ⟨rfl, rfl⟩ : b = b' ∧ o = o' := by injection e with e; injection e with e1 e2; exact ⟨e1, e2⟩
  refine ⟨b, o + q * 4, rfl, hb, fun i x hi j u hj => ?_⟩
  have := hc (q + i) x (by rw [List.getElem?_drop] at hi; exact hi) j u hj
  rw [show o + q * 4 + i * 4 + j = o + (q + i) * 4 + j by rw [Nat.add_mul]; omega]
  exact this
theorem lies_rest {w : World} {B q c : Nat} {A : Option Addr} {l : List Wr} (h : Lies 4 Wr.cells w B A l) (hc : l.length ≤ c) : Lies 4 Wr.cells w B (if c = q then A else Option.map (fun x => x.add (q * 4)) A) (l.drop q) := fun hp => by
  have hp' := hp
  rw [List.length_drop] at hp'
  obtain ⟨b, o, e, _, _⟩ := h (by omega)
  subst e
  rw [if_neg (by omega)]
  have hadd : (⟨b, o, none⟩ : Addr).add (q * 4) = ⟨b, o + q * 4, none⟩ := by unfold Addr.add; split <;> simp_all
  simp only [Option.map_some, hadd]
  exact lies_drop h hp
theorem parts_do {d k1 k2 k3 : Dk} {n1 n2 n3 : Int} {ws : List Wr} {q : Nat} (h1 : doD d ws = (k1, n1)) (h2 : doD d (ws.take q) = (k2, n2)) (h3 : doD k2 (ws.drop q) = (k3, n3)) :
    (n2 ≠ 0 → n1 = n2 ∧ k1 = k2) ∧ (n2 = 0 → n1 = n3 ∧ k1 = k3) := by
  have h := do_parts d (ws.take q) (ws.drop q)
  rw [List.take_append_drop, h1, h2] at h
  dsimp only at h
  constructor
  · intro hz
    rw [if_neg hz] at h
    injection h with e1 e2
    exact ⟨e2, e1⟩
  · intro hz
    rw [if_pos hz, h3] at h
    injection h with e1 e2
    exact ⟨e2, e1⟩
end Go.Proofs.Ytmddiiidofmklaa
namespace Go.Proofs.Ytmddiiidofmklaa
open Go Go.RowKit

structure FInv (k : Dk) (sz : Nat) : Prop where
  good : goodD k = true
  up : k.down = false
  fuse : k.fuse = -1
  room : k.room = (sz : Int)
  fit : szF (seen k) ≤ sz
theorem full_zero (sz : Nat) : FInv ⟨[], [], (sz : Int), false, -1⟩ sz := by
  refine ⟨?_, rfl, rfl, rfl, ?_⟩
  · rw [good_iff]
    refine ⟨by dsimp only; omega, ⟨by simp, fun f hf => by simp at hf, by unfold SortedF namesF SortedN; simp⟩, by simp, rfl⟩
  · have : seen ⟨[], [], (sz : Int), false, -1⟩ = [] := rfl
    rw [this]; show 0 ≤ _; omega
theorem full_step {k k' : Dk} {n : Int} {r : Wr} {sz : Nat} (h : FInv k sz) (hd : doD k [r] = (k', n)) : FInv k' sz ∧ (n ≠ 0 → k' = k) := by
  obtain ⟨g1, g2⟩ := write_good (w := r) h.good rfl
  have key : ((writeD k (seen k) r).1 = k ∧ (writeD k (seen k) r).2.2 ≠ 0) ∨ ((writeD k (seen k) r).2.2 = 0 ∧ (writeD k (seen k) r).1 = ⟨k.files, k.waits ++ [r], k.room, k.down, lessN k.fuse⟩ ∧ (writeD k (seen k) r).2.1 = appF (seen k) r ∧ ¬ (k.room < (szF (appF (seen k) r) : Int))) := by
    unfold writeD
    rw [if_neg (by rw [h.up]; decide)]
    split
    · exact .inl ⟨rfl, by simp⟩
    split
    · exact .inl ⟨rfl, by simp⟩
    split
    · exact .inl ⟨rfl, by simp⟩
    rename_i q
    rw [if_neg (by rw [h.fuse]; decide)]
    exact .inr ⟨rfl, rfl, rfl, fun e => q (.inr (.inr e))⟩
  have hk : k' = (writeD k (seen k) r).1 ∧ n = (writeD k (seen k) r).2.2 := by
    unfold doD at hd
    rw [if_pos h.good] at hd
    simp only [doS] at hd
    split at hd
    · rename_i hz
      injection hd with e1 e2
      exact ⟨e1.symm, by rw [hz]; exact e2.symm⟩
    · injection hd with e1 e2
      exact ⟨e1.symm, e2.symm⟩
  obtain ⟨rfl, rfl⟩ := hk
  rcases key with ⟨e, hne⟩ | ⟨hz, e, es, hr⟩
  · rw [e]; exact ⟨h, fun _ => rfl⟩
  · refine ⟨⟨g1, ?_, ?_, ?_, ?_⟩, fun hne => absurd hz hne⟩
    · rw [e]; exact h.up
    · rw [e]; show lessN k.fuse = -1; rw [h.fuse]; decide
    · rw [e]; exact h.room
    · rw [← (g2 hz).1, es]
      have := h.room
      omega
theorem seen_len {k : Dk} (h : goodD k = true) : (seen k).length ≤ 256 := by
  rw [seen_good h]
  exact okW_len _ (good_iff.1 h).2.1.1 (good_iff.1 h).2.2.2
theorem szF_more {l : List Fl} {m : Nat} {f : Fl} (h : l[m]? = some f) : szF (l.take (m + 1)) = szF (l.take m) + f.d.size := by
  rw [List.take_add_one, h, Option.toList_some, szF_app, szF_cons]; rfl
theorem szF_part (l : List Fl) (m : Nat) : szF (l.take m) ≤ szF l := by
  have := szF_app (l.take m) (l.drop m)
  rw [List.take_append_drop] at this
  omega
theorem wtW_more {l : List Wr} {m : Nat} {f : Wr} (h : l[m]? = some f) : wtW (l.take (m + 1)) = wtW (l.take m) + wtW [f] := by
  rw [List.take_add_one, h, Option.toList_some, wtW_append]
theorem wtW_part (l : List Wr) (m : Nat) : wtW (l.take m) ≤ wtW l := by
  have := wtW_append (l.take m) (l.drop m)
  rw [List.take_append_drop] at this
  omega
theorem doD_wt {k k' : Dk} {n : Int} {a : List Wr} (hd : doD k a = (k', n)) : wtD k' ≤ wtD k + wtW a := by
  have e : k' = (doD k a).1 := by rw [hd]
  subst e
  unfold doD
  split
  · exact doS_wt a k (seen k)
  · show 0 ≤ _; omega
theorem check_at {W : World} {y : Dl} {k : Dk} (hd : DIn W W.heap.size y) (hk : y.d = k) (hs : goodD k = true) (ht : DTold k 0) :
    RowKit.Hid (Calls Try.prog 19 #[.agg #[.slice y.fA y.files.length y.fc, .slice y.wA y.waits.length y.wc, .int .i64 y.room, .bool y.down, .int .i64 y.fuse]] W fun e w' => e = .returned (.int .i64 0) ∧ Below W.heap.size W w') := by
  subst hk
  have h := dcheck_any y W hd (ht.ok rfl)
  unfold chkD at h
  rw [if_pos hs] at h
  exact Lib.hid h
end Go.Proofs.Ytmddiiidofmklaa
namespace Go.Proofs.Ytmddiiidofmklaa
open Go Go.RowKit

def off (n : ByteArray) (w : Wr) : Prop := w.n ≠ n ∧ w.t ≠ n
theorem get_off {l : List Fl} {w : Wr} {n : ByteArray} (hs : SortedF l) (h : off n w) : getF (appF l w) n = getF l n := by
  unfold appF
  split
  · rw [get_ext hs, if_neg (fun e => h.1 e.symm)]
  split
  · cases hh : hasF l w.n
    · unfold renF; rw [hh]; rfl
    · rw [get_ren hs hh, if_neg (fun e => h.2 e.symm), if_neg (fun e => h.1 e.symm)]
  split
  · rw [get_take hs, if_neg (fun e => h.1 e.symm)]
  · rfl
theorem get_look {n : ByteArray} : ∀ (ws : List Wr) {l : List Fl}, SortedF l → (∀ w ∈ ws, off n w) → getF (ws.foldl appF l) n = getF l n
  | [], _, _, _ => rfl
  | w :: ws, l, hs, h => by
    rw [List.foldl_cons, get_look ws (sorted_app hs) (fun x hx => h x (List.mem_cons_of_mem _ hx)), get_off hs (h w (List.mem_cons_self))]
theorem ext_len (l : List Fl) (n d d' : ByteArray) : (extF l n d).length = (extF l n d').length := by
  unfold extF
  split
  · simp
  · unfold putF; simp
/-- between a sync and a crash -/
structure Safe (k : Dk) (F : List Fl) (n : ByteArray) : Prop where
  good : goodD k = true
  files : k.files = F
  offs : ∀ w ∈ k.waits, off n w
theorem write_safe {k : Dk} {F : List Fl} {n : ByteArray} {r : Wr} (h : Safe k F n) (hr : off n r) : Safe (writeD k (seen k) r).1 F n := by
  obtain ⟨g1, _⟩ := write_good (w := r) h.good rfl
  refine ⟨g1, ?_, ?_⟩
  · unfold writeD
    repeat' split
    all_goals exact h.files
  · have hm : ∀ w ∈ k.waits ++ [r], off n w := fun w hw => by
      rcases List.mem_append.1 hw with hw | hw
      · exact h.offs w hw
      · obtain rfl : w = r := by simpa using hw
        exact hr
    unfold writeD
    repeat' split
    all_goals first
      | exact h.offs
      | exact hm
theorem do_safe {k k' : Dk} {F : List Fl} {n : ByteArray} {r : Wr} {e : Int} (h : Safe k F n) (hr : off n r) (hd : doD k [r] = (k', e)) : Safe k' F n := by
  have hk : k' = (writeD k (seen k) r).1 := by
    unfold doD at hd
    rw [if_pos h.good] at hd
    simp only [doS] at hd
    split at hd
    · injection hd with e1 e2; exact e1.symm
    · injection hd with e1 e2; exact e1.symm
  rw [hk]; exact write_safe h hr
theorem sync_safe {d k : Dk} (h : syncD d = (k, 0)) : k = ⟨seen d, [], d.room, d.down, lessN d.fuse⟩ ∧ d.down = false ∧ (∀ n, Safe k (seen d) n) ∧ k.down = false := by
  unfold syncD at h
  split at h
  · rename_i hg
    split at h
    · injection h with h1 h2; cases h2
    · rename_i hdn
      split at h
      · injection h with h1 h2; cases h2
      · injection h with h1 h2
        subst h1
        have hdn' : d.down = false := by simpa using hdn
        have g := good_iff.1 hg
        refine ⟨rfl, hdn', fun n => ⟨?_, rfl, fun w hw => by simp at hw⟩, hdn'⟩
        rw [good_iff]
        refine ⟨g.1, ⟨seen_len hg, ?_, seen_sorted hg⟩, by simp, rfl⟩
        show Named (seen d)
        rw [seen_good hg]
        exact named_look _ g.2.1.2.1 g.2.2.2
  · injection h with h1 h2; cases h2
theorem look_read {k : Dk} {n : ByteArray} (hg : goodD k = true) (hd : k.down = false) (hw : k.waits = []) : readD k n = readF k.files n := by
  unfold readD
  rw [if_pos hg, hd, seen_good hg, hw]; rfl
/-- the crashed disk -/
theorem crash_safe {k : Dk} {F : List Fl} {n : ByteArray} {keep tear : Int} (h : Safe k F n) :
    ∃ k', crashD k keep tear = (k', 0) ∧ k'.down = false ∧ k'.fuse = -1 ∧ k'.waits = [] ∧ goodD k' = true ∧ getF k'.files n = getF F n := by
  have g := good_iff.1 h.good
  have hs := g.2.1.2.2
  unfold crashD
  rw [if_pos h.good]
  refine ⟨_, rfl, rfl, rfl, rfl, ?_⟩
  dsimp only
  have hl : ∀ ws, lookF k.files ws = ws.foldl appF k.files := fun ws => by unfold lookF; rw [base_sorted hs]
  have hq : ∀ q, okW k.files (k.waits.take q) = true := fun q => by
    have h2 := okW_app (l := k.files) (a := k.waits.take q) (b := k.waits.drop q)
    rw [List.take_append_drop, g.2.2.2] at h2
    have h3 := h2.symm
    rw [Bool.and_eq_true] at h3
    exact h3.1
  have key : SortedF (leftD k keep tear) ∧ Named (leftD k keep tear) ∧ (leftD k keep tear).length ≤ 256 ∧ getF (leftD k keep tear) n = getF F n := by
    unfold leftD
    generalize keepN keep k.waits.length = q
    rw [hl]
    have s1 := sorted_look (k.waits.take q) hs
    have n1 := named_look (k.waits.take q) g.2.1.2.1 (hq q)
    have l1 := okW_len (k.waits.take q) g.2.1.1 (hq q)
    have g1 : getF ((k.waits.take q).foldl appF k.files) n = getF F n := by
      rw [get_look _ hs (fun w hw => h.offs w (List.mem_of_mem_take hw)), h.files]
    cases hw : k.waits[q]? with
    | none => exact ⟨s1, n1, l1, g1⟩
    | some w =>
      have hoff := h.offs w (List.mem_of_getElem? hw)
      have hok := hq (q + 1)
      rw [List.take_add_one, hw, Option.toList_some, okW_app, Bool.and_eq_true] at hok
      obtain ⟨hrw, hlen, _⟩ := okW_cons hok.2
      unfold tornF
      dsimp only
      split
      · rename_i hc
        refine ⟨sorted_ext s1, named_ext (by unfold rightW at hrw; rw [Bool.and_eq_true] at hrw; exact hrw.1) n1, ?_, ?_⟩
        · have : appF ((k.waits.take q).foldl appF k.files) w = extF ((k.waits.take q).foldl appF k.files) w.n w.d := by unfold appF; rw [if_pos hc.1]
          rw [this] at hlen
          rw [ext_len _ _ _ w.d]; exact hlen
        · rw [get_ext s1, if_neg (fun e => hoff.1 e.symm)]; exact g1
      · exact ⟨s1, n1, l1, g1⟩
  refine ⟨?_, key.2.2.2⟩
  rw [good_iff]
  exact ⟨g.1, ⟨key.2.2.1, key.2.1, key.1⟩, by simp, rfl⟩
theorem read_same {l m : List Fl} {n : ByteArray} (h : getF l n = getF m n) : readF l n = readF m n := by unfold readF; rw [h]
end Go.Proofs.Ytmddiiidofmklaa
namespace Go.Proofs.Ytmddiiidofmklaa
open Go Go.RowKit

theorem wtF_eq : ∀ l : List Fl, wtF l = 2 * l.length + szF l
  | [] => rfl
  | f :: l => by
    have h1 : wtF (f :: l) = 2 + f.d.size + wtF l := by unfold wtF; simp
    rw [h1, wtF_eq l, szF_cons, List.length_cons]; omega
theorem len_putF (l : List Fl) (f : Fl) : (putF l f).length = l.length + 1 := by
  have := posF_le l f.n
  unfold putF
  rw [List.length_append, List.length_cons, List.length_take, List.length_drop]; omega
theorem len_take_le (l : List Fl) (n : ByteArray) : (takeF l n).length ≤ l.length := by
  unfold takeF
  split
  · rw [List.length_append, List.length_take, List.length_drop]; omega
  · exact Nat.le_refl _
theorem len_takeF {l : List Fl} {n : ByteArray} (hs : SortedF l) (h : hasF l n = true) : (takeF l n).length + 1 = l.length := by
  obtain ⟨d, hd⟩ := hasF_at hs h
  have := (List.getElem?_eq_some_iff.1 hd).1
  unfold takeF
  rw [if_pos h, List.length_append, List.length_take, List.length_drop]; omega
theorem len_ext (l : List Fl) (n d : ByteArray) : (extF l n d).length ≤ l.length + 1 := by
  unfold extF
  split
  · simp
  · rw [len_putF]; omega
theorem szF_take_le {l : List Fl} {n : ByteArray} (hs : SortedF l) : szF (takeF l n) ≤ szF l := by
  cases h : hasF l n
  · unfold takeF; rw [h]; exact Nat.le_refl _
  · have := szF_take hs h; omega
theorem wtF_app {l : List Fl} {w : Wr} (hs : SortedF l) : wtF (appF l w) ≤ wtF l + (2 + w.d.size) := by
  rw [wtF_eq, wtF_eq]
  unfold appF
  split
  · have h1 := szF_ext (n := w.n) (d := w.d) hs
    have h2 := len_ext l w.n w.d
    omega
  split
  · cases h : hasF l w.n
    · unfold renF; rw [h]; simp only [Bool.false_eq_true, if_false]; omega
    · have e : renF l w.n w.t = putF (takeF (takeF l w.n) w.t) ⟨w.t, (oldF l w.n).d⟩ := by unfold renF; rw [if_pos h]
      have h1 := szF_take hs h
      have h2 := len_takeF hs h
      have h3 := szF_take_le (n := w.t) (sorted_take (n := w.n) hs)
      have h4 := len_take_le (takeF l w.n) w.t
      rw [e, len_putF, szF_put]
      dsimp only
      omega
  split
  · have h1 := szF_take_le (n := w.n) hs
    have h2 := len_take_le l w.n
    omega
  · omega
theorem wtF_look : ∀ (ws : List Wr) {l : List Fl}, SortedF l → wtF (ws.foldl appF l) ≤ wtF l + wtW ws
  | [], _, _ => by simp
  | w :: ws, l, hs => by
    have h1 := wtF_look ws (sorted_app (w := w) hs)
    have h2 := wtF_app (w := w) hs
    rw [List.foldl_cons, wtW_cons]; omega
theorem wtF_seen {k : Dk} (h : goodD k = true) : wtF (seen k) ≤ wtD k := by
  rw [seen_good h]; exact wtF_look k.waits (good_iff.1 h).2.1.2.2
theorem sync_wt {d k : Dk} (h : syncD d = (k, 0)) : wtD k ≤ wtD d := by
  have hg : goodD d = true := by
    cases hg : goodD d
    · unfold syncD at h; rw [hg] at h; simp at h
    · rfl
  rw [(sync_safe h).1]
  have := wtF_seen hg
  have h0 : wtD ⟨seen d, [], d.room, d.down, lessN d.fuse⟩ = wtF (seen d) + 0 := rfl
  omega
theorem crash_wt {k k' : Dk} {a b : Int} (h : crashD k a b = (k', 0)) (hg : goodD k = true) : wtD k' ≤ wtD k + wtD k := by
  unfold crashD at h
  rw [if_pos hg] at h
  injection h with h1 _
  subst h1
  have hs := (good_iff.1 hg).2.1.2.2
  have h0 : ∀ l r d f, wtD ⟨l, [], r, d, f⟩ = wtF l + 0 := fun _ _ _ _ => rfl
  rw [h0]
  unfold leftD
  generalize keepN a k.waits.length = q
  have hl : lookF k.files (k.waits.take q) = (k.waits.take q).foldl appF k.files := by unfold lookF; rw [base_sorted hs]
  rw [hl]
  have h2 := wtF_look (k.waits.take q) hs
  have h3 := wtW_part k.waits q
  have hd : wtD k = wtF k.files + wtW k.waits := rfl
  unfold tornF
  cases hw : k.waits[q]? with
  | none => dsimp only; omega
  | some w =>
    dsimp only
    have h4 := wtW_more hw
    have h5 := wtW_part k.waits (q + 1)
    have h6 : wtW [w] = 2 + w.d.size := rfl
    split
    · have s1 := sorted_look (k.waits.take q) hs
      have e1 := szF_ext (n := w.n) (d := w.d.extract 0 (min b.toNat w.d.size)) s1
      have e2 := len_ext ((k.waits.take q).foldl appF k.files) w.n (w.d.extract 0 (min b.toNat w.d.size))
      have e3 : (w.d.extract 0 (min b.toNat w.d.size)).size ≤ w.d.size := by rw [ByteArray.size_extract]; omega
      have e4 := wtF_eq ((k.waits.take q).foldl appF k.files)
      rw [wtF_eq]
      omega
    · omega
end Go.Proofs.Ytmddiiidofmklaa
namespace Go.Proofs.Ytmddiiidofmklaa
open Go.RowKit

theorem frm_a : frm [97] = ([1, 97, 48, 67, 208, 193], 0) := by
  rw [frm_fits (by simp)]
  unfold txt
  rw [show ([97] : List UInt8).length = 1 from rfl, enc_1, show sealS [97] = [48, 67, 208, 193] by decide +kernel]
  rfl
theorem tf_a : tf (tt (tc 0 0 [1, 97, 48, 67, 208, 193, 98])) = ([97], [98], 0) := by
  rw [show tt (tc 0 0 [1, 97, 48, 67, 208, 193, 98]) = ([97], [48, 67, 208, 193, 98], 0) by decide +kernel]
  exact tf_good (by decide) (by decide +kernel)

end Go.Proofs.Ytmddiiidofmklaa
namespace Go.Proofs.Ytmddiiidofmklaa
open Go.RowKit

theorem tt_x : tt (tc 0 0 [1, 120, 121]) = ([120], [121], 0) := by decide +kernel

end Go.Proofs.Ytmddiiidofmklaa
namespace Go.Proofs.Ytmddiiidofmklaa
open Go.RowKit

end Go.Proofs.Ytmddiiidofmklaa
namespace Go.Proofs.Ytmddiiidofmklaa
open Go.RowKit

/-- frames one behind the other -/
def framesS (P : List ByteArray) : List UInt8 := (P.map fun p => txt p.data.toList ++ sealS p.data.toList).flatten
theorem framesS_snoc (P : List ByteArray) (p : ByteArray) : framesS (P ++ [p]) = framesS P ++ (txt p.data.toList ++ sealS p.data.toList) := by simp [framesS]
theorem framesS_cons (P : List ByteArray) (p : ByteArray) : framesS (p :: P) = txt p.data.toList ++ sealS p.data.toList ++ framesS P := by simp [framesS]
theorem framesS_len (P : List ByteArray) : P.length ≤ (framesS P).length := by
  induction P with
  | nil => simp
  | cons p P ih => rw [framesS_cons, List.length_cons, List.length_append, List.length_append, seal_len]; omega
theorem framesS_drop (P : List ByteArray) (k : Nat) (h : k < P.length) : framesS (P.drop k) = txt P[k].data.toList ++ sealS P[k].data.toList ++ framesS (P.drop (k + 1)) := by
  rw [List.drop_eq_getElem_cons h, framesS_cons]

/-- a slice of strings that came in reads as a list -/
def ReadsS (w : World) (B : Nat) (A : Option Addr) (ss : List ByteArray) : Prop :=
  ∀ (i : Nat) s, ss[i]? = some s → ∃ b o, A = some ⟨b, o, none⟩ ∧ b < B ∧ w.cell? ⟨b, o + i, none⟩ = some (.string s)


end Go.Proofs.Ytmddiiidofmklaa
