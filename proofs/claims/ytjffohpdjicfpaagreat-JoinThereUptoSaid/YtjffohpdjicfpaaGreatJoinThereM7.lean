/- Part 7 of the texts on which JoinThere rests: facts and contracts. -/
import Derived.Test.YtjffohpdjicfpaaGreatJoinThereM6
import Derived.StillTail
import Derived.Deep.Quiet
import Derived.Deep.QuietTactic
import Derived.BigQuiet
import Derived.Deep.RegionLaw
import Derived.Outline
import Derived.WalkSpells
import Derived.WalkLawsBesides
import Derived.Deep.Onto
namespace Go.Proofs.YtjffohpdjicfpaaGreat
open Go Go.RowKit Go.Sort Go.Lib
theorem sort_all (v : Value) (n : Nat) (l : List Tm) (w : World) (base : Nat) (hnl : n = l.length) (h : w.ownsRow base 26 3 v n (l.flatMap Tm.cells)) (hn : l.length * 24 ≤ 140737488351232) :
    ∃ A c, v = .slice A l.length c ∧ Calls Tryz.prog 187 #[.slice A l.length c, .func (.func 74) #[] #[]] w fun e w' => e = .returned (.tuple #[]) ∧ Times w' w'.heap.size A (sortT l) ∧ Below base w w' := by
  subst hnl
  cases l with
  | nil =>
    rcases h.2 with ⟨rfl, _⟩ | ⟨g, cap, cur, rfl, _⟩
    · refine ⟨_, _, rfl, (AnyF.slices_SortFunc_none Tryz.sortTm _ _ _ w).mono fun e w' ⟨he, hw⟩ => ?_⟩
      subst hw
      exact ⟨he, fun h => by simp [sortT] at h, Below.refl _ _⟩
    · refine ⟨_, _, rfl, (AnyF.slices_SortFunc_none Tryz.sortTm _ _ _ w).mono fun e w' ⟨he, hw⟩ => ?_⟩
      subst hw
      exact ⟨he, fun h => by simp [sortT] at h, Below.refl _ _⟩
  | cons x l =>
    rcases h.2 with ⟨_, h0⟩ | ⟨g, cap, cur, rfl, hb, _⟩
    · simp at h0
    · exact ⟨_, _, rfl, (sort_any g cap (x :: l) w base h hn).mono fun e w' ⟨he, ht, hbe⟩ => ⟨he, ht, hbe.mono hb⟩⟩

set_option maxRecDepth 100000 in
set_option maxHeartbeats 1600000 in
theorem front_any (A : Option Addr) (c : Nat) (l : List Tm) (w : World) (hl : Times w w.heap.size A l) (hn : l.length * 24 ≤ 140737488351232) :
    Calls Tryz.prog 150 #[.slice A l.length c] w fun e w' => ∃ v, e = .returned v ∧ w'.ownsRow w.heap.size 26 3 v (frontL l).length ((frontL l).flatMap Tm.cells) ∧ Below w.heap.size w w' := by
  obtain ⟨i0, hi, hz0, hz1, hz2⟩ := info_parts infoTm
  have hU := Tryz.underlying33
  have Hl := Lib.hid hl
  have hbey := fun A c l t W h hn => Lib.hid (beyond_any A c l t W h hn)
  unfold Tm.val maxLen at hbey
  clear hl
  go_enter Tryz.func150, Tryz.ntmps150
  go_wp2_with fail
  refine (clone_any A c l _ Hl.out hn).mono ?_
  rintro e w1 ⟨v, rfl, ho1, hb1⟩
  obtain ⟨A', c', rfl, hsort⟩ := sort_all v _ l w1 _ rfl ho1 hn
  have HS := Lib.hid hsort
  have H1 := Lib.hid hb1
  clear hsort hb1 ho1
  go_wp2_with fail
  refine HS.out.mono ?_
  rintro e w0 ⟨rfl, ht0, hb0⟩
  have hlen := sortT_len l
  have HT := Lib.hid (And.intro ht0 (And.intro (H1.out.trans hb0) hlen))
  clear ht0 hb0 hlen HS
  go_wp2_with fail
  go_loopw [3, 12] (fun v i wr => ∃ k : Nat, i = .int .i64 (k : Int) ∧ k ≤ l.length ∧ Below w0.heap.size w0 wr ∧ wr.ownsRow w0.heap.size 26 3 v (frontTo (sortT l) k).length ((frontTo (sortT l) k).flatMap Tm.cells))
    (fun _ i _ => l.length - (intOf i).toNat)
  case atStart => exact ⟨0, rfl, by omega, Below.refl _ _, World.ownsRow_nil _ _ _ _⟩
  case round =>
    obtain ⟨k, rfl, hk, fb, hown⟩ := hrel
    obtain ⟨ht0, hb0, hlen⟩ := HT.out
    have hfl := frontTo_len (sortT l) k (by omega)
    obtain ⟨Af, cf, rfl, hcf, hcm, htf⟩ := times_of_own rfl hown
    by_cases hlt : k < l.length
    · have hx : (sortT l)[k]? = some (sortT l)[k] := List.getElem?_eq_getElem (by omega)
      obtain ⟨b, o, rfl, hB, hl⟩ := ht0 (by omega)
      obtain ⟨c0, c1, c2⟩ := (hl k _ hx).past fb hB
      have hsn := frontTo_snoc hx
      generalize (sortT l)[k] = y at *
      generalize frontTo (sortT l) k = f at *
      have hB2 : b < wr.heap.size := by have := fb.size; omega
      have hcall := fun o => hbey Af cf f y (wr.alloc o) ((htf.past ((Below.refl _ _).alloc (Nat.le_refl _) _) (Nat.le_refl _)).wide (by simp)) (by omega)
      have HR := Lib.hid (And.intro fb (And.intro hown (And.intro hsn hx)))
      have hz := fb.size
      clear fb hown hsn hx hl htf ht0 hb0 hlen hbey
      by_cases hbe : beyond f y = true
      · simp only [hbe] at hcall
        have HE := Lib.hid hbe
        clear hbe
        go_wp2_with fail
        refine (hcall _).out.mono ?_
        rintro e w2 ⟨rfl, h2⟩
        obtain ⟨fb, hown, hsn, hx⟩ := HR.out
        have h3 : Below wr.heap.size wr w2 := below_then ((Below.refl _ _).alloc (Nat.le_refl _) _) (by simp) h2
        have H3 := Lib.hid (And.intro h3 (And.intro fb (And.intro hown hsn)))
        clear fb hown hsn hx h2 h3
        go_wp2_with fail
        obtain ⟨h3, fb, hown, hsn⟩ := H3.out
        go_roundw
        case rel => exact ⟨k + 1, by go_num, by omega, fb.trans (h3.mono fb.size), by rw [hsn]; unfold keepStep; rw [if_pos HE.out]; exact own_below hown h3⟩
        case measure => simp [intOf]; omega
      · have hbf : beyond f y = false := by simpa using hbe
        simp only [hbf] at hcall
        have HE := Lib.hid hbe
        clear hbe hbf
        go_wp2_with fail
        refine (hcall _).out.mono ?_
        rintro e w2 ⟨rfl, h2⟩
        obtain ⟨fb, hown, hsn, hx⟩ := HR.out
        have h3 : Below wr.heap.size wr w2 := below_then ((Below.refl _ _).alloc (Nat.le_refl _) _) (by simp) h2
        have hown2 := own_below hown h3
        have d0 : w2.cell? ⟨wr.heap.size, 0, none⟩ = some (.int .u64 (y.e : Int)) := (h2.cell (p := ⟨wr.heap.size, 0, none⟩) (by simp)).trans (by simp [go_sem])
        have d1 : w2.cell? ⟨wr.heap.size, 1, none⟩ = some (.int .u64 (y.a : Int)) := (h2.cell (p := ⟨wr.heap.size, 1, none⟩) (by simp)).trans (by simp [go_sem])
        have d2 : w2.cell? ⟨wr.heap.size, 2, none⟩ = some (.int .u64 (y.b : Int)) := (h2.cell (p := ⟨wr.heap.size, 2, none⟩) (by simp)).trans (by simp [go_sem])
        have hz2 := h3.size
        have H3 := Lib.hid (And.intro (fb.trans (h3.mono fb.size)) hsn)
        clear fb hown hsn hx h2 h3
        go_wp2_with (at_builtin; refine wpList_push _ rfl _ _ 33 rfl w0.heap.size 26 i0 _ 3 24 hU hi hz0 hz1 ‹i0.bytes = 24› rfl (by decide) _ _ _ rfl hown2 _ rfl rfl ?c1 ?c2 ?c3 ?c4 ?_)
        case c1 => exact ⟨rfl, rfl, rfl⟩
        case c2 => unfold maxLen; omega
        case c3 => omega
        case c4 => omega
        intro v' w' ho' hb' _ _
        obtain ⟨fb, hsn⟩ := H3.out
        have H4 := Lib.hid (And.intro (fb.trans hb') (And.intro hsn ho'))
        clear fb hsn ho' hb' hown2
        go_wp2
        obtain ⟨fb, hsn, ho'⟩ := H4.out
        go_roundw
        case rel =>
          refine ⟨k + 1, by go_num, by omega, fb, ?_⟩
          rw [hsn]
          unfold keepStep
          rw [if_neg HE.out, ← flatT_snoc, List.length_append]
          exact ho'
        case measure => simp [intOf]; omega
    · have hk2 : k = l.length := by omega
      have hfin : frontTo (sortT l) k = frontL l := by unfold frontL; rw [hk2, hlen]
      rw [hfin] at hown ⊢
      have HR := Lib.hid (And.intro fb (And.intro hown (And.intro hb0 hk2)))
      clear fb hown hb0 hk2 hfin hfl hlen ht0 htf
      go_wp2_with fail
      go_ret
      obtain ⟨fb, hown, hb0, hk2⟩ := HR.out
      refine ⟨_, rfl, ?_, hb0.trans (fb.mono hb0.size)⟩
      exact ⟨hown.1, hown.2.imp id fun ⟨g, cap, cur, e, hbg, r⟩ => ⟨g, cap, cur, e, Nat.le_trans hb0.size hbg, r⟩⟩
end Go.Proofs.YtjffohpdjicfpaaGreat
namespace Go.Proofs.YtjffohpdjicfpaaGreat
open Go Go.RowKit
set_option maxRecDepth 100000 in
set_option maxHeartbeats 1600000 in
theorem bfrontier_any (A : Option Addr) (c : Nat) (l : List Tm) (w : World) (hl : Times w w.heap.size A l) (hn : l.length * 24 ≤ 140737488351232) :
    Calls Tryz.prog 105 #[.slice A l.length c] w fun e w' => ∃ b : Bool, e = .returned (.bool b) ∧ (b = true ↔ chk l = 0 ∧ frontL l = l) ∧ Below w.heap.size w w' := by
  have HL := Lib.hid (And.intro hl hn)
  have HC := Lib.hid (check_any A c l w hl (by unfold maxLen; omega))
  have HF := Lib.hid (fun (W : World) (h : Times W W.heap.size A l) => front_any A c l W h hn)
  clear hl
  go_enter Tryz.func105, Tryz.ntmps105
  go_wp2_with fail
  refine HC.out.mono ?_
  rintro _ w1 ⟨rfl, b1⟩
  have H1 := Lib.hid b1
  clear b1 HC
  by_cases h0 : chk l = 0
  · have hv : (chk l == 0) = true := by rw [h0]; rfl
    have HF1 := Lib.hid (HF.out w1 ((HL.out.1.past H1.out (Nat.le_refl _)).wide H1.out.size))
    have H0 := Lib.hid h0
    clear h0 HF
    go_wp2_with fail
    refine HF1.out.mono ?_
    rintro _ w2 ⟨v, rfl, ho, b2⟩
    obtain ⟨A2, c2, rfl, hc2, hm2, ht2⟩ := times_of_own rfl ho
    have hb2 := belows H1.out b2
    have hl2 := ((HL.out.1.past hb2 (Nat.le_refl _)).wide hb2.size)
    have HQ := Lib.hid (equalTs_any A2 A c2 c (frontL l) l w2 ht2 hl2 (by unfold maxLen at *; omega) (by unfold maxLen; have := HL.out.2; omega))
    have H2 := Lib.hid hb2
    clear ho b2 hc2 hm2 ht2 hb2 hl2 HF1
    go_wp2_with fail
    refine HQ.out.mono ?_
    rintro _ w3 ⟨rfl, b3⟩
    have H3 := Lib.hid (belows H2.out b3)
    clear b3 HQ
    by_cases he : frontL l = l
    · have hv2 : decide (frontL l = l) = true := decide_eq_true he
      have HE := Lib.hid he
      clear he
      go_wp2_with fail
      go_ret
      exact ⟨_, rfl, ⟨fun _ => ⟨H0.out, HE.out⟩, fun _ => rfl⟩, H3.out⟩
    · have hv2 : decide (frontL l = l) = false := decide_eq_false he
      have HE := Lib.hid he
      clear he
      go_wp2_with fail
      go_ret
      exact ⟨_, rfl, ⟨fun h => (by cases h), fun h => absurd h.2 HE.out⟩, H3.out⟩
  · have hv : (chk l == 0) = false := by simpa using h0
    have H0 := Lib.hid h0
    clear h0 HF
    go_wp2_with fail
    go_ret
    exact ⟨_, rfl, ⟨fun h => (by cases h), fun h => absurd h.1 H0.out⟩, H1.out⟩
theorem tells_is {P : Prop} {w : World} {x : Ending} {w' : World} {b : Bool} (hb : b = true ↔ P) (h : Tells P w x w') : x = .returned (.bool b) ∧ Below w.heap.size w w' := by
  obtain ⟨b', h1, h2, h3⟩ := h
  have : b' = b := by rw [Bool.eq_iff_iff, h2, hb]
  rw [h1, this]
  exact ⟨rfl, h3⟩
theorem bool_of (P : Prop) : ∃ b : Bool, b = true ↔ P := by
  by_cases h : P
  · exact ⟨true, by simp [h]⟩
  · exact ⟨false, by simp [h]⟩
def Codes (P : Prop) (k : Int) (w : World) (x : Ending) (w' : World) : Prop := ∃ n : Int, x = .returned (.int .i64 n) ∧ (P ∧ n = 0 ∨ ¬ P ∧ n = k) ∧ Below w.heap.size w w'
theorem codes_is {P : Prop} {k n : Int} {w : World} {x : Ending} {w' : World} (hn : P ∧ n = 0 ∨ ¬ P ∧ n = k) (h : Codes P k w x w') : x = .returned (.int .i64 n) ∧ Below w.heap.size w w' := by
  obtain ⟨n', h1, h2, h3⟩ := h
  have : n' = n := by
    rcases hn with ⟨a, b⟩ | ⟨a, b⟩
    · rcases h2 with ⟨c, d⟩ | ⟨c, d⟩
      · rw [d, b]
      · exact absurd a c
    · rcases h2 with ⟨c, d⟩ | ⟨c, d⟩
      · exact absurd c a
      · rw [d, b]
  rw [h1, this]
  exact ⟨rfl, h3⟩
theorem code_of (P : Prop) (k : Int) : ∃ n : Int, P ∧ n = 0 ∨ ¬ P ∧ n = k := by
  by_cases h : P
  · exact ⟨0, .inl ⟨h, rfl⟩⟩
  · exact ⟨k, .inr ⟨h, rfl⟩⟩
set_option maxRecDepth 100000 in
set_option maxHeartbeats 6400000 in
theorem bcheck_any (b : Bt) (w : World) (hb : BtIn w w.heap.size b) (hok : BtOk b) :
    Calls Tryz.prog 77 #[b.val] w (Codes (BatchOk b.f b.l) 4 w) := by
  obtain ⟨V, hV, hvb, hvs, hvo⟩ := btbox w b
  have hX := fun p : Past V => own2 (hvo.past p.h hvo.inside)
  have hin := hb.keep hvb
  have hfV := fun p : Past V => (hin.since.past p.h (Nat.le_refl _)).wide p.h.size
  have huV := fun p : Past V => (hin.ups.past p.h (Nat.le_refl _)).wide p.h.size
  obtain ⟨bf, hbf⟩ := bool_of (FrontOk b.f)
  obtain ⟨be, hbe⟩ := bool_of (EvenP b.l)
  obtain ⟨ba, hba⟩ := bool_of (∀ u ∈ b.l, adv u.t b.f = u.t)
  have n1 := hok.f.n
  have u1 := fun p : Past V => calls_past ((bfrontier_any b.sA b.sc b.f p.w (hfV p) (by omega)).mono fun x w' h => tells_is hbf h)
  have u2 := fun p : Past V => calls_past ((even_any b.uA b.uc b.l p.w (huV p) hok.l.ok hok.l.n).mono fun x w' h => tells_is hbe h)
  have u3 := fun p : Past V => calls_past ((badvanced_any b.uA b.uc b.l b.sA b.sc b.f p.w (huV p) hok.l.n (hfV p) hok.f).mono fun x w' h => tells_is hba h)
  have HB := Lib.hid hvb
  have hend : ∀ n : Int, (bf = true ∧ be = true ∧ ba = true ∧ n = 0 ∨ ¬ (bf = true ∧ be = true ∧ ba = true) ∧ n = 4) → BatchOk b.f b.l ∧ n = 0 ∨ ¬ BatchOk b.f b.l ∧ n = 4 := fun n h => by
    rcases h with ⟨a1, a2, a3, a4⟩ | ⟨a1, a2⟩
    · exact .inl ⟨⟨hbf.1 a1, hbe.1 a2, hba.1 a3⟩, a4⟩
    · exact .inr ⟨fun h => a1 ⟨hbf.2 h.1, hbe.2 h.2.1, hba.2 h.2.2⟩, a2⟩
  have HE := Lib.hid hend
  rw [show b.val = .agg #[.slice b.sA b.f.length b.sc, .slice b.uA b.l.length b.uc] from rfl]
  have HP := Lib.hid (show ∀ n x w', (x = Ending.returned (.int .i64 n) ∧ (BatchOk b.f b.l ∧ n = 0 ∨ ¬ BatchOk b.f b.l ∧ n = 4) ∧ Below w.heap.size w w') → Codes (BatchOk b.f b.l) 4 w x w' from fun n x w' h => ⟨n, h⟩)
  clear hb hok hvb hvs hvo hin hfV huV hbf hbe hba n1 hend
  go_enter Tryz.func77, Tryz.ntmps77
  go_upto_region 1 with fail
  rw [← hV]
  clear hV
  obtain ⟨a0, a1⟩ := hX ⟨V, Below.refl _ _⟩
  dsimp only at a0 a1
  go_wp2_with fail
  refine (u1 ⟨V, Below.refl _ _⟩).mono ?_
  rintro _ _ ⟨rfl, ⟨p1, rfl⟩⟩
  clear a0 a1 u1
  obtain ⟨a0, a1⟩ := hX p1
  cases bf with
  | false =>
    clear u2 u3 hX
    go_wp2_with fail
    go_ret
    exact HP.out 4 _ _ ⟨rfl, HE.out _ (.inr ⟨by simp, rfl⟩), HB.out.trans (p1.h.mono HB.out.size)⟩
  | true =>
  go_wp2_with fail
  refine (u2 p1).mono ?_
  rintro _ _ ⟨rfl, ⟨p2, rfl⟩⟩
  clear a0 a1 u2
  obtain ⟨a0, a1⟩ := hX p2
  cases be with
  | false =>
    clear u3 hX
    go_wp2_with fail
    go_ret
    exact HP.out 4 _ _ ⟨rfl, HE.out _ (.inr ⟨by simp, rfl⟩), HB.out.trans (p2.h.mono HB.out.size)⟩
  | true =>
  go_wp2_with fail
  refine (u3 p2).mono ?_
  rintro _ _ ⟨rfl, ⟨p3, rfl⟩⟩
  clear a0 a1 u3 hX
  cases ba with
  | false =>
    go_wp2_with fail
    go_ret
    exact HP.out 4 _ _ ⟨rfl, HE.out _ (.inr ⟨by simp, rfl⟩), HB.out.trans (p3.h.mono HB.out.size)⟩
  | true =>
    go_wp2_with fail
    go_ret
    exact HP.out 0 _ _ ⟨rfl, HE.out _ (.inl (by simp)), HB.out.trans (p3.h.mono HB.out.size)⟩
set_option maxRecDepth 100000 in
set_option maxHeartbeats 3200000 in
theorem place_any (a b : Up) (w : World) (ha : UIn w w.heap.size a) (hb : UIn w w.heap.size b) (oa : UOk a) (ob : UOk b) :
    Calls Tryz.prog 192 #[.agg #[.slice a.kA a.key.length a.kc, .slice a.rA a.row.length a.rc, .int .u64 (a.t.e : Int), .int .u64 (a.t.a : Int), .int .u64 (a.t.b : Int), .int .i64 a.d], .agg #[.slice b.kA b.key.length b.kc, .slice b.rA b.row.length b.rc, .int .u64 (b.t.e : Int), .int .u64 (b.t.a : Int), .int .u64 (b.t.b : Int), .int .i64 b.d]] w fun e w' => e = .returned (.int .i64 (plc a b)) ∧ Below w.heap.size w w' := by
  have y1 := fun W h1 h2 => Lib.hid (rows_gr a.kA b.kA a.kc b.kc a.key b.key W h1 h2 (maxn oa.kn) (maxn ob.kn))
  have y2 := fun W h1 h2 => Lib.hid (rows_gr a.rA b.rA a.rc b.rc a.row b.row W h1 h2 (maxn oa.rn) (maxn ob.rn))
  have hc := Lib.hid (show plc a b = if cmpRows a.key b.key = 0 then cmpRows a.row b.row else cmpRows a.key b.key from rfl)
  obtain ⟨W, hW, hg, o1, o2⟩ := two_box w a b
  have HB := Lib.hid (And.intro hg (And.intro o1 (And.intro o2 (And.intro (ha.keep hg.below) (hb.keep hg.below)))))
  obtain ⟨a0, a1, a2, a3, a4, a5⟩ := own6 o1
  obtain ⟨b0, b1, b2, b3, b4, b5⟩ := own6 o2
  generalize cmpRows a.key b.key = x at *
  generalize cmpRows a.row b.row = y at *
  generalize plc a b = z at *
  clear ha hb oa ob hg o1 o2
  go_enter Tryz.func192, Tryz.ntmps192
  go_upto_region 1 with fail
  rw [← hW]
  clear hW
  go_wp2_with fail
  refine (y1 _ HB.out.2.2.2.1.key HB.out.2.2.2.2.key).out.mono ?_
  rintro _ w1 ⟨rfl, g1⟩
  have H1 := Lib.hid (And.intro (HB.out.1.trans g1) (And.intro (HB.out.2.1.past g1.below HB.out.2.1.inside) (And.intro (HB.out.2.2.1.past g1.below HB.out.2.2.1.inside) (And.intro (HB.out.2.2.2.1.keep g1.below) (HB.out.2.2.2.2.keep g1.below)))))
  clear g1 a0 a1 a2 a3 a4 a5 b0 b1 b2 b3 b4 b5 y1
  obtain ⟨a0, a1, a2, a3, a4, a5⟩ := own6 H1.out.2.1
  obtain ⟨b0, b1, b2, b3, b4, b5⟩ := own6 H1.out.2.2.1
  by_cases hx : x = 0
  case neg =>
    have t1 : (x == 0) = false := beq_eq_false_iff_ne.2 hx
    have t2 : (x != 0) = true := bne_iff_ne.2 hx
    rw [if_neg hx] at hc
    clear hx
    go_wp2_with fail
    go_ret
    exact ⟨ret_i64 hc.out.symm, H1.out.1.below⟩
  rw [if_pos hx] at hc
  subst hx
  go_wp2_with fail
  refine (y2 _ H1.out.2.2.2.1.row H1.out.2.2.2.2.row).out.mono ?_
  rintro _ w2 ⟨rfl, g2⟩
  have H2 := Lib.hid (H1.out.1.trans g2)
  clear g2 a0 a1 a2 a3 a4 a5 b0 b1 b2 b3 b4 b5 y2
  go_wp2_with fail
  go_ret
  exact ⟨ret_i64 hc.out.symm, H2.out.below⟩
theorem sub_one {n : Nat} (h : 0 < n) : ((n : Int) - 1) = ((n - 1 : Nat) : Int) := by omega
set_option maxRecDepth 100000 in
set_option maxHeartbeats 12800000 in
theorem divided_any (A : Option Addr) (c : Nat) (l : List Up) (i : Int) (A' : Option Addr) (c' : Nat) (o : List Up) (w : World) (hl : Ups w w.heap.size A l) (hlo : UsOk l) (ho : Ups w w.heap.size A' o) (hoo : UsOk o) (hi : -9223372036854775808 ≤ i ∧ i ≤ 9223372036854775807) :
    Calls Tryz.prog 169 #[.slice A l.length c, .int .i64 i, .slice A' o.length c'] w (Tells (DivB l i o) w) := by
  by_cases h0 : i < 0
  · have t1 : decide (i < 0) = true := decide_eq_true h0
    have HD := Lib.hid (show ¬ DivB l i o from fun h => absurd h.lo (by omega))
    clear h0 hl hlo ho hoo
    go_enter Tryz.func169, Tryz.ntmps169
    go_wp2_with fail
    go_ret
    exact ⟨false, rfl, ⟨fun h => (by cases h), fun h => absurd h HD.out⟩, Below.refl _ _⟩
  have t0 : decide (i < 0) = false := decide_eq_false h0
  obtain ⟨k, rfl⟩ : ∃ k : Nat, i = (k : Int) := ⟨i.toNat, by omega⟩
  by_cases h1 : k > l.length
  · have t1 : decide (l.length < k) = true := decide_eq_true h1
    have HD := Lib.hid (show ¬ DivB l k o from fun h => absurd h.hi (by omega))
    clear h0 h1 hl hlo ho hoo
    go_enter Tryz.func169, Tryz.ntmps169
    go_wp2_with fail
    go_ret
    exact ⟨false, rfl, ⟨fun h => (by cases h), fun h => absurd h HD.out⟩, Below.refl _ _⟩
  have t2 : decide (l.length < k) = false := decide_eq_false (by omega)
  by_cases h2 : k = l.length
  · have HD := Lib.hid (show DivB l k o from ⟨by omega, by omega, fun x y _ _ hy => (by rw [Int.toNat_natCast, h2, List.getElem?_eq_none (Nat.le_refl _)] at hy; cases hy), fun z y _ hy => (by rw [Int.toNat_natCast, h2, List.getElem?_eq_none (Nat.le_refl _)] at hy; cases hy)⟩)
    have t3 : ((k : Int) == (l.length : Int)) = true := by simp [h2]
    clear h0 h1 h2 hl hlo ho hoo
    go_enter Tryz.func169, Tryz.ntmps169
    go_wp2_with fail
    go_ret
    exact ⟨true, rfl, ⟨fun _ => HD.out, fun _ => rfl⟩, Below.refl _ _⟩
  have t3 : ((k : Int) == (l.length : Int)) = false := by simp; omega
  have hkl : k < l.length := by omega
  have hy : l[k]? = some l[k] := List.getElem?_eq_getElem hkl
  have hym := List.mem_of_getElem? hy
  generalize l[k] = y at *
  have hyo := hlo.ok y hym
  have hyn := hl.each_ y hym
  obtain ⟨b, f, rfl, hB, hys⟩ := lies_up hl.head (by omega)
  have hY := fun p : Past w => ((hys k y hy).past_ p.h hB).six
  have hyi := fun p : Past w => (hyn.past p.h (Nat.le_refl _)).wide p.h.size
  have hkn := hlo.n
  have hon := hoo.n
  have hdiv : ∀ (h1 : 0 < k → ∀ x, l[k - 1]? = some x → plc x y < 0) (h2 : ∀ z, o[o.length - 1]? = some z → plc z y < 0), DivB l k o := fun h1 h2 => ⟨by omega, by omega, fun x y' hk hx hy' => (by
    rw [Int.toNat_natCast] at hx hy'
    rw [hy] at hy'
    cases hy'
    exact h1 (by omega) x hx), fun z y' hz hy' => (by
    rw [Int.toNat_natCast, hy] at hy'
    cases hy'
    exact h2 z hz)⟩
  have hno1 : ∀ x, 0 < k → l[k - 1]? = some x → ¬ plc x y < 0 → ¬ DivB l k o := fun x hk hx hn h => hn (h.side x y (by omega) (by rw [Int.toNat_natCast]; exact hx) (by rw [Int.toNat_natCast]; exact hy))
  have hno2 : ∀ z, o[o.length - 1]? = some z → ¬ plc z y < 0 → ¬ DivB l k o := fun z hz hn h => hn (h.past z y hz (by rw [Int.toNat_natCast]; exact hy))
  have q0 : (0 : Int) ≤ (k : Int) := by omega
  have q1 : (k : Int) < (l.length : Int) := by omega
  by_cases hk0 : 0 < k
  case neg =>
    have t4 : ((k : Int) == 0) = true := by simp; omega
    by_cases hn0 : 0 < o.length
    case neg =>
      have t5 : ((o.length : Int) == 0) = true := beq_iff_eq.2 (by omega)
      have HD := Lib.hid (hdiv (fun h => absurd h hk0) fun z hz => by rw [List.getElem?_eq_none (by omega)] at hz; cases hz)
      clear hl hlo ho hoo hy hym hyo hyn hys hyi hkl h0 h1 h2 hdiv hno1 hno2 hk0 hn0 hY
      go_enter Tryz.func169, Tryz.ntmps169
      go_upto_region 6 with fail
      refine wp_region_past w (by kernel_rfl) (by kernel_rfl) (Below.refl _ _) ?_
      repeat (first | go_big_quiet_step (fail) | quiet_step (fail))
      refine wpQuiet_nil ?_
      intro wz hw'
      obtain ⟨⟨wy, hbz⟩, hw''⟩ := hw'
      dsimp only at hw''
      subst hw''
      have HZ := Lib.hid hbz
      clear hbz
      go_wp2_with fail
      go_ret
      exact ⟨true, rfl, ⟨fun _ => HD.out, fun _ => rfl⟩, HZ.out⟩
    case pos =>
      have hz : o[o.length - 1]? = some o[o.length - 1] := List.getElem?_eq_getElem (by omega)
      have hzm := List.mem_of_getElem? hz
      generalize o[o.length - 1] = z at *
      have hzo := hoo.ok z hzm
      have hzn := ho.each_ z hzm
      obtain ⟨b', f', rfl, hB', hzs⟩ := lies_up ho.head hn0
      have hZ := fun p : Past w => ((hzs (o.length - 1) z hz).past_ p.h hB').six
      have hzi := fun p : Past w => (hzn.past p.h (Nat.le_refl _)).wide p.h.size
      have u2 := fun p : Past w => calls_past (place_any z y p.w (hzi p) (hyi p) hzo hyo)
      have hn1 := sub_one hn0
      have r0 : (0 : Int) ≤ ((o.length - 1 : Nat) : Int) := by omega
      have r1 : ((o.length - 1 : Nat) : Int) < (o.length : Int) := by omega
      have r2 : IntKind.i64.wrap ((o.length : Int) - 1) = ((o.length - 1 : Nat) : Int) := by rw [IntWalk.i64_in _ (by omega)]; exact hn1
      have t5 : ((o.length : Int) == 0) = false := beq_eq_false_iff_ne.2 (by omega)
      by_cases hp : plc z y < 0
      · have HD := Lib.hid (hdiv (fun h => absurd h hk0) fun z' hz' => by rw [hz] at hz'; cases hz'; exact hp)
        generalize plc z y = pz at *
        have t6 : decide (pz < 0) = true := decide_eq_true hp
        clear hl hlo ho hoo hy hym hyo hyn hys hyi hkl h0 h1 h2 hdiv hno1 hno2 hk0 hn0 hp hz hzm hzo hzn hzs hzi hn1
        go_enter Tryz.func169, Tryz.ntmps169
        go_upto_region 6 with fail
        refine wp_region_past w (by kernel_rfl) (by kernel_rfl) (Below.refl _ _) ?_
        repeat (first | go_big_quiet_step (fail) | quiet_step (fail))
        quiet_step ((go_at_call 192; exact u2 _))
        repeat (first | go_big_quiet_step (fail) | quiet_step (fail))
        refine wpQuiet_nil ?_
        intro wz hw'
        obtain ⟨⟨wy, hbz⟩, hw''⟩ := hw'
        dsimp only at hw''
        subst hw''
        have HZ := Lib.hid hbz
        clear hbz
        go_wp2_with fail
        go_ret
        exact ⟨true, rfl, ⟨fun _ => HD.out, fun _ => rfl⟩, HZ.out⟩
      · have HD := Lib.hid (hno2 z hz hp)
        generalize plc z y = pz at *
        have t6 : decide (pz < 0) = false := decide_eq_false hp
        clear hl hlo ho hoo hy hym hyo hyn hys hyi hkl h0 h1 h2 hdiv hno1 hno2 hk0 hn0 hp hz hzm hzo hzn hzs hzi hn1
        go_enter Tryz.func169, Tryz.ntmps169
        go_upto_region 6 with fail
        refine wp_region_past w (by kernel_rfl) (by kernel_rfl) (Below.refl _ _) ?_
        repeat (first | go_big_quiet_step (fail) | quiet_step (fail))
        quiet_step ((go_at_call 192; exact u2 _))
        repeat (first | go_big_quiet_step (fail) | quiet_step (fail))
        refine wpQuiet_nil ?_
        intro wz hw'
        obtain ⟨⟨wy, hbz⟩, hw''⟩ := hw'
        dsimp only at hw''
        subst hw''
        have HZ := Lib.hid hbz
        clear hbz
        go_wp2_with fail
        go_ret
        exact ⟨false, rfl, ⟨fun h => (by cases h), fun h => absurd h HD.out⟩, HZ.out⟩
  case pos =>
    have hkp : k - 1 < l.length := by omega
    have hx : l[k - 1]? = some l[k - 1] := List.getElem?_eq_getElem hkp
    have hxm := List.mem_of_getElem? hx
    generalize l[k - 1] = x at *
    have hxo := hlo.ok x hxm
    have hxn := hl.each_ x hxm
    have hX := fun p : Past w => ((hys (k - 1) x hx).past_ p.h hB).six
    have hxi := fun p : Past w => (hxn.past p.h (Nat.le_refl _)).wide p.h.size
    have u1 := fun p : Past w => calls_past (place_any x y p.w (hxi p) (hyi p) hxo hyo)
    have hk1 := sub_one hk0
    have s0 : (0 : Int) ≤ ((k - 1 : Nat) : Int) := by omega
    have s1 : ((k - 1 : Nat) : Int) < (l.length : Int) := by omega
    have s2 : IntKind.i64.wrap ((k : Int) - 1) = ((k - 1 : Nat) : Int) := by rw [IntWalk.i64_in _ (by omega)]; exact hk1
    have t4 : ((k : Int) == 0) = false := by simp; omega
    by_cases hp1 : plc x y < 0
    case neg =>
      have HD := Lib.hid (hno1 x hk0 hx hp1)
      generalize plc x y = px at *
      have t7 : decide (px < 0) = false := decide_eq_false hp1
      clear hl hlo ho hoo hy hym hyo hyn hys hyi hkl h0 h1 h2 hdiv hno1 hno2 hk0 hp1 hx hxm hxo hxn hxi hk1 hkp
      go_enter Tryz.func169, Tryz.ntmps169
      go_upto_region 6 with fail
      refine wp_region_past w (by kernel_rfl) (by kernel_rfl) (Below.refl _ _) ?_
      repeat (first | go_big_quiet_step (fail) | quiet_step (fail))
      quiet_step ((go_at_call 192; exact u1 _))
      repeat (first | go_big_quiet_step (fail) | quiet_step (fail))
      refine wpQuiet_nil ?_
      intro wz hw'
      obtain ⟨⟨wy, hbz⟩, hw''⟩ := hw'
      dsimp only at hw''
      subst hw''
      have HZ := Lib.hid hbz
      clear hbz
      go_wp2_with fail
      go_ret
      exact ⟨false, rfl, ⟨fun h => (by cases h), fun h => absurd h HD.out⟩, HZ.out⟩
    case pos =>
      by_cases hn0 : 0 < o.length
      case neg =>
        have t5 : ((o.length : Int) == 0) = true := beq_iff_eq.2 (by omega)
        have HD := Lib.hid (hdiv (fun _ x' hx' => by rw [hx] at hx'; cases hx'; exact hp1) fun z hz => by rw [List.getElem?_eq_none (by omega)] at hz; cases hz)
        generalize plc x y = px at *
        have t7 : decide (px < 0) = true := decide_eq_true hp1
        clear hl hlo ho hoo hy hym hyo hyn hys hyi hkl h0 h1 h2 hdiv hno1 hno2 hk0 hn0 hp1 hx hxm hxo hxn hxi hk1 hkp
        go_enter Tryz.func169, Tryz.ntmps169
        go_upto_region 6 with fail
        refine wp_region_past w (by kernel_rfl) (by kernel_rfl) (Below.refl _ _) ?_
        repeat (first | go_big_quiet_step (fail) | quiet_step (fail))
        quiet_step ((go_at_call 192; exact u1 _))
        repeat (first | go_big_quiet_step (fail) | quiet_step (fail))
        refine wpQuiet_nil ?_
        intro wz hw'
        obtain ⟨⟨wy, hbz⟩, hw''⟩ := hw'
        dsimp only at hw''
        subst hw''
        have HZ := Lib.hid hbz
        clear hbz
        go_wp2_with fail
        go_ret
        exact ⟨true, rfl, ⟨fun _ => HD.out, fun _ => rfl⟩, HZ.out⟩
      case pos =>
        have hz : o[o.length - 1]? = some o[o.length - 1] := List.getElem?_eq_getElem (by omega)
        have hzm := List.mem_of_getElem? hz
        generalize o[o.length - 1] = z at *
        have hzo := hoo.ok z hzm
        have hzn := ho.each_ z hzm
        obtain ⟨b', f', rfl, hB', hzs⟩ := lies_up ho.head hn0
        have hZ := fun p : Past w => ((hzs (o.length - 1) z hz).past_ p.h hB').six
        have hzi := fun p : Past w => (hzn.past p.h (Nat.le_refl _)).wide p.h.size
        have u2 := fun p : Past w => calls_past (place_any z y p.w (hzi p) (hyi p) hzo hyo)
        have hn1 := sub_one hn0
        have r0 : (0 : Int) ≤ ((o.length - 1 : Nat) : Int) := by omega
        have r1 : ((o.length - 1 : Nat) : Int) < (o.length : Int) := by omega
        have r2 : IntKind.i64.wrap ((o.length : Int) - 1) = ((o.length - 1 : Nat) : Int) := by rw [IntWalk.i64_in _ (by omega)]; exact hn1
        have t5 : ((o.length : Int) == 0) = false := beq_eq_false_iff_ne.2 (by omega)
        by_cases hp : plc z y < 0
        · have HD := Lib.hid (hdiv (fun _ x' hx' => by rw [hx] at hx'; cases hx'; exact hp1) fun z' hz' => by rw [hz] at hz'; cases hz'; exact hp)
          generalize plc z y = pz at *
          generalize plc x y = px at *
          have t6 : decide (pz < 0) = true := decide_eq_true hp
          have t7 : decide (px < 0) = true := decide_eq_true hp1
          clear hl hlo ho hoo hy hym hyo hyn hys hyi hkl h0 h1 h2 hdiv hno1 hno2 hk0 hn0 hp hp1 hx hxm hxo hxn hxi hk1 hkp hz hzm hzo hzn hzs hzi hn1
          go_enter Tryz.func169, Tryz.ntmps169
          go_upto_region 6 with fail
          refine wp_region_past w (by kernel_rfl) (by kernel_rfl) (Below.refl _ _) ?_
          repeat (first | go_big_quiet_step (fail) | quiet_step (fail))
          quiet_step ((go_at_call 192; exact u1 _))
          repeat (first | go_big_quiet_step (fail) | quiet_step (fail))
          quiet_step ((go_at_call 192; exact u2 _))
          repeat (first | go_big_quiet_step (fail) | quiet_step (fail))
          refine wpQuiet_nil ?_
          intro wz hw'
          obtain ⟨⟨wy, hbz⟩, hw''⟩ := hw'
          dsimp only at hw''
          subst hw''
          have HZ := Lib.hid hbz
          clear hbz
          go_wp2_with fail
          go_ret
          exact ⟨true, rfl, ⟨fun _ => HD.out, fun _ => rfl⟩, HZ.out⟩
        · have HD := Lib.hid (hno2 z hz hp)
          generalize plc z y = pz at *
          generalize plc x y = px at *
          have t6 : decide (pz < 0) = false := decide_eq_false hp
          have t7 : decide (px < 0) = true := decide_eq_true hp1
          clear hl hlo ho hoo hy hym hyo hyn hys hyi hkl h0 h1 h2 hdiv hno1 hno2 hk0 hn0 hp hp1 hx hxm hxo hxn hxi hk1 hkp hz hzm hzo hzn hzs hzi hn1
          go_enter Tryz.func169, Tryz.ntmps169
          go_upto_region 6 with fail
          refine wp_region_past w (by kernel_rfl) (by kernel_rfl) (Below.refl _ _) ?_
          repeat (first | go_big_quiet_step (fail) | quiet_step (fail))
          quiet_step ((go_at_call 192; exact u1 _))
          repeat (first | go_big_quiet_step (fail) | quiet_step (fail))
          quiet_step ((go_at_call 192; exact u2 _))
          repeat (first | go_big_quiet_step (fail) | quiet_step (fail))
          refine wpQuiet_nil ?_
          intro wz hw'
          obtain ⟨⟨wy, hbz⟩, hw''⟩ := hw'
          dsimp only at hw''
          subst hw''
          have HZ := Lib.hid hbz
          clear hbz
          go_wp2_with fail
          go_ret
          exact ⟨false, rfl, ⟨fun h => (by cases h), fun h => absurd h HD.out⟩, HZ.out⟩
def MOk (m : Mg) : Prop := MergOk m.f m.a m.b m.o m.i m.j
set_option maxRecDepth 100000 in
set_option maxHeartbeats 12800000 in
theorem checkM_any (m : Mg) (w : World) (hm : MgIn w w.heap.size m) (hok : MgOk m) :
    Calls Tryz.prog 121 #[m.val] w (Codes (MOk m) 8 w) := by
  obtain ⟨V, hV, hvb, hvs, hvo⟩ := mgbox w m
  have hX := fun p : Past V => own6 (hvo.past p.h hvo.inside)
  have hin := hm.keep hvb
  have hfV := fun p : Past V => (hin.f.past p.h (Nat.le_refl _)).wide p.h.size
  have haV := fun p : Past V => (hin.a.past p.h (Nat.le_refl _)).wide p.h.size
  have hbV := fun p : Past V => (hin.b.past p.h (Nat.le_refl _)).wide p.h.size
  have hoV := fun p : Past V => (hin.o.past p.h (Nat.le_refl _)).wide p.h.size
  obtain ⟨bea, hea⟩ := bool_of (EvenP m.a)
  obtain ⟨beb, heb⟩ := bool_of (EvenP m.b)
  obtain ⟨beo, heo⟩ := bool_of (EvenP m.o)
  obtain ⟨bf, hbf⟩ := bool_of (FrontOk m.f)
  obtain ⟨bad, had⟩ := bool_of (∀ u ∈ m.o, adv u.t m.f = u.t)
  obtain ⟨bda, hda⟩ := bool_of (DivB m.a m.i m.o)
  obtain ⟨bdb, hdb⟩ := bool_of (DivB m.b m.j m.o)
  have n1 := hok.f.n
  have u1 := fun p : Past V => calls_past ((even_any m.aA m.ac m.a p.w (haV p) hok.a.ok hok.a.n).mono fun x w' h => tells_is hea h)
  have u2 := fun p : Past V => calls_past ((even_any m.bA m.bc m.b p.w (hbV p) hok.b.ok hok.b.n).mono fun x w' h => tells_is heb h)
  have u3 := fun p : Past V => calls_past ((even_any m.oA m.oc m.o p.w (hoV p) hok.o.ok hok.o.n).mono fun x w' h => tells_is heo h)
  have u4 := fun p : Past V => calls_past ((bfrontier_any m.sA m.sc m.f p.w (hfV p) (by omega)).mono fun x w' h => tells_is hbf h)
  have u5 := fun p : Past V => calls_past ((badvanced_any m.oA m.oc m.o m.sA m.sc m.f p.w (hoV p) hok.o.n (hfV p) hok.f).mono fun x w' h => tells_is had h)
  have u6 := fun p : Past V => calls_past ((divided_any m.aA m.ac m.a m.i m.oA m.oc m.o p.w (haV p) hok.a (hoV p) hok.o hok.i).mono fun x w' h => tells_is hda h)
  have u7 := fun p : Past V => calls_past ((divided_any m.bA m.bc m.b m.j m.oA m.oc m.o p.w (hbV p) hok.b (hoV p) hok.o hok.j).mono fun x w' h => tells_is hdb h)
  have HB := Lib.hid hvb
  have HE := Lib.hid (show ∀ n : Int, (bea = true ∧ beb = true ∧ beo = true ∧ bf = true ∧ bad = true ∧ bda = true ∧ bdb = true) ∧ n = 0 ∨ ¬ (bea = true ∧ beb = true ∧ beo = true ∧ bf = true ∧ bad = true ∧ bda = true ∧ bdb = true) ∧ n = 8 → MOk m ∧ n = 0 ∨ ¬ MOk m ∧ n = 8 from fun n h => by
    rcases h with ⟨⟨a1, a2, a3, a4, a5, a6, a7⟩, a8⟩ | ⟨a1, a2⟩
    · exact .inl ⟨⟨⟨hea.1 a1, heb.1 a2, heo.1 a3⟩, hbf.1 a4, had.1 a5, hda.1 a6, hdb.1 a7⟩, a8⟩
    · exact .inr ⟨fun h => a1 ⟨hea.2 h.even.1, heb.2 h.even.2.1, heo.2 h.even.2.2, hbf.2 h.front, had.2 h.advd, hda.2 h.da, hdb.2 h.db⟩, a2⟩)
  rw [show m.val = .agg #[.slice m.aA m.a.length m.ac, .slice m.bA m.b.length m.bc, .int .i64 m.i, .int .i64 m.j, .slice m.sA m.f.length m.sc, .slice m.oA m.o.length m.oc] from rfl]
  have HP := Lib.hid (show ∀ n x w', (x = Ending.returned (.int .i64 n) ∧ (MOk m ∧ n = 0 ∨ ¬ MOk m ∧ n = 8) ∧ Below w.heap.size w w') → Codes (MOk m) 8 w x w' from fun n x w' h => ⟨n, h⟩)
  clear hm hok hvb hvs hvo hin hfV haV hbV hoV hea heb heo hbf had hda hdb n1
  go_enter Tryz.func121, Tryz.ntmps121
  go_upto_region 1 with fail
  rw [← hV]
  clear hV
  obtain ⟨a0, a1, a2, a3, a4, a5⟩ := hX ⟨V, Below.refl _ _⟩
  dsimp only at a0 a1 a2 a3 a4 a5
  go_wp2_with fail
  refine (u1 ⟨V, Below.refl _ _⟩).mono ?_
  rintro _ _ ⟨rfl, ⟨p0, rfl⟩⟩
  clear a0 a1 a2 a3 a4 a5 u1
  obtain ⟨a0, a1, a2, a3, a4, a5⟩ := hX p0
  cases bea with
  | false =>
    clear hX u2 u3 u4 u5 u6 u7
    go_wp2_with fail
    go_ret
    exact HP.out 8 _ _ ⟨rfl, HE.out _ (.inr ⟨by simp, rfl⟩), HB.out.trans (p0.h.mono HB.out.size)⟩
  | true =>
  go_wp2_with fail
  refine (u2 p0).mono ?_
  rintro _ _ ⟨rfl, ⟨p1, rfl⟩⟩
  clear a0 a1 a2 a3 a4 a5 u2
  obtain ⟨a0, a1, a2, a3, a4, a5⟩ := hX p1
  cases beb with
  | false =>
    clear hX u3 u4 u5 u6 u7
    go_wp2_with fail
    go_ret
    exact HP.out 8 _ _ ⟨rfl, HE.out _ (.inr ⟨by simp, rfl⟩), HB.out.trans (p1.h.mono HB.out.size)⟩
  | true =>
  go_wp2_with fail
  refine (u3 p1).mono ?_
  rintro _ _ ⟨rfl, ⟨p2, rfl⟩⟩
  clear a0 a1 a2 a3 a4 a5 u3
  obtain ⟨a0, a1, a2, a3, a4, a5⟩ := hX p2
  cases beo with
  | false =>
    clear hX u4 u5 u6 u7
    go_wp2_with fail
    go_ret
    exact HP.out 8 _ _ ⟨rfl, HE.out _ (.inr ⟨by simp, rfl⟩), HB.out.trans (p2.h.mono HB.out.size)⟩
  | true =>
  go_wp2_with fail
  refine (u4 p2).mono ?_
  rintro _ _ ⟨rfl, ⟨p3, rfl⟩⟩
  clear a0 a1 a2 a3 a4 a5 u4
  obtain ⟨a0, a1, a2, a3, a4, a5⟩ := hX p3
  cases bf with
  | false =>
    clear hX u5 u6 u7
    go_wp2_with fail
    go_ret
    exact HP.out 8 _ _ ⟨rfl, HE.out _ (.inr ⟨by simp, rfl⟩), HB.out.trans (p3.h.mono HB.out.size)⟩
  | true =>
  go_wp2_with fail
  refine (u5 p3).mono ?_
  rintro _ _ ⟨rfl, ⟨p4, rfl⟩⟩
  clear a0 a1 a2 a3 a4 a5 u5
  obtain ⟨a0, a1, a2, a3, a4, a5⟩ := hX p4
  cases bad with
  | false =>
    clear hX u6 u7
    go_wp2_with fail
    go_ret
    exact HP.out 8 _ _ ⟨rfl, HE.out _ (.inr ⟨by simp, rfl⟩), HB.out.trans (p4.h.mono HB.out.size)⟩
  | true =>
  go_wp2_with fail
  refine (u6 p4).mono ?_
  rintro _ _ ⟨rfl, ⟨p5, rfl⟩⟩
  clear a0 a1 a2 a3 a4 a5 u6
  obtain ⟨a0, a1, a2, a3, a4, a5⟩ := hX p5
  cases bda with
  | false =>
    clear hX u7
    go_wp2_with fail
    go_ret
    exact HP.out 8 _ _ ⟨rfl, HE.out _ (.inr ⟨by simp, rfl⟩), HB.out.trans (p5.h.mono HB.out.size)⟩
  | true =>
  go_wp2_with fail
  refine (u7 p5).mono ?_
  rintro _ _ ⟨rfl, ⟨p6, rfl⟩⟩
  clear a0 a1 a2 a3 a4 a5 u7
  obtain ⟨a0, a1, a2, a3, a4, a5⟩ := hX p6
  cases bdb with
  | false =>
    clear hX 
    go_wp2_with fail
    go_ret
    exact HP.out 8 _ _ ⟨rfl, HE.out _ (.inr ⟨by simp, rfl⟩), HB.out.trans (p6.h.mono HB.out.size)⟩
  | true =>
  go_wp2_with fail
  go_ret
  exact HP.out 0 _ _ ⟨rfl, HE.out _ (.inl (by simp)), HB.out.trans (p6.h.mono HB.out.size)⟩
theorem bt_box2 (w : World) (b : Bt) : ∃ V, V = (w.alloc (.cells #[.slice b.sA b.f.length b.sc, .slice b.uA b.l.length b.uc] 125)).alloc (.cells #[.slice none 0 0, .slice none 0 0] 125) ∧ Below w.heap.size w V ∧ Own V w.heap.size 125 b.cells ∧ Own V (w.heap.size + 1) 125 [.slice none 0 0, .slice none 0 0] := by
  refine ⟨_, rfl, ((Below.refl _ _).alloc (Nat.le_refl _) _).alloc (by simp) _, (Own.made w 125 b.cells).more _, ?_⟩
  exact own_next (w := w.alloc (.cells #[.slice b.sA b.f.length b.sc, .slice b.uA b.l.length b.uc] 125)) (l := [.slice none 0 0, .slice none 0 0]) (by simp)
theorem mg_box2 (w : World) (m : Mg) : ∃ V, V = (w.alloc (.cells #[.slice m.aA m.a.length m.ac, .slice m.bA m.b.length m.bc, .int .i64 m.i, .int .i64 m.j, .slice m.sA m.f.length m.sc, .slice m.oA m.o.length m.oc] 127)).alloc (.cells #[.slice none 0 0, .slice none 0 0, .int .i64 0, .int .i64 0, .slice none 0 0, .slice none 0 0] 127) ∧ Below w.heap.size w V ∧ Own V w.heap.size 127 m.cells ∧ Own V (w.heap.size + 1) 127 Mg.nil.cells := by
  refine ⟨_, rfl, ((Below.refl _ _).alloc (Nat.le_refl _) _).alloc (by simp) _, (Own.made w 127 m.cells).more _, ?_⟩
  exact own_next (w := w.alloc (.cells #[.slice m.aA m.a.length m.ac, .slice m.bA m.b.length m.bc, .int .i64 m.i, .int .i64 m.j, .slice m.sA m.f.length m.sc, .slice m.oA m.o.length m.oc] 127)) (l := Mg.nil.cells) (by simp)
structure BtSame (b b' : Bt) : Prop where
  f : b'.f = b.f
  l : b'.l.map Up.p = b.l.map Up.p
structure MgSame (m m' : Mg) : Prop where
  a : m'.a.map Up.p = m.a.map Up.p
  b : m'.b.map Up.p = m.b.map Up.p
  i : m'.i = m.i
  j : m'.j = m.j
  f : m'.f = m.f
  o : m'.o.map Up.p = m.o.map Up.p
def CopyB (b : Bt) (w : World) (x : Ending) (w' : World) : Prop := ∃ b' : Bt, x = .returned b'.val ∧ BtSame b b' ∧ BtIn w' w'.heap.size b' ∧ BtOk b' ∧ BtLo w.heap.size b' ∧ Below w.heap.size w w'
def OffR (P : Nat) (v : Value) (A : Option Addr) (n : Nat) : Prop := 0 < n → ∀ b o, A = some (⟨b, o, none⟩ : Addr) → b ≠ P ∧ v.ownBlock ≠ some b
def OffU (P : Nat) (v : Value) (u : Up) : Prop := OffR P v u.kA u.key.length ∧ OffR P v u.rA u.row.length
def Off (P : Nat) (v : Value) (A : Option Addr) (l : List Up) : Prop := OffR P v A l.length ∧ ∀ u ∈ l, OffU P v u
structure MgApart (w : World) (base : Nat) (m : Mg) : Prop where
  row : w.ownsRow base 49 6 (.slice m.oA m.o.length m.oc) m.o.length (m.o.flatMap Up.cells)
  a : Off w.heap.size (.slice m.oA m.o.length m.oc) m.aA m.a
  b : Off w.heap.size (.slice m.oA m.o.length m.oc) m.bA m.b
  f : OffR w.heap.size (.slice m.oA m.o.length m.oc) m.sA m.f.length
  o : ∀ u ∈ m.o, OffU w.heap.size (.slice m.oA m.o.length m.oc) u
  na : m.a = [] → m.aA = none
  nb : m.b = [] → m.bA = none
  ac : m.ac = m.a.length
  bc : m.bc = m.b.length
theorem row_own {w : World} {base : Nat} {A : Option Addr} {l : List Up} (h : RowOwn w A l) (hb : ∀ b o, A = some (⟨b, o, none⟩ : Addr) → base ≤ b) (hn : l.length ≤ maxLen) : w.ownsRow base 49 6 (.slice A l.length l.length) l.length (l.flatMap Up.cells) := by
  by_cases hp : 0 < l.length
  · obtain ⟨G, rfl, ho, _⟩ := h.2 hp
    exact ⟨flat_size (size := 6) (cells := Up.cells) (fun _ => rfl) l, .inr ⟨G, l.length, (l.flatMap Up.cells).toArray, rfl, hb G 0 rfl, ho, Nat.le_refl _, hn, by simp only [List.size_toArray]; exact flat_size (size := 6) (cells := Up.cells) (fun _ => rfl) l, List.take_of_length_le (Nat.le_of_eq (flat_size (size := 6) (cells := Up.cells) (fun _ => rfl) l))⟩⟩
  · have h0 : l = [] := List.eq_nil_of_length_eq_zero (by omega)
    subst h0
    obtain rfl := h.1 rfl
    exact World.ownsRow_nil _ _ _ _
theorem apart_of {base P : Nat} {w3 w4 X : World} {m : Mg} (r4 : RowOwn w4 m.oA m.o) (n4 : Lo w3.heap.size m.oA m.o) (v4 : Ups w4 w4.heap.size m.oA m.o) (ua : Ups w3 w3.heap.size m.aA m.a) (ub : Ups w3 w3.heap.size m.bA m.b) (uf : Times w3 w3.heap.size m.sA m.f)
    (hs : w3.heap.size ≤ w4.heap.size) (hX : X.heap.size = w4.heap.size) (hg : w4.grownBy X (some P)) (hP : P < w3.heap.size) (hb : base ≤ w3.heap.size) (hc : m.oc = m.o.length) (hn : m.o.length ≤ maxLen) (na : m.a = [] → m.aA = none) (nb : m.b = [] → m.bA = none) (hac : m.ac = m.a.length) (hbc : m.bc = m.b.length) : MgApart X base m := by
  obtain ⟨aA, ac, a, bA, bc, b, i, j, sA, sc, f, oA, oc, o⟩ := m
  dsimp only at *
  subst hc
  have blk : ∀ k, (Value.slice oA o.length o.length).ownBlock = some k → w3.heap.size ≤ k := fun k h => by
    by_cases hp : 0 < o.length
    · obtain ⟨G, rfl, _⟩ := r4.2 hp
      have h9 := n4.1 G 0 rfl
      have : G = k := by simpa [Value.ownBlock] using h
      omega
    · obtain rfl := r4.1 (List.eq_nil_of_length_eq_zero (by omega))
      simp [Value.ownBlock] at h
  have far : ∀ k, k < w3.heap.size → k ≠ X.heap.size ∧ (Value.slice oA o.length o.length).ownBlock ≠ some k := fun k hk => ⟨by omega, fun h => by have := blk k h; omega⟩
  have rowF : ∀ {A : Option Addr} {r : List Vl}, Vals w3 w3.heap.size A r → OffR X.heap.size (.slice oA o.length o.length) A r.length := fun hv hp k o' e => by
    obtain ⟨b', o'', e', hb', _⟩ := hv hp
    rw [e'] at e
    simp only [Option.some.injEq, Addr.mk.injEq, and_true] at e
    exact far k (by omega)
  have lst : ∀ {A : Option Addr} {l : List Up}, Ups w3 w3.heap.size A l → Off X.heap.size (.slice oA o.length o.length) A l := fun {A l} hu => ⟨fun hp k o' e => by
    obtain ⟨b', o'', e', hb', _⟩ := hu.head hp
    rw [e'] at e
    simp only [Option.some.injEq, Addr.mk.injEq, and_true] at e
    exact far k (by omega), fun u hm => ⟨rowF (hu.each_ u hm).key, rowF (hu.each_ u hm).row⟩⟩
  refine ⟨World.ownsRow.kept (row := some P) (row_own r4 (fun k o' e => by have := n4.1 k o' e; omega) hn) hg ?_, lst ua, lst ub, fun hp k o' e => ?_, fun u hm => ?_, na, nb, hac, hbc⟩
  · right
    intro h
    have := blk P h
    omega
  · obtain ⟨b', o'', e', hb', _⟩ := uf hp
    rw [e'] at e
    simp only [Option.some.injEq, Addr.mk.injEq, and_true] at e
    exact far k (by omega)
  · have hp4 : 0 < o.length := List.length_pos_of_mem hm
    obtain ⟨G, hG, _, hGr⟩ := r4.2 hp4
    have hx := v4.each_ u hm
    have key : ∀ k o', (u.kA = some (⟨k, o', none⟩ : Addr) ∨ u.rA = some (⟨k, o', none⟩ : Addr)) → k < w4.heap.size → k ≠ X.heap.size ∧ (Value.slice oA o.length o.length).ownBlock ≠ some k := fun k o' e hk => ⟨by omega, fun h => by
      rw [hG] at h
      have : G = k := by simpa [Value.ownBlock] using h
      exact hGr u hm k o' e this.symm⟩
    refine ⟨fun hp k o' e => ?_, fun hp k o' e => ?_⟩
    · obtain ⟨b', o'', e', hb', _⟩ := hx.key hp
      have hbb : k = b' := by rw [e'] at e; simp only [Option.some.injEq, Addr.mk.injEq, and_true] at e; omega
      exact key k o' (.inl e) (by omega)
    · obtain ⟨b', o'', e', hb', _⟩ := hx.row hp
      have hbb : k = b' := by rw [e'] at e; simp only [Option.some.injEq, Addr.mk.injEq, and_true] at e; omega
      exact key k o' (.inr e) (by omega)
def CopyM (m : Mg) (w : World) (x : Ending) (w' : World) : Prop := ∃ m' : Mg, x = .returned m'.val ∧ MgSame m m' ∧ MgIn w' w'.heap.size m' ∧ MgOk m' ∧ MgLo w.heap.size m' ∧ Below w.heap.size w w' ∧ MgApart w' w.heap.size m'
structure MgSm (m : Mg) : Prop where
  ca : chkUs m.a = 0
  cb : chkUs m.b = 0
  co : chkUs m.o = 0
  na : m.a.length ≤ 274877906944
  nb : m.b.length ≤ 274877906944
  no : m.o.length ≤ 274877906944
set_option maxRecDepth 100000 in
set_option maxHeartbeats 6400000 in
theorem copyB_any (b : Bt) (w : World) (hb : BtIn w w.heap.size b) (hok : BtOk b) (h8 : chkUs b.l = 0) (hn : b.l.length ≤ 274877906944) :
    Calls Tryz.prog 63 #[b.val] w (CopyB b w) := by
  obtain ⟨V, hV, hvb, hvo, hvz⟩ := bt_box2 w b
  have hin := hb.keep hvb
  have hfn := hok.f.n
  have y1 := fun W (h : Bl V W) => Lib.hid (listT_times b.sA b.sc b.f W (hin.keep h).since (by omega))
  have y2 := fun W (h : Bl V W) => Lib.hid (copyUps_any b.uA b.uc b.l W (hin.keep h).ups hok.l h8 hn)
  have hB := hvz.inside
  have HS := Lib.hid (fun W (h : Bm (w.heap.size + 1) V W) => own2 (hvo.past h (Nat.lt_succ_self _)))
  have HZ := Lib.hid (fun W (h : Bl V W) => hvz.past h hvz.inside)
  have HB := Lib.hid hvb
  have HOK := Lib.hid hok
  have hself := Bl.refl V
  obtain ⟨d0, d1⟩ := own2 hvo
  rw [show b.val = .agg #[.slice b.sA b.f.length b.sc, .slice b.uA b.l.length b.uc] from rfl]
  have hbs : w.heap.size + 1 ≤ V.heap.size := Nat.le_of_lt hB
  have HP := Lib.hid (show ∀ x w' (b' : Bt), x = .returned b'.val → BtSame b b' → BtIn w' w'.heap.size b' → BtOk b' → BtLo w.heap.size b' → Below w.heap.size w w' → CopyB b w x w' from fun x w' b' h1 h2 h3 h4 h5 h6 => ⟨b', h1, h2, h3, h4, h5, h6⟩)
  clear hb hok hvb hvo hvz hin h8 hn hfn
  go_enter Tryz.func63, Tryz.ntmps63
  go_upto_region 1 with fail
  rw [← hV]
  clear hV
  go_region_held3 (fun w' => Bm (w.heap.size + 1) V w' ∧ (w'.cell? ⟨w.heap.size, 0, none⟩ = some (.slice b.sA b.f.length b.sc) ∧ w'.cell? ⟨w.heap.size, 1, none⟩ = some (.slice b.uA b.l.length b.uc)))
    ((refine (fun h => And.intro h (HS.out _ h)) ?_; repeat (first | with_reducible exact Bm.of hb2 hbs | with_reducible exact Bm.of hb1 hbs | with_reducible exact Bm.of hself hbs | with_reducible refine Bm.set ?_ (Nat.le_refl _) _ _ | with_reducible refine Bm.more ?_ hbs _ | with_reducible refine Bm.drew ?_)))
    (first | (go_at_call 97; have hq := hb1; refine (y2 _ hb1).out.mono ?_; rintro _ w2 ⟨A2, l2, rfl, p2, v2, o2, n2, b2, r2⟩; have hb2 : Bl V w2 := Bl.call hb1 b2; have v1 := tms_keep v1 b2; have f0 := (HZ.out _ hb2).open_ 0; have f1 := (HZ.out _ hb2).open_ 1; obtain ⟨e0, e1⟩ := own2 (HZ.out _ hb2)) | (go_at_call 39; refine (y1 _ hself.drew).out.mono ?_; rintro _ w1 ⟨A1, rfl, v1, n1, b1⟩; have hb1 : Bl V w1 := Bl.call hself.drew b1))
  have hX := ((HZ.out _ hb2).set_ 0 (.slice A1 b.f.length b.f.length)).set_ 1 (.slice A2 l2.length l2.length)
  obtain ⟨s1, s2⟩ := set2_other w2 (w.heap.size + 1) (.slice A1 b.f.length b.f.length) (.slice A2 l2.length l2.length)
  have hn1 : V.heap.size ≤ w1.heap.size := hb1.below.size
  have hlen := len_p p2
  have hbX := (HB.out.trans (hb2.below.mono HB.out.size)).setCell (p := ⟨w.heap.size + 1, 0, none⟩) (Nat.le_succ _) (.slice A1 b.f.length b.f.length) |>.setCell (p := ⟨w.heap.size + 1, 1, none⟩) (Nat.le_succ _) (.slice A2 l2.length l2.length)
  have HF := Lib.hid (And.intro (times_other v1 (fun b o e => by have h1 := (n1 b o e).1; simp at h1; omega) s1 s2) (And.intro (ups_other v2 (n2.mono (by omega)) s1 s2) (And.intro p2 (And.intro o2 (And.intro hbX hlen)))))
  have HN := Lib.hid (And.intro (fun b o (e : A1 = some ⟨b, o, none⟩) => (show w.heap.size ≤ b by have h1 := (n1 b o e).1; simp at h1; omega)) (n2.mono (show w.heap.size ≤ w1.heap.size by omega)))
  obtain ⟨x0, x1⟩ := own2 hX
  clear hX s1 s2 hn1 hlen hbX f0 f1 e0 e1 v1 v2 p2 o2 n2 n1 y1 y2 d0 d1
  go_wp2_with fail
  exact bodyPost_ret (v := .agg #[.slice A1 b.f.length b.f.length, .slice A2 l2.length l2.length]) (by simp [results, Tryz.results63, go_sem, x0, x1]) rfl (HP.out _ _ ⟨A1, b.f.length, b.f, A2, l2.length, l2⟩ rfl ⟨rfl, HF.out.2.2.1⟩ ⟨HF.out.1, HF.out.2.1⟩ ⟨⟨HOK.out.f.n, Nat.le_refl _, Nat.le_trans HOK.out.f.le HOK.out.f.c_⟩, ⟨by show l2.length ≤ _; rw [HF.out.2.2.2.2.2]; exact HOK.out.l.n, HF.out.2.2.2.1⟩⟩ ⟨HN.out.1, HN.out.2⟩ HF.out.2.2.2.2.1)
set_option maxRecDepth 100000 in
set_option maxHeartbeats 1600000 in
theorem copyM_any (m : Mg) (w : World) (hm : MgIn w w.heap.size m) (hok : MgOk m) (hs : MgSm m) :
    Calls Tryz.prog 64 #[m.val] w (CopyM m w) := by
  obtain ⟨V, hV, hvb, hvo, hvz⟩ := mg_box2 w m
  have hin := hm.keep hvb
  have hfn := hok.f.n
  have y1 := fun W (h : Bl V W) => Lib.hid (copyUps_any m.aA m.ac m.a W (hin.keep h).a hok.a hs.ca hs.na)
  have y2 := fun W (h : Bl V W) => Lib.hid (copyUps_any m.bA m.bc m.b W (hin.keep h).b hok.b hs.cb hs.nb)
  have y3 := fun W (h : Bl V W) => Lib.hid (listT_times m.sA m.sc m.f W (hin.keep h).f (by omega))
  have y4 := fun W (h : Bl V W) => Lib.hid (copyUps_any m.oA m.oc m.o W (hin.keep h).o hok.o hs.co hs.no)
  have hB := hvz.inside
  have HS := Lib.hid (fun W (h : Bm (w.heap.size + 1) V W) => own6 (hvo.past h (Nat.lt_succ_self _)))
  have HZ := Lib.hid (fun W (h : Bl V W) => hvz.past h hvz.inside)
  have HB := Lib.hid hvb
  have HOK := Lib.hid hok
  have hself := Bl.refl V
  obtain ⟨d0, d1, d2, d3, d4, d5⟩ := own6 hvo
  rw [show m.val = .agg #[.slice m.aA m.a.length m.ac, .slice m.bA m.b.length m.bc, .int .i64 m.i, .int .i64 m.j, .slice m.sA m.f.length m.sc, .slice m.oA m.o.length m.oc] from rfl]
  have hbs : w.heap.size + 1 ≤ V.heap.size := Nat.le_of_lt hB
  have HP := Lib.hid (show ∀ x w' (m' : Mg), x = .returned m'.val → MgSame m m' → MgIn w' w'.heap.size m' → MgOk m' → MgLo w.heap.size m' → Below w.heap.size w w' → MgApart w' w.heap.size m' → CopyM m w x w' from fun x w' m' h1 h2 h3 h4 h5 h6 h7 => ⟨m', h1, h2, h3, h4, h5, h6, h7⟩)
  clear hm hok hvb hvo hvz hin hs hfn
  go_enter Tryz.func64, Tryz.ntmps64
  go_upto_region 1 with fail
  rw [← hV]
  clear hV
  go_region_held3 (fun w' => Bm (w.heap.size + 1) V w' ∧ (w'.cell? ⟨w.heap.size, 0, none⟩ = some (.slice m.aA m.a.length m.ac) ∧ w'.cell? ⟨w.heap.size, 1, none⟩ = some (.slice m.bA m.b.length m.bc) ∧ w'.cell? ⟨w.heap.size, 2, none⟩ = some (.int .i64 m.i) ∧ w'.cell? ⟨w.heap.size, 3, none⟩ = some (.int .i64 m.j) ∧ w'.cell? ⟨w.heap.size, 4, none⟩ = some (.slice m.sA m.f.length m.sc) ∧ w'.cell? ⟨w.heap.size, 5, none⟩ = some (.slice m.oA m.o.length m.oc)))
    ((refine (fun h => And.intro h (HS.out _ h)) ?_; repeat (first | with_reducible exact Bm.of hb4 hbs | with_reducible exact Bm.of hb3 hbs | with_reducible exact Bm.of hb2 hbs | with_reducible exact Bm.of hb1 hbs | with_reducible exact Bm.of hself hbs | with_reducible refine Bm.set ?_ (Nat.le_refl _) _ _ | with_reducible refine Bm.more ?_ hbs _ | with_reducible refine Bm.drew ?_)))
    (first | (go_at_call 97; have hq := hb3; refine (y4 _ hb3).out.mono ?_; rintro _ w4 ⟨A4, l4, rfl, p4, v4, o4, n4, b4, r4⟩; have hb4 : Bl V w4 := Bl.call hb3 b4; have u3a := v1; have u3b := v2; have u3f := v3; have v1 := v1.keep b4; have v2 := v2.keep b4; have v3 := tms_keep v3 b4; obtain ⟨f0, f1, f2, f3, f4, f5⟩ := own_frozen6 (HZ.out _ hb4); obtain ⟨e0, e1, e2, e3, e4, e5⟩ := own6 (HZ.out _ hb4)) | (go_at_call 39; refine (y3 _ hb2).out.mono ?_; rintro _ w3 ⟨A3, rfl, v3, n3, b3⟩; have hb3 : Bl V w3 := Bl.call hb2 b3; have v1 := v1.keep b3; have v2 := v2.keep b3) | (go_at_call 97; have hq := hb1; refine (y2 _ hb1).out.mono ?_; rintro _ w2 ⟨A2, l2, rfl, p2, v2, o2, n2, b2, r2⟩; have hb2 : Bl V w2 := Bl.call hb1 b2; have v1 := v1.keep b2) | (go_at_call 97; refine (y1 _ hself.drew).out.mono ?_; rintro _ w1 ⟨A1, l1, rfl, p1, v1, o1, n1, b1, r1⟩; have hb1 : Bl V w1 := Bl.call hself.drew b1))
  obtain ⟨X, hX, hXo, hXb, hXs, hXh⟩ := own_six (HZ.out _ hb4) (.slice A1 l1.length l1.length) (.slice A2 l2.length l2.length) (.int .i64 m.i) (.int .i64 m.j) (.slice A3 m.f.length m.f.length) (.slice A4 l4.length l4.length)
  have hgx : w4.grownBy X (some (w.heap.size + 1)) := let h0 := hXb 0 w4 (Below.refl 0 w4) (Nat.zero_le _); ⟨h0.os, h0.tape, h0.output, by rw [hXs]; exact Nat.le_refl _, fun k _ hne => hXh k (by simpa using hne)⟩
  have s1 : V.heap.size ≤ w1.heap.size := hb1.below.size
  have s2 : V.heap.size ≤ w2.heap.size := hb2.below.size
  have s3 : V.heap.size ≤ w3.heap.size := hb3.below.size
  have n1' : V.drew.heap.size = V.heap.size := rfl
  have HF := Lib.hid (show MgIn X X.heap.size ⟨A1, l1.length, l1, A2, l2.length, l2, m.i, m.j, A3, m.f.length, m.f, A4, l4.length, l4⟩ from ⟨ups_other v1 (n1.mono (by omega)) hXs hXh, ups_other v2 (n2.mono (by omega)) hXs hXh, times_other v3 (fun b o e => by have h1 := (n3 b o e).1; omega) hXs hXh, ups_other v4 (n4.mono (by omega)) hXs hXh⟩)
  have HN := Lib.hid (show MgLo w.heap.size ⟨A1, l1.length, l1, A2, l2.length, l2, m.i, m.j, A3, m.f.length, m.f, A4, l4.length, l4⟩ from ⟨n1.mono (by omega), n2.mono (by omega), fun b o e => (by have h1 := (n3 b o e).1; omega), n4.mono (by omega)⟩)
  have HM := Lib.hid (show MgSame m ⟨A1, l1.length, l1, A2, l2.length, l2, m.i, m.j, A3, m.f.length, m.f, A4, l4.length, l4⟩ from ⟨p1, p2, rfl, rfl, rfl, p4⟩)
  have HK := Lib.hid (show MgOk ⟨A1, l1.length, l1, A2, l2.length, l2, m.i, m.j, A3, m.f.length, m.f, A4, l4.length, l4⟩ from ⟨⟨by show l1.length ≤ _; rw [len_p p1]; exact HOK.out.a.n, o1⟩, ⟨by show l2.length ≤ _; rw [len_p p2]; exact HOK.out.b.n, o2⟩, ⟨HOK.out.f.n, Nat.le_refl _, Nat.le_trans HOK.out.f.le HOK.out.f.c_⟩, ⟨by show l4.length ≤ _; rw [len_p p4]; exact HOK.out.o.n, o4⟩, HOK.out.i, HOK.out.j⟩)
  have HA := Lib.hid (apart_of (m := ⟨A1, l1.length, l1, A2, l2.length, l2, m.i, m.j, A3, m.f.length, m.f, A4, l4.length, l4⟩) (base := w.heap.size) r4 n4 v4 u3a u3b u3f b4.size hXs hgx (by omega) (by omega) rfl (by show l4.length ≤ _; rw [len_p p4]; have := HOK.out.o.n; unfold maxLen; omega) r1.1 r2.1 rfl rfl)
  have HX := Lib.hid (hXb w.heap.size w (HB.out.trans (hb4.below.mono HB.out.size)) (Nat.le_succ _))
  rw [← hX]
  obtain ⟨x0, x1, x2, x3, x4, x5⟩ := own6 hXo
  clear u3a u3b u3f r1 r2 r4 hgx hX hXo hXb hXs hXh f0 f1 f2 f3 f4 f5 e0 e1 e2 e3 e4 e5 d0 d1 d2 d3 d4 d5 v1 v2 v3 v4 n1 n2 n3 n4 o1 o2 o4 p1 p2 p4 s1 s2 s3 n1' y1 y2 y3 y4
  go_wp2_with fail
  exact bodyPost_ret (v := .agg #[.slice A1 l1.length l1.length, .slice A2 l2.length l2.length, .int .i64 m.i, .int .i64 m.j, .slice A3 m.f.length m.f.length, .slice A4 l4.length l4.length]) (by simp [results, Tryz.results64, go_sem, x0, x1, x2, x3, x4, x5]) rfl (HP.out _ _ _ rfl HM.out HF.out HK.out HN.out HX.out HA.out)
section
variable {P : Program} {ops : Array Oper} {md : Region.Mode} {C : World → Prop}
def wpAnyT (P : Program) (md : Region.Mode) (ops : Array Oper) (C : World → Prop) (n : Nat) (L : Array Bool → Act → Prop) : Nat → Array Bool → Act → Prop
  | 0, listed, a => L listed a
  | f + 1, listed, a =>
    Region.ready md ops listed ≠ [] ∧ ∀ i ∈ Region.ready md ops listed, i < n ∧ qOp P ops C i (wpAnyT P md ops C n L f (listed.setIfInBounds i true)) a
theorem wpAny_of_headT {n g : Nat} {L : Array Bool → Act → Prop} {Q' : Exit → Act → World → Prop} (hL : ∀ listed a w, C w → L listed a → wpAny P md ops Q' g listed a w) :
    ∀ (f : Nat) (listed : Array Bool) (a : Act) (w : World), C w → wpAnyT P md ops C n L f listed a → wpAny P md ops Q' (f + g) listed a w
  | 0, listed, a, w, hw, h => by rw [Nat.zero_add]; exact hL _ _ _ hw h
  | f + 1, listed, a, w, hw, h => by
    rw [show f + 1 + g = (f + g) + 1 by omega]
    exact ⟨fun h0 => absurd h0 h.1, fun i hi => wpOp_of_qOp hw (fun a' w' hw' h' => wpAny_of_headT hL f _ a' w' hw' h') (h.2 i hi).2⟩
theorem wpAnyT_first {n i : Nat} {oi : Oper} {v : Value} {L : Array Bool → Act → Prop} (hi : ops[i]? = some oi) (hsel : ∀ (j : Nat) (o : Oper) cs b, ops[j]? = some o → o.op ≠ .select cs b)
    (hs : Region.sinkB md ops n = true) (hc : Region.chainB md ops n = true) (hn : n < ops.size) (hin : i < n)
    (hdone : ∀ listed a, L listed a → ∀ j ∈ Region.ready md ops listed, n ≤ j) :
    ∀ (f : Nat) (listed : Array Bool) (a : Act), HeadInv md ops n listed →
      (∀ j oj, ops[j]? = some oj → j ≠ i → listed.getD j true = false → (∀ e ∈ oj.after, Region.binds md e = true → e.on ≠ i) → oi.apart ops oj = true) →
      i ∈ Region.ready md ops listed → YieldsIn P ops C oi v a →
      wpAnyT P md ops C n L f (listed.setIfInBounds i true) (a.put oi.dst v) → wpAnyT P md ops C n L (f + 1) listed a := by
  intro f
  induction f with
  | zero =>
    intro listed a inv _ hr hy H
    have hun := (mem_ready.1 hr).1
    refine ⟨fun h => (by rw [h] at hr; cases hr), fun j hj => ?_⟩
    have hjn : j < n := by
      rcases Nat.lt_or_ge j n with h | h
      · exact h
      · exact absurd hj (tail_waits hs hc hn inv _ i rfl hin hun j h)
    refine ⟨hjn, ?_⟩
    by_cases hji : j = i
    · subst hji; exact hy.qOp hi H
    · have := hdone _ _ H j (ready_mono hj hji)
      omega
  | succ f ih =>
    intro listed a inv hfree hr hy H
    have hun := (mem_ready.1 hr).1
    refine ⟨fun h => (by rw [h] at hr; cases hr), fun j hj => ?_⟩
    have hjn : j < n := by
      rcases Nat.lt_or_ge j n with h | h
      · exact h
      · exact absurd hj (tail_waits hs hc hn inv _ i rfl hin hun j h)
    refine ⟨hjn, ?_⟩
    by_cases hji : j = i
    · subst hji; exact hy.qOp hi H
    · have h1 := (H.2 j (ready_mono hj hji)).2
      obtain ⟨hjun, oj, hoj, hall⟩ := mem_ready.1 hj
      have hnot : ∀ e ∈ oj.after, Region.binds md e = true → e.on ≠ i := fun e he hb heq => by
        have h1 := hall e he hb
        rw [heq, getD_both hun] at h1
        cases h1
      have h2 := qOp_put hoj (hfree j oj hoj hji hjun hnot) (fun cs b => hsel i oi cs b hi) (fun cs b => hsel j oj cs b hoj) hy h1
      have hfree' : ∀ k ok, ops[k]? = some ok → k ≠ i → (listed.setIfInBounds j true).getD k true = false →
          (∀ e ∈ ok.after, Region.binds md e = true → e.on ≠ i) → oi.apart ops ok = true := fun k ok hk hki hun hno => by
        refine hfree k ok hk hki ?_ hno
        by_cases hjk : j = k
        · subst hjk; exact hjun
        · rw [getD_set_ne true hjk] at hun; exact hun
      refine qOp_mono (fun a' h3 => ih (listed.setIfInBounds j true) a' (inv.set hj hjn) hfree' (ready_mono hr (Ne.symm hji)) h3.1 ?_) h2
      rw [Array.setIfInBounds_comm _ _ hji]
      exact h3.2
theorem wpAnyT_lex {n g : Nat} {Lq : Act → Prop} (hsel : Region.noSelect ops = true) (hs : Region.sinkB md ops n = true) (hc : Region.chainB md ops n = true) (hn : n < ops.size) :
    ∀ (l : List Oper) (k : Nat) (listed : Array Bool) (a : Act), (∀ j, j < l.length → l[j]? = ops[k + j]?) → k + l.length = n → HeadInv md ops n listed →
    Region.lexHead md ops g l.length k listed = true → wpQuiet P ops C Lq l a →
    wpAnyT P md ops C n (fun listed' a' => Region.seqB md ops g n listed' = true ∧ Lq a') l.length listed a
  | [], k, listed, a, _, hk, _, hB, h => by
    have : k = n := by simpa using hk
    subst this
    exact ⟨by simpa [Region.lexHead] using hB, h⟩
  | o :: l, k, listed, a, hl, hk, inv, hB, h => by
    have h0 : ops[k]? = some o := by simpa using (hl 0 (by simp)).symm
    simp only [List.length_cons, Region.lexHead, Bool.and_eq_true] at hB
    obtain ⟨⟨hr, hf⟩, hB'⟩ := hB
    have hkn : k < n := by simp only [List.length_cons] at hk; omega
    have hr' : k ∈ Region.ready md ops listed := by simpa using hr
    have hst : qOp P ops C k (wpQuiet P ops C Lq l) a := by unfold qOp; simp only [h0]; exact h
    obtain ⟨v, hy, hK⟩ := yieldsIn_of_qOp h0 hst
    exact wpAnyT_first h0 (Region.noSelect_spec hsel) hs hc hn hkn (fun listed' a' hL => seqB_ready hL.1) l.length listed a inv (Region.free_spec h0 hf) hr' hy
      (wpAnyT_lex hsel hs hc hn l (k + 1) _ _ (fun j hj => by have := hl (j + 1) (by simp; omega); simpa [Nat.add_assoc, Nat.add_comm 1 j] using this) (by simp only [List.length_cons] at hk; omega) (inv.set hr' hkn) hB' hK)
theorem wp_region_quiet_tail {id : Nat} {Q : Exit → Act → World → Prop} {a : Act} {w : World} {l : List Oper} (n : Nat) (hm : P.follows .mixedOrders = true) (hB : Region.lexTailB .any l.toArray n = true) (hC : C { w with drawn := w.drawn + 1 })
    (h : wpQuiet P l.toArray C (fun a' => ∀ w', C w' → wpList P l.toArray Q (l.drop n) a' w') (l.take n) a) : (Code.region id l.toArray true).wp P Q a w := by
  simp only [Region.lexTailB, Bool.and_eq_true, decide_eq_true_eq] at hB
  obtain ⟨⟨⟨⟨hsel, hn⟩, hs⟩, hc⟩, hlex⟩ := hB
  have hn' : n < l.length := by simpa using hn
  have htl : (l.take n).length = n := by simp; omega
  have hdl : (l.drop n).length = l.toArray.size - n := by simp
  have inv0 : HeadInv .any l.toArray n (Array.replicate l.toArray.size false) :=
    ⟨by simp, fun j oj _ hl => (by rw [getD_replicate_false] at hl; cases hl), fun t _ ht => getD_in (by simpa using ht) (getD_replicate_false _ _)⟩
  have H := wpAnyT_lex (md := .any) (g := l.toArray.size - n) hsel hs hc hn (l.take n) 0 _ a (fun j hj => by
    have hj' : j < n := by rw [htl] at hj; exact hj
    simp [hj']) (by simpa using htl) inv0 (by rw [htl]; exact hlex) h
  refine wp_region_any hm ?_
  have := wpAny_of_headT (Q' := Q) (g := l.toArray.size - n) (C := C) (fun listed a' w' hw' hL => by
    have := wpAny_of_seq (Q' := Q) (l.drop n) n listed a' w' (fun j => by simp) (by rw [hdl]; exact hL.1) (hL.2 w' hw')
    rwa [hdl] at this) _ _ _ _ hC H
  rw [htl, show n + (l.toArray.size - n) = l.toArray.size by omega] at this
  exact this
end
theorem wp_region_past_tail {P : Program} {id : Nat} {Q : Exit → Act → World → Prop} {a : Act} {w : World} {l : List Oper} (V : World) (n : Nat) (hm : P.follows .mixedOrders = true) (hB : Region.lexTailB .any l.toArray n = true) (hV : Below V.heap.size V w)
    (h : wpQuiet P l.toArray (fun w' => ∃ p : Past V, w' = p.w) (fun a' => ∀ w', (∃ p : Past V, w' = p.w) → wpList P l.toArray Q (l.drop n) a' w') (l.take n) a) : (Code.region id l.toArray true).wp P Q a w :=
  wp_region_quiet_tail (C := fun w' => ∃ p : Past V, w' = p.w) n hm hB ⟨⟨_, hV.drew⟩, rfl⟩ h
def mcells (m : Mg) (i j : Nat) (v : Value) (k : Nat) : List Value := [.slice m.aA m.a.length m.ac, .slice m.bA m.b.length m.bc, .int .i64 (i : Int), .int .i64 (j : Int), .slice m.sA m.f.length m.sc, v, .int .i64 (k : Int)]
theorem own7 {w : World} {P : Nat} {t : TypeId} {a0 a1 a2 a3 a4 a5 a6 : Value} (h : Own w P t [a0, a1, a2, a3, a4, a5, a6]) :
    w.cell? ⟨P, 0, none⟩ = some a0 ∧ w.cell? ⟨P, 1, none⟩ = some a1 ∧ w.cell? ⟨P, 2, none⟩ = some a2 ∧ w.cell? ⟨P, 3, none⟩ = some a3 ∧ w.cell? ⟨P, 4, none⟩ = some a4 ∧ w.cell? ⟨P, 5, none⟩ = some a5 ∧ w.cell? ⟨P, 6, none⟩ = some a6 :=
  ⟨h.at_ 0, h.at_ 1, h.at_ 2, h.at_ 3, h.at_ 4, h.at_ 5, h.at_ 6⟩
set_option maxRecDepth 100000 in
set_option maxHeartbeats 3200000 in
theorem left_any (P : Nat) (m : Mg) (i j k : Nat) (v : Value) (w : World) (ho : Own w P 218 (mcells m i j v k)) (hi : i ≤ 1099511627776) (hj : j ≤ 1099511627776) (ha : m.a.length ≤ 1099511627776) (hb : m.b.length ≤ 1099511627776) :
    Calls Tryz.prog 154 #[.pointer (some ⟨P, 0, none⟩)] w fun x w' => x = .returned (.bool (decide (i < m.a.length ∨ j < m.b.length))) ∧ ∃ q, w' = w.drewN q := by
  obtain ⟨c0, c1, c2, c3, c4, c5, c6⟩ := own7 ho
  by_cases h1 : i < m.a.length
  · have t1 : decide ((i : Int) < (m.a.length : Int)) = true := decide_eq_true (by omega)
    have t1' : decide (i < m.a.length) = true := decide_eq_true h1
    have HD := Lib.hid (show decide (i < m.a.length ∨ j < m.b.length) = true from decide_eq_true (.inl h1))
    clear ho h1
    go_enter Tryz.func154, Tryz.ntmps154
    go_wp2_with fail
    go_quiet (fail)
    go_wp2_with fail
    go_ret
    exact ⟨by rw [HD.out]; rfl, _, rfl⟩
  · have t1 : decide ((i : Int) < (m.a.length : Int)) = false := decide_eq_false (by omega)
    have t1' : decide (i < m.a.length) = false := decide_eq_false h1
    by_cases h2 : j < m.b.length
    · have t2 : decide ((j : Int) < (m.b.length : Int)) = true := decide_eq_true (by omega)
      have t2' : decide (j < m.b.length) = true := decide_eq_true h2
      have HD := Lib.hid (show decide (i < m.a.length ∨ j < m.b.length) = true from decide_eq_true (.inr h2))
      clear ho h1 h2
      go_enter Tryz.func154, Tryz.ntmps154
      go_wp2_with fail
      go_quiet (fail)
      go_wp2_with fail
      go_ret
      exact ⟨by rw [HD.out]; rfl, _, rfl⟩
    · have t2 : decide ((j : Int) < (m.b.length : Int)) = false := decide_eq_false (by omega)
      have t2' : decide (j < m.b.length) = false := decide_eq_false h2
      have HD := Lib.hid (show decide (i < m.a.length ∨ j < m.b.length) = false from decide_eq_false (by omega))
      clear ho h1 h2
      go_enter Tryz.func154, Tryz.ntmps154
      go_wp2_with fail
      go_quiet (fail)
      go_wp2_with fail
      go_ret
      exact ⟨by rw [HD.out]; rfl, _, rfl⟩
theorem drop_cons {α : Type} {l : List α} {i : Nat} {x : α} (h : l[i]? = some x) : ∃ t, l.drop i = x :: t := by
  obtain ⟨hi, rfl⟩ := List.getElem?_eq_some_iff.1 h
  exact ⟨_, List.drop_eq_getElem_cons hi⟩
theorem next_a {a b : List Up} {i j : Nat} {x : Up} (hx : a[i]? = some x) (hj : j = b.length) : nextM (a.drop i) (b.drop j) = some x := by
  obtain ⟨t, e⟩ := drop_cons hx
  rw [e, hj, List.drop_length]; rfl
theorem next_b {a b : List Up} {i j : Nat} {y : Up} (hy : b[j]? = some y) (hi : a.length ≤ i) : nextM (a.drop i) (b.drop j) = some y := by
  obtain ⟨t, e⟩ := drop_cons hy
  rw [e, List.drop_eq_nil_of_le hi]; rfl
theorem next_ab {a b : List Up} {i j : Nat} {x y : Up} (hx : a[i]? = some x) (hy : b[j]? = some y) : nextM (a.drop i) (b.drop j) = if plc x y ≤ 0 then some x else some y := by
  obtain ⟨t, e⟩ := drop_cons hx
  obtain ⟨t', e'⟩ := drop_cons hy
  rw [e, e']; rfl
def Nexts (m : Mg) (i j : Nat) (w : World) (x : Ending) (w' : World) : Prop := ∃ u : Up, nextM (m.a.drop i) (m.b.drop j) = some u ∧ (u ∈ m.a ∨ u ∈ m.b) ∧ x = .returned (.agg #[.slice u.kA u.key.length u.kc, .slice u.rA u.row.length u.rc, .int .u64 (u.t.e : Int), .int .u64 (u.t.a : Int), .int .u64 (u.t.b : Int), .int .i64 u.d]) ∧ Below w.heap.size w w'
theorem zbox (w : World) : ∃ V, V = w.alloc (.cells #[.slice none 0 0, .slice none 0 0, .int .u64 0, .int .u64 0, .int .u64 0, .int .i64 0] 49) ∧ Below w.heap.size w V ∧ V.heap.size = w.heap.size + 1 ∧ Own V w.heap.size 49 [.slice none 0 0, .slice none 0 0, .int .u64 0, .int .u64 0, .int .u64 0, .int .i64 0] :=
  ⟨_, rfl, (Below.refl _ _).alloc (Nat.le_refl _) _, by simp, Own.made w 49 [.slice none 0 0, .slice none 0 0, .int .u64 0, .int .u64 0, .int .u64 0, .int .i64 0]⟩
set_option maxRecDepth 100000 in
set_option maxHeartbeats 12800000 in
theorem next_any (P : Nat) (m : Mg) (i j k : Nat) (v : Value) (w : World) (ho : Own w P 218 (mcells m i j v k)) (ha : Ups w w.heap.size m.aA m.a) (oa : UsOk m.a) (hb : Ups w w.heap.size m.bA m.b) (ob : UsOk m.b) (hi : i ≤ m.a.length) (hj : j ≤ m.b.length) (hl : i < m.a.length ∨ j < m.b.length) :
    Calls Tryz.prog 190 #[.pointer (some ⟨P, 0, none⟩)] w (Nexts m i j w) := by
  obtain ⟨V, hV, hvb, hvs, hvz⟩ := zbox w
  have hC := fun p : Past V => own7 ((ho.past hvb ho.inside).past p.h (by have := ho.inside; omega))
  have hZ := Lib.hid (fun (W : World) (h : Below V.heap.size V W) => hvz.past h hvz.inside)
  have hia := (ha.past hvb (Nat.le_refl _)).wide hvb.size
  have hib := (hb.past hvb (Nat.le_refl _)).wide hvb.size
  have HB := Lib.hid (And.intro hvb hvs)
  have na := oa.n
  have nb := ob.n
  by_cases hjb : j = m.b.length
  · have h1 : i < m.a.length := by omega
    have t1 : ((j : Int) == (m.b.length : Int)) = true := by simp [hjb]
    have hxx : m.a[i]? = some m.a[i] := List.getElem?_eq_getElem h1
    have hxm := List.mem_of_getElem? hxx
    generalize m.a[i] = x at *
    have hxo := oa.ok x hxm
    have hxn := hia.each_ x hxm
    obtain ⟨b1, o1, hxA, hxB, hxs⟩ := lies_up hia.head (by omega)
    have hxX := fun p : Past V => ((hxs i x hxx).past_ p.h hxB).six
    have hxi := fun p : Past V => (hxn.past p.h (Nat.le_refl _)).wide p.h.size
    have hxq0 : (0 : Int) ≤ (i : Int) := by omega
    have hxq1 : (i : Int) < (m.a.length : Int) := by omega
    rw [hxA] at hC
    have HD := Lib.hid (And.intro (next_a hxx hjb) (show x ∈ m.a ∨ x ∈ m.b from .inl hxm))
    clear ho ha oa hb ob hi hj hl hvb hvs hvz hia hib na nb hjb h1 hxx hxm hxo hxn hxA hxs hxB hxi
    go_enter Tryz.func190, Tryz.ntmps190
    go_upto_region 1 with fail
    rw [← hV]
    clear hV
    refine wp_region_past V (by kernel_rfl) (by kernel_rfl) (Below.refl _ _) ?_
    repeat (first | go_big_quiet_step (fail) | quiet_step (fail))
    refine wpQuiet_nil ?_
    intro wz hw'
    obtain ⟨⟨wy, hbz⟩, hw''⟩ := hw'
    dsimp only at hw''
    subst hw''
    have HZ := Lib.hid hbz
    go_upto_region 2 with fail
    refine wp_region_past_tail V 12 (by kernel_rfl) (by kernel_rfl) hbz ?_
    clear hbz
    repeat (first | go_big_quiet_step (fail) | quiet_step (fail))
    refine wpQuiet_nil ?_
    intro wt hw'
    obtain ⟨⟨wu, hbt⟩, hw''⟩ := hw'
    dsimp only at hw''
    subst hw''
    have hz := hZ.out wt hbt
    obtain ⟨f0, f1, f2, f3, f4, f5⟩ := own_frozen6 hz
    obtain ⟨z0, z1, z2, z3, z4, z5⟩ := own6 hz
    obtain ⟨X, hX', hXo, hXb, hXs, hXh⟩ := own_six hz (.slice x.kA x.key.length x.kc) (.slice x.rA x.row.length x.rc) (.int .u64 (x.t.e : Int)) (.int .u64 (x.t.a : Int)) (.int .u64 (x.t.b : Int)) (.int .i64 x.d)
    have HX := Lib.hid (And.intro (hXb w.heap.size w (HB.out.1.trans (hbt.mono HB.out.1.size)) (Nat.le_refl _)) hXo)
    have HR := Lib.hid hX'
    clear hz hXo hXb hXs hXh hX' hC hxX hbt
    go_wp2_with fail
    rw [← HR.out]
    obtain ⟨x0, x1, x2, x3, x4, x5⟩ := own6 HX.out.2
    exact bodyPost_ret (v := .agg #[.slice x.kA x.key.length x.kc, .slice x.rA x.row.length x.rc, .int .u64 (x.t.e : Int), .int .u64 (x.t.a : Int), .int .u64 (x.t.b : Int), .int .i64 x.d]) (by simp [results, Tryz.results190, go_sem, x0, x1, x2, x3, x4, x5]) rfl ⟨x, HD.out.1, HD.out.2, rfl, HX.out.1⟩
  · have h2 : j < m.b.length := by omega
    have t1 : ((j : Int) == (m.b.length : Int)) = false := by simp; omega
    have hyx : m.b[j]? = some m.b[j] := List.getElem?_eq_getElem h2
    have hym := List.mem_of_getElem? hyx
    generalize m.b[j] = y at *
    have hyo := ob.ok y hym
    have hyn := hib.each_ y hym
    obtain ⟨b2, o2, hyA, hyB, hys⟩ := lies_up hib.head (by omega)
    have hyX := fun p : Past V => ((hys j y hyx).past_ p.h hyB).six
    have hyi := fun p : Past V => (hyn.past p.h (Nat.le_refl _)).wide p.h.size
    have hyq0 : (0 : Int) ≤ (j : Int) := by omega
    have hyq1 : (j : Int) < (m.b.length : Int) := by omega
    rw [hyA] at hC
    by_cases h1 : i < m.a.length
    case neg =>
      have t2 : decide ((i : Int) < (m.a.length : Int)) = false := decide_eq_false (by omega)
      have t2' : decide (i < m.a.length) = false := decide_eq_false h1
      have HD := Lib.hid (And.intro (next_b (a := m.a) (i := i) hyx (by omega)) (show y ∈ m.a ∨ y ∈ m.b from .inr hym))
      clear ho ha oa hb ob hi hj hl hvb hvs hvz hia hib na nb hjb h1 h2 hyx hym hyo hyn hyA hys hyB hyi
      go_enter Tryz.func190, Tryz.ntmps190
      go_upto_region 1 with fail
      rw [← hV]
      clear hV
      refine wp_region_past V (by kernel_rfl) (by kernel_rfl) (Below.refl _ _) ?_
      repeat (first | go_big_quiet_step (fail) | quiet_step (fail))
      refine wpQuiet_nil ?_
      intro wz hw'
      obtain ⟨⟨wy, hbz⟩, hw''⟩ := hw'
      dsimp only at hw''
      subst hw''
      have HZ := Lib.hid hbz
      go_upto_region 3 with fail
      refine wp_region_past_tail V 12 (by kernel_rfl) (by kernel_rfl) hbz ?_
      clear hbz
      repeat (first | go_big_quiet_step (fail) | quiet_step (fail))
      refine wpQuiet_nil ?_
      intro wt hw'
      obtain ⟨⟨wu, hbt⟩, hw''⟩ := hw'
      dsimp only at hw''
      subst hw''
      have hz := hZ.out wt hbt
      obtain ⟨f0, f1, f2, f3, f4, f5⟩ := own_frozen6 hz
      obtain ⟨z0, z1, z2, z3, z4, z5⟩ := own6 hz
      obtain ⟨X, hX', hXo, hXb, hXs, hXh⟩ := own_six hz (.slice y.kA y.key.length y.kc) (.slice y.rA y.row.length y.rc) (.int .u64 (y.t.e : Int)) (.int .u64 (y.t.a : Int)) (.int .u64 (y.t.b : Int)) (.int .i64 y.d)
      have HX := Lib.hid (And.intro (hXb w.heap.size w (HB.out.1.trans (hbt.mono HB.out.1.size)) (Nat.le_refl _)) hXo)
      have HR := Lib.hid hX'
      clear hz hXo hXb hXs hXh hX' hC hyX hbt
      go_wp2_with fail
      rw [← HR.out]
      obtain ⟨x0, x1, x2, x3, x4, x5⟩ := own6 HX.out.2
      exact bodyPost_ret (v := .agg #[.slice y.kA y.key.length y.kc, .slice y.rA y.row.length y.rc, .int .u64 (y.t.e : Int), .int .u64 (y.t.a : Int), .int .u64 (y.t.b : Int), .int .i64 y.d]) (by simp [results, Tryz.results190, go_sem, x0, x1, x2, x3, x4, x5]) rfl ⟨y, HD.out.1, HD.out.2, rfl, HX.out.1⟩
    have t2 : decide ((i : Int) < (m.a.length : Int)) = true := decide_eq_true (by omega)
    have t2' : decide (i < m.a.length) = true := decide_eq_true h1
    have hxx : m.a[i]? = some m.a[i] := List.getElem?_eq_getElem h1
    have hxm := List.mem_of_getElem? hxx
    generalize m.a[i] = x at *
    have hxo := oa.ok x hxm
    have hxn := hia.each_ x hxm
    obtain ⟨b1, o1, hxA, hxB, hxs⟩ := lies_up hia.head (by omega)
    have hxX := fun p : Past V => ((hxs i x hxx).past_ p.h hxB).six
    have hxi := fun p : Past V => (hxn.past p.h (Nat.le_refl _)).wide p.h.size
    have hxq0 : (0 : Int) ≤ (i : Int) := by omega
    have hxq1 : (i : Int) < (m.a.length : Int) := by omega
    rw [hxA] at hC
    have u1 := fun p : Past V => calls_past (place_any x y p.w (hxi p) (hyi p) hxo hyo)
    by_cases hp : plc x y ≤ 0
    · have HD := Lib.hid (And.intro ((next_ab hxx hyx).trans (if_pos hp)) (show x ∈ m.a ∨ x ∈ m.b from .inl hxm))
      have t3 : decide (plc x y ≤ 0) = true := decide_eq_true hp
      generalize plc x y = pxy at *
      clear ho ha oa hb ob hi hj hl hvb hvs hvz hia hib na nb hjb h1 h2 hp hxx hyx hxm hxo hxn hxA hxs hxB hxi hym hyo hyn hyA hys hyB hyi
      go_enter Tryz.func190, Tryz.ntmps190
      go_upto_region 1 with fail
      rw [← hV]
      clear hV
      refine wp_region_past V (by kernel_rfl) (by kernel_rfl) (Below.refl _ _) ?_
      repeat (first | go_big_quiet_step (fail) | quiet_step (fail))
      quiet_step ((go_at_call 192; exact u1 _))
      repeat (first | go_big_quiet_step (fail) | quiet_step (fail))
      clear u1
      refine wpQuiet_nil ?_
      intro wz hw'
      obtain ⟨⟨wy, hbz⟩, hw''⟩ := hw'
      dsimp only at hw''
      subst hw''
      have HZ := Lib.hid hbz
      go_upto_region 2 with fail
      refine wp_region_past_tail V 12 (by kernel_rfl) (by kernel_rfl) hbz ?_
      clear hbz
      repeat (first | go_big_quiet_step (fail) | quiet_step (fail))
      refine wpQuiet_nil ?_
      intro wt hw'
      obtain ⟨⟨wu, hbt⟩, hw''⟩ := hw'
      dsimp only at hw''
      subst hw''
      have hz := hZ.out wt hbt
      obtain ⟨f0, f1, f2, f3, f4, f5⟩ := own_frozen6 hz
      obtain ⟨z0, z1, z2, z3, z4, z5⟩ := own6 hz
      obtain ⟨X, hX', hXo, hXb, hXs, hXh⟩ := own_six hz (.slice x.kA x.key.length x.kc) (.slice x.rA x.row.length x.rc) (.int .u64 (x.t.e : Int)) (.int .u64 (x.t.a : Int)) (.int .u64 (x.t.b : Int)) (.int .i64 x.d)
      have HX := Lib.hid (And.intro (hXb w.heap.size w (HB.out.1.trans (hbt.mono HB.out.1.size)) (Nat.le_refl _)) hXo)
      have HR := Lib.hid hX'
      clear hz hXo hXb hXs hXh hX' hC hxX hbt
      go_wp2_with fail
      rw [← HR.out]
      obtain ⟨x0, x1, x2, x3, x4, x5⟩ := own6 HX.out.2
      exact bodyPost_ret (v := .agg #[.slice x.kA x.key.length x.kc, .slice x.rA x.row.length x.rc, .int .u64 (x.t.e : Int), .int .u64 (x.t.a : Int), .int .u64 (x.t.b : Int), .int .i64 x.d]) (by simp [results, Tryz.results190, go_sem, x0, x1, x2, x3, x4, x5]) rfl ⟨x, HD.out.1, HD.out.2, rfl, HX.out.1⟩
    · have HD := Lib.hid (And.intro ((next_ab hxx hyx).trans (if_neg hp)) (show y ∈ m.a ∨ y ∈ m.b from .inr hym))
      have t3 : decide (plc x y ≤ 0) = false := decide_eq_false hp
      generalize plc x y = pxy at *
      clear ho ha oa hb ob hi hj hl hvb hvs hvz hia hib na nb hjb h1 h2 hp hxx hyx hxm hxo hxn hxA hxs hxB hxi hym hyo hyn hyA hys hyB hyi
      go_enter Tryz.func190, Tryz.ntmps190
      go_upto_region 1 with fail
      rw [← hV]
      clear hV
      refine wp_region_past V (by kernel_rfl) (by kernel_rfl) (Below.refl _ _) ?_
      repeat (first | go_big_quiet_step (fail) | quiet_step (fail))
      quiet_step ((go_at_call 192; exact u1 _))
      repeat (first | go_big_quiet_step (fail) | quiet_step (fail))
      clear u1
      refine wpQuiet_nil ?_
      intro wz hw'
      obtain ⟨⟨wy, hbz⟩, hw''⟩ := hw'
      dsimp only at hw''
      subst hw''
      have HZ := Lib.hid hbz
      go_upto_region 3 with fail
      refine wp_region_past_tail V 12 (by kernel_rfl) (by kernel_rfl) hbz ?_
      clear hbz
      repeat (first | go_big_quiet_step (fail) | quiet_step (fail))
      refine wpQuiet_nil ?_
      intro wt hw'
      obtain ⟨⟨wu, hbt⟩, hw''⟩ := hw'
      dsimp only at hw''
      subst hw''
      have hz := hZ.out wt hbt
      obtain ⟨f0, f1, f2, f3, f4, f5⟩ := own_frozen6 hz
      obtain ⟨z0, z1, z2, z3, z4, z5⟩ := own6 hz
      obtain ⟨X, hX', hXo, hXb, hXs, hXh⟩ := own_six hz (.slice y.kA y.key.length y.kc) (.slice y.rA y.row.length y.rc) (.int .u64 (y.t.e : Int)) (.int .u64 (y.t.a : Int)) (.int .u64 (y.t.b : Int)) (.int .i64 y.d)
      have HX := Lib.hid (And.intro (hXb w.heap.size w (HB.out.1.trans (hbt.mono HB.out.1.size)) (Nat.le_refl _)) hXo)
      have HR := Lib.hid hX'
      clear hz hXo hXb hXs hXh hX' hC hyX hbt
      go_wp2_with fail
      rw [← HR.out]
      obtain ⟨x0, x1, x2, x3, x4, x5⟩ := own6 HX.out.2
      exact bodyPost_ret (v := .agg #[.slice y.kA y.key.length y.kc, .slice y.rA y.row.length y.rc, .int .u64 (y.t.e : Int), .int .u64 (y.t.a : Int), .int .u64 (y.t.b : Int), .int .i64 y.d]) (by simp [results, Tryz.results190, go_sem, x0, x1, x2, x3, x4, x5]) rfl ⟨y, HD.out.1, HD.out.2, rfl, HX.out.1⟩
def Asks (F : Nat) (cap : Value) (p : Up → Bool) (l : List Up) (w : World) : Prop :=
  ∀ (u : Up) (W : World), u ∈ l → Below w.heap.size w W → Calls Tryz.prog F #[.agg #[.slice u.kA u.key.length u.kc, .slice u.rA u.row.length u.rc, .int .u64 (u.t.e : Int), .int .u64 (u.t.a : Int), .int .u64 (u.t.b : Int), .int .i64 u.d], cap] W fun e w' => e = .returned (.bool (p u)) ∧ Below W.heap.size W w'
theorem tw_more {α : Type} {p : α → Bool} {l : List α} {n : Nat} (hn : n ≤ l.length) (h : ∀ x ∈ l.take n, p x = true) (hx : ∀ x, l[n]? = some x → p x = false) : (l.takeWhile p).length = n := by
  induction l generalizing n with
  | nil => simp at hn; simp [hn]
  | cons y l ih =>
    cases n with
    | zero =>
      have := hx y rfl
      rw [List.takeWhile_cons_of_neg (by simp [this])]
      rfl
    | succ n =>
      have h1 := h y (by simp)
      rw [List.takeWhile_cons_of_pos h1, List.length_cons, ih (by simpa using hn) (fun x hx' => h x (by simp [hx'])) (fun x hx' => hx x (by simpa using hx'))]
def subA (b o i n : Nat) : Option Addr := some (if n = 0 then ⟨b, o, none⟩ else ⟨b, o + i * 6, none⟩)
def partV (A : Option Addr) (i n : Nat) : Value := match A with
  | some ⟨b, o, none⟩ => .slice (subA b o i n) n n
  | _ => .slice none 0 0
theorem ret_part {b o i n m c : Nat} {A : Option Addr} (hm : m = n) (hc : c = n) (hA : A = subA b o i n) : Ending.returned (.slice A m c) = .returned (partV (some ⟨b, o, none⟩) i n) := by subst hm; subst hc; subst hA; rfl
set_option maxRecDepth 100000 in
set_option maxHeartbeats 6400000 in
theorem grpS_any (cap : Value) (p : Up → Bool) (b o c : Nat) (l : List Up) (i : Nat) (w : World) (hl : Ups w w.heap.size (some ⟨b, o, none⟩) l) (hc : l.length ≤ c) (hcm : c ≤ 4611686018427387904) (hi : i ≤ l.length) (hp : Asks 191 cap p l w) :
    Calls Tryz.prog 193 #[.slice (some ⟨b, o, none⟩) l.length c, .int .i64 (i : Int), .func (.func 191) #[] #[cap]] w fun x w' => x = .returned (partV (some ⟨b, o, none⟩) i ((l.drop i).takeWhile p).length) ∧ Below w.heap.size w w' := by
  have HL := Lib.hid (And.intro hl hp)
  clear hl hp
  go_enter Tryz.func193, Tryz.ntmps193
  go_wp2_with fail
  go_loopw [7] (fun v7 wr => ∃ n : Nat, v7 = .int .i64 ((i + n : Nat) : Int) ∧ i + n ≤ l.length ∧ Below w.heap.size w wr ∧ ∀ x ∈ (l.drop i).take n, p x = true) (fun v7 _ => l.length - (intOf v7).toNat)
  case atStart => exact ⟨0, rfl, by omega, Below.refl _ _, fun x hx => by simp at hx⟩
  case round =>
    obtain ⟨n, rfl, hn, hb, hall⟩ := hrel
    obtain ⟨j, hj⟩ : ∃ j, j = i + n := ⟨_, rfl⟩
    rw [← hj] at hn ⊢
    have hij : i ≤ j := by omega
    by_cases hlt : j < l.length
    · have hx : l[j]? = some l[j] := List.getElem?_eq_getElem hlt
      have hxm := List.mem_of_getElem? hx
      generalize l[j] = u at *
      obtain ⟨b', o', hA, hB, hys⟩ := lies_up HL.out.1.head (by omega)
      simp only [Option.some.injEq, Addr.mk.injEq, and_true] at hA
      obtain ⟨rfl, rfl⟩ := hA
      obtain ⟨e0, e1, e2, e3, e4, e5⟩ := ((hys j u hx).past_ hb hB).six
      have y1 := Lib.hid (HL.out.2 u wr hxm hb)
      have q0 : (0 : Int) ≤ (j : Int) := by omega
      have q1 : (j : Int) < (l.length : Int) := by omega
      have q2 : decide ((j : Int) < (l.length : Int)) = true := decide_eq_true q1
      have q2' : decide (j < l.length) = true := decide_eq_true hlt
      obtain ⟨B, hpu⟩ : ∃ B, p u = B := ⟨_, rfl⟩
      rw [hpu] at y1
      have HH := Lib.hid (And.intro hb (And.intro hall (And.intro hx (And.intro hpu hj))))
      clear hb hall hx hxm hys hpu hj
      cases B with
      | true =>
        go_wp2_with fail
        refine y1.out.mono ?_
        rintro _ w2 ⟨rfl, b2⟩
        have H2 := Lib.hid (HH.out.1.trans (b2.mono HH.out.1.size))
        clear b2 e0 e1 e2 e3 e4 e5
        go_wp2_with fail
        go_roundw
        case rel =>
          refine ⟨n + 1, by rw [HH.out.2.2.2.2]; go_num, by have := HH.out.2.2.2.2; omega, H2.out, fun x hx => ?_⟩
          have h3 : (l.drop i)[n]? = some u := by rw [List.getElem?_drop, ← HH.out.2.2.2.2]; exact HH.out.2.2.1
          rw [List.take_add_one, h3] at hx
          rcases List.mem_append.1 hx with hx | hx
          · exact HH.out.2.1 x hx
          · obtain rfl : x = u := by simpa using hx
            exact HH.out.2.2.2.1
        case measure => simp [intOf]; omega
      | false =>
        have HW := Lib.hid (show ((l.drop i).takeWhile p).length = n from tw_more (by rw [List.length_drop]; have := HH.out.2.2.2.2; omega) HH.out.2.1 fun x hx => by
          rw [List.getElem?_drop, ← HH.out.2.2.2.2, HH.out.2.2.1] at hx
          cases hx
          exact HH.out.2.2.2.1)
        go_wp2_with fail
        refine y1.out.mono ?_
        rintro _ w2 ⟨rfl, b2⟩
        have H2 := Lib.hid (HH.out.1.trans (b2.mono HH.out.1.size))
        have HJ := Lib.hid HH.out.2.2.2.2
        clear b2 e0 e1 e2 e3 e4 e5
        have r0 : (0 : Int) ≤ (i : Int) := by omega
        have r1 : (i : Int) ≤ (j : Int) := by omega
        have r2 : (j : Int) ≤ (c : Int) := by omega
        go_wp2_with fail
        · go_ret
          have hn0 : n = 0 := by have := HJ.out; omega
          exact ⟨by rw [HW.out, hn0]; rfl, H2.out⟩
        · go_ret
          have hj2 := HJ.out
          exact ⟨by rw [HW.out]; exact ret_part (by omega) (by omega) (by unfold subA; rw [if_neg (by omega)]), H2.out⟩
    · have hjl : j = l.length := by omega
      have q2 : decide ((j : Int) < (l.length : Int)) = false := decide_eq_false (by omega)
      have q2' : decide (j < l.length) = false := decide_eq_false hlt
      have HW := Lib.hid (show ((l.drop i).takeWhile p).length = n from tw_more (by rw [List.length_drop]; omega) hall fun x hx => by
        rw [List.getElem?_drop, ← hj, List.getElem?_eq_none (by omega)] at hx
        cases hx)
      have H2 := Lib.hid hb
      have HJ := Lib.hid hj
      clear hb hall hj
      have r0 : (0 : Int) ≤ (i : Int) := by omega
      have r1 : (i : Int) ≤ (j : Int) := by omega
      have r2 : (j : Int) ≤ (c : Int) := by omega
      go_wp2_with fail
      · go_ret
        have hn0 : n = 0 := by have := HJ.out; omega
        exact ⟨by rw [HW.out, hn0]; rfl, H2.out⟩
      · go_ret
        have hj2 := HJ.out
        exact ⟨by rw [HW.out]; exact ret_part (by omega) (by omega) (by unfold subA; rw [if_neg (by omega)]), H2.out⟩
section
variable {α : Type} {size : Nat} {cells : α → List Value}
theorem wpList_append_liesG {P : Program} (w : World) {ops : Array Oper} {rest : List Oper} {o : Oper} {a : Act} {Q : Exit → Act → World → Prop} {B : Nat} {A : Option Addr} {l : List α} (hgd : o.guard = none) (s x : Operand) (t e : TypeId)
    (ho : o.op = .call { callee := .builtin .append, args := #[s, x], argTypes := #[t, t] })
    (i0 : TypeInfo) (z : Value) (bytes : Nat) (ht : P.underlying t = some (.slice e)) (hi : P.info? e = some i0) (hz0 : i0.zero = some z) (hz1 : i0.size = size) (hz2 : i0.bytes = bytes) (hzs : z.cells.size = size) (hpos : 0 < size) (hcl : ∀ x, (cells x).length = size) (hone : ∀ x, ∀ u ∈ cells x, u.oneCell' = true)
    (base : Nat) (v : Value) (n : Nat) (xs : List Value) (hs : a.eval s = v) (hown : w.ownsRow base e size v n xs)
    (c : Nat) (hx : a.eval x = .slice A l.length c) (hl : Lies size cells w B A l) (h63 : n + l.length ≤ maxLen) (hn : (n + l.length) * bytes ≤ 140737488355328) (hbase : base ≤ w.heap.size)
    (h : ∀ v' w', w'.ownsRow base e size v' (n + l.length) (xs ++ l.flatMap cells) → w.grownBy w' v.ownBlock → (v'.ownBlock = v.ownBlock ∨ v'.ownBlock = some w.heap.size) → wpList P ops Q rest (a.put o.dst v') w') :
    wpList P ops Q (o :: rest) a w := by
  refine wpList_plain hgd fun K hK => ?_
  obtain ⟨v', w', hrun, ho', hg, hb⟩ : ∃ v' w', (Builtin.append_ #[t, t] o.type #[v, .slice A l.length c]).run P w = .ok v' w' ∧ w'.ownsRow base e size v' (n + l.length) (xs ++ l.flatMap cells) ∧ w.grownBy w' v.ownBlock ∧ (v'.ownBlock = v.ownBlock ∨ v'.ownBlock = some w.heap.size) := by
    cases A with
    | none =>
      have h0 : l = [] := by
        cases l with
        | nil => rfl
        | cons x l => obtain ⟨_, _, e, _⟩ := hl (by simp); cases e
      subst h0
      exact ⟨v, w, run_append_none w base _ _ _ i0 size ht hi v n xs hown c, by simpa using hown, ⟨rfl, rfl, rfl, Nat.le_refl _, fun _ _ _ => rfl⟩, .inl rfl⟩
    | some ad =>
      have hnews : ∀ j u, (l.flatMap cells)[j]? = some u → w.cell? (ad.add j) = some u := by
        intro j u hu
        obtain ⟨i, r, y, rfl, hi, hr⟩ := flat_back hpos hcl l j u hu
        have hp : 0 < l.length := by have := (List.getElem?_eq_some_iff.1 hi).1; omega
        obtain ⟨b, o, e, _, hc⟩ := hl hp
        obtain rfl : ad = ⟨b, o, none⟩ := by injection e
        have ea : (⟨b, o, none⟩ : Addr).add (i * size + r) = ⟨b, o + i * size + r, none⟩ := by unfold Addr.add; split <;> simp_all <;> omega
        rw [ea]
        exact hc i y hi r u hr
      obtain ⟨v', w', hr, h2, h3, _, h5⟩ := run_append_own_at (P := P) w base t o.type e i0 _ size bytes ht hi hz0 hz1 hz2 hzs hpos v n xs hown ad l.length c (l.flatMap cells) (flat_size hcl l) hnews
        (fun u hu => by obtain ⟨y, _, hy⟩ := List.mem_flatMap.1 hu; exact hone y u hy) h63 hn hbase
      exact ⟨v', w', hr, h2, h3, h5⟩
  unfold Oper.wp execOp
  simp only [ho, resolve, invoke, builtin, Sem.run_bind, Sem.run_pure, Result.andThen_ok, List.map_toArray, List.map_cons, List.map_nil, hs, hx, hrun]
  exact hK _ _ (h v' w' ho' hg hb)
theorem run_append_both {P : Program} (w : World) (t ty e : TypeId) (i0 : TypeInfo) (z : Value) (bytes : Nat) (ht : P.underlying t = some (.slice e)) (hi : P.info? e = some i0) (hz0 : i0.zero = some z) (hz1 : i0.size = size) (hz2 : i0.bytes = bytes) (hzs : z.cells.size = size) (hpos : 0 < size) (hcl : ∀ x, (cells x).length = size) (hone : ∀ x, ∀ u ∈ cells x, u.oneCell' = true)
    {A A' : Option Addr} {l l' : List α} (hl : Lies size cells w w.heap.size A l) (hl' : Lies size cells w w.heap.size A' l') (hA : l = [] → A = none ∨ ∃ b o, A = some ⟨b, o, none⟩) (hA' : l' = [] → A' = none ∨ ∃ b o, A' = some ⟨b, o, none⟩) (h63 : l.length + l'.length ≤ maxLen) (hn : (l.length + l'.length) * bytes ≤ 140737488355328) :
    ∃ A2 c w', (Builtin.append_ #[t, t] ty #[.slice A l.length l.length, .slice A' l'.length l'.length]).run P w = .ok (.slice A2 (l.length + l'.length) c) w' ∧ Lies size cells w' w'.heap.size A2 (l ++ l') ∧ Below w.heap.size w w' := by
  by_cases h0 : l' = []
  · subst h0
    refine ⟨A, l.length, w, ?_, by simpa using hl, Below.refl _ _⟩
    have hst : ∀ b o, (storeCells (⟨b, o, none⟩ : Addr) [] 0).run P w = .ok () w := fun _ _ => rfl
    rcases hA' rfl with rfl | ⟨b', o', rfl⟩
    · cases A with
      | none => simp [Builtin.append_, run_underlying ht, typeInfo, hi, sizeOf, Builtin.firstCells, Builtin.lenOf]
      | some ad => simp [Builtin.append_, run_underlying ht, typeInfo, hi, sizeOf, Builtin.firstCells, Builtin.lenOf, storeCells]
    · cases A with
      | none => simp [Builtin.append_, run_underlying ht, typeInfo, hi, sizeOf, Builtin.firstCells, Builtin.lenOf, loadCells, loadCellsFrom]
      | some ad => simp [Builtin.append_, run_underlying ht, typeInfo, hi, sizeOf, Builtin.firstCells, Builtin.lenOf, storeCells, loadCells, loadCellsFrom]
  · have hp' : 0 < l'.length := List.length_pos_iff.2 h0
    obtain ⟨b', o', rfl, _, _⟩ := hl' hp'
    have hsrc := lies_cells hpos hcl hl'
    have fin : ∀ (v' : Value) (w' : World), w'.ownsRow w.heap.size e size v' (l.length + l'.length) (l.flatMap cells ++ l'.flatMap cells) → ∃ A2 c, v' = .slice A2 (l.length + l'.length) c ∧ Lies size cells w' w'.heap.size A2 (l ++ l') := fun v' w' ho => by
      rw [← List.flatMap_append] at ho
      obtain ⟨A2, c, h1, _, _, h2⟩ := lies_of_own hpos hcl (l := l ++ l') List.length_append.symm ho
      rw [List.length_append] at h1
      exact ⟨A2, c, h1, h2⟩
    by_cases hl0 : l = []
    · subst hl0
      rcases hA rfl with rfl | ⟨b, o, rfl⟩
      · obtain ⟨v', w', hr, h2, h3, _, _⟩ := run_append_own_at (P := P) w w.heap.size t ty e i0 _ size bytes ht hi hz0 hz1 hz2 hzs hpos (.slice none 0 0) 0 [] (World.ownsRow_nil _ _ _ _) ⟨b', o', none⟩ l'.length l'.length (l'.flatMap cells) (flat_size hcl l') hsrc
          (fun u hu => by obtain ⟨y, _, hy⟩ := List.mem_flatMap.1 hu; exact hone y u hy) (by simpa using h63) (by simpa using hn) (Nat.le_refl _)
        obtain ⟨A2, c, rfl, h4⟩ := fin v' w' (by simpa using h2)
        exact ⟨A2, c, w', by simpa using hr, h4, (Below.refl _ _).grown h3 (Nat.le_refl _) (fun k h => by simp [Value.ownBlock] at h)⟩
      · obtain ⟨v', w', hr, h2, h3⟩ := run_append_arg_grows (P := P) w t ty e i0 z size bytes ht hi hz0 hz1 hz2 hzs hpos ⟨b, o, none⟩ 0 0 [] (by simp) (fun j u h => by simp at h) ⟨b', o', none⟩ l'.length l'.length (l'.flatMap cells) (flat_size hcl l') hsrc (by omega) (by simpa using h63) (by simpa using hn)
        obtain ⟨A2, c, rfl, h4⟩ := fin v' w' (by simpa using h2)
        exact ⟨A2, c, w', by simpa using hr, h4, (Below.refl _ _).grown h3 (Nat.le_refl _) (fun k h => by cases h)⟩
    · have hp : 0 < l.length := List.length_pos_iff.2 hl0
      obtain ⟨b, o, rfl, _, _⟩ := hl hp
      obtain ⟨v', w', hr, h2, h3⟩ := run_append_arg_grows (P := P) w t ty e i0 z size bytes ht hi hz0 hz1 hz2 hzs hpos ⟨b, o, none⟩ l.length l.length (l.flatMap cells) (flat_size hcl l) (lies_cells hpos hcl hl) ⟨b', o', none⟩ l'.length l'.length (l'.flatMap cells) (flat_size hcl l') hsrc (by omega) h63 hn
      obtain ⟨A2, c, rfl, h4⟩ := fin v' w' h2
      exact ⟨A2, c, w', hr, h4, (Below.refl _ _).grown h3 (Nat.le_refl _) (fun k h => by cases h)⟩
theorem step_append_both {P : Program} (w : World) {ops : Array Oper} {o : Oper} {a : Act} {K : Act → World → Prop} {Q : Exit → Act → World → Prop} {E : Prop} (hgd : o.guard = none) (s x : Operand) (t e : TypeId)
    (ho : o.op = .call { callee := .builtin .append, args := #[s, x], argTypes := #[t, t] })
    (i0 : TypeInfo) (z : Value) (bytes : Nat) (ht : P.underlying t = some (.slice e)) (hi : P.info? e = some i0) (hz0 : i0.zero = some z) (hz1 : i0.size = size) (hz2 : i0.bytes = bytes) (hzs : z.cells.size = size) (hpos : 0 < size) (hcl : ∀ x, (cells x).length = size) (hone : ∀ x, ∀ u ∈ cells x, u.oneCell' = true)
    {A A' : Option Addr} {l l' : List α} (hl : Lies size cells w w.heap.size A l) (hl' : Lies size cells w w.heap.size A' l') (hA : l = [] → A = none ∨ ∃ b o, A = some ⟨b, o, none⟩) (hA' : l' = [] → A' = none ∨ ∃ b o, A' = some ⟨b, o, none⟩) (h63 : l.length + l'.length ≤ maxLen) (hn : (l.length + l'.length) * bytes ≤ 140737488355328)
    (hs : a.eval s = .slice A l.length l.length) (hx : a.eval x = .slice A' l'.length l'.length)
    (h : ∀ A2 c w', Lies size cells w' w'.heap.size A2 (l ++ l') → Below w.heap.size w w' → K (a.put o.dst (.slice A2 (l.length + l'.length) c)) w') :
    if Region.wanted o (yielded ops a.tmps) = true then Oper.wp P o a w K Q else E := by
  have hw : Region.wanted o (yielded ops a.tmps) = true := by simp [Region.wanted, hgd]
  rw [if_pos hw]
  obtain ⟨A2, c, w', hrun, h1, h2⟩ := run_append_both (P := P) w t o.type e i0 z bytes ht hi hz0 hz1 hz2 hzs hpos hcl hone hl hl' hA hA' h63 hn
  unfold Oper.wp execOp
  simp only [ho, resolve, invoke, builtin, Sem.run_bind, Sem.run_pure, Result.andThen_ok, List.map_toArray, List.map_cons, List.map_nil, hs, hx, hrun]
  exact h A2 c w' h1 h2
end
theorem asks_step (bx : Nat) (nx : Up) (l : List Up) (w : World) (hb : Own w bx 49 nx.cells) (hn : UIn w w.heap.size nx) (on : UOk nx) (hl : ∀ u ∈ l, UIn w w.heap.size u) (ol : ∀ u ∈ l, UOk u) :
    Asks 191 (.pointer (some ⟨bx, 0, none⟩)) (fun x => decide (plc x nx = 0)) l w := by
  intro u W hu hW
  have hbW := hb.past hW hb.inside
  have hnW := (hn.past hW (Nat.le_refl _)).wide hW.size
  have huW := ((hl u hu).past hW (Nat.le_refl _)).wide hW.size
  have ou := ol u hu
  obtain ⟨V, hV, hvb, hvs, hvo⟩ := upbox W u
  have y1 := Lib.hid (place_any u nx V (huW.keep hvb) (hnW.keep hvb) ou on)
  obtain ⟨a0, a1, a2, a3, a4, a5⟩ := own6 hvo
  obtain ⟨b0, b1, b2, b3, b4, b5⟩ := own6 (hbW.past hvb hbW.inside)
  have HB := Lib.hid hvb
  obtain ⟨z, hzz⟩ : ∃ z, plc u nx = z := ⟨_, rfl⟩
  rw [hzz] at y1
  clear hb hn on hl ol hu hW hbW hnW huW ou hvb hvs hvo
  by_cases hz : z = 0
  · have t1 : (z == 0) = true := beq_iff_eq.2 hz
    have HD := Lib.hid (show decide (plc u nx = 0) = true from decide_eq_true (hzz.trans hz))
    clear hz hzz
    go_enter Tryz.func191, Tryz.ntmps191
    go_upto_region 1 with fail
    rw [← hV]
    clear hV
    go_wp2_with fail
    refine y1.out.mono ?_
    rintro _ w2 ⟨rfl, c2⟩
    have H2 := Lib.hid (HB.out.trans (c2.mono HB.out.size))
    clear c2 a0 a1 a2 a3 a4 a5 b0 b1 b2 b3 b4 b5
    go_wp2_with fail
    go_ret
    exact ⟨by show _ = Ending.returned (.bool (decide (plc u nx = 0))); rw [HD.out]; rfl, H2.out⟩
  · have t1 : (z == 0) = false := beq_eq_false_iff_ne.2 hz
    have HD := Lib.hid (show decide (plc u nx = 0) = false from decide_eq_false (by rw [hzz]; exact hz))
    clear hz hzz
    go_enter Tryz.func191, Tryz.ntmps191
    go_upto_region 1 with fail
    rw [← hV]
    clear hV
    go_wp2_with fail
    refine y1.out.mono ?_
    rintro _ w2 ⟨rfl, c2⟩
    have H2 := Lib.hid (HB.out.trans (c2.mono HB.out.size))
    clear c2 a0 a1 a2 a3 a4 a5 b0 b1 b2 b3 b4 b5
    go_wp2_with fail
    go_ret
    exact ⟨by show _ = Ending.returned (.bool (decide (plc u nx = 0))); rw [HD.out]; rfl, H2.out⟩
theorem zero_sizeU (z : Array Value) (n : Nat) : (Builtin.zeroCells z n).size = n * z.size := by simp [Builtin.zeroCells]
theorem bytesUp : Tryz.t49.bytes = 80 := by kernel_rfl
set_option maxRecDepth 100000 in
set_option maxHeartbeats 1600000 in
theorem growU_any (n : Nat) (w : World) (hn : n * 80 ≤ 140737488355328) :
    Calls Tryz.prog 104 #[.slice none 0 0, .int .i64 (n : Int)] w fun e w' => ∃ v, e = .returned v ∧ w'.ownsRow w.heap.size 49 6 v 0 [] ∧ Below w.heap.size w w' := by
  by_cases h0 : n = 0
  · subst h0
    go_enter Tryz.func104, Tryz.ntmps104
    go_wp2_with fail
    go_ret
    exact ⟨_, rfl, World.ownsRow_nil _ _ _ _, Below.refl _ _⟩
  · have hp : 0 < n := by omega
    have t1 : decide (0 < (n : Int)) = true := by simp; omega
    have hge := grownCap_ge w n 0 49
    have hle := grownCap_le_maxLen w n 0 49 (by unfold maxLen; omega)
    have HG := Lib.hid (And.intro hge hle)
    have hb := bytesUp
    have hnx : Builtin.nextslicecap n 0 = n := by unfold Builtin.nextslicecap; simp; omega
    clear h0 hge hle
    go_enter Tryz.func104, Tryz.ntmps104
    go_wp2_with fail
    all_goals first
      | (exfalso; omega)
      | skip
    go_ret
    refine ⟨_, rfl, ?_, ((Below.refl w.heap.size w).alloc (Nat.le_refl _) _).drew⟩
    obtain ⟨hge, hle⟩ := HG.out
    exact World.ownsRow_made (base := w.heap.size) (e := 49) (size := 6) w _ (grownCap w n 0 49) (Nat.le_refl _) hle (by
      rw [Array.size_append, zero_sizeU, zero_sizeU]
      show n * 6 + (grownCap w n 0 49 - n) * 6 = _
      omega)
theorem flatR_one {L : List (Rw Up)} {k : Nat} {s : Rw Up} (h : L[k]? = some s) : (flatR (L.take (k + 1))).length = (flatR (L.take k)).length + s.l.length := by
  rw [flatR_take h, List.length_append]
set_option maxRecDepth 100000 in
set_option maxHeartbeats 3200000 in
theorem concatU_any (A : Option Addr) (c : Nat) (L : List (Rw Up)) (w : World) (hl : ULs w w.heap.size A L) (hn : (flatR L).length ≤ 1099511627776) (hn2 : L.length ≤ 1099511627776) :
    Calls Tryz.prog 67 #[.slice A L.length c] w fun e w' => ∃ v, e = .returned v ∧ w'.ownsRow w.heap.size 49 6 v (flatR L).length ((flatR L).flatMap Up.cells) ∧ Below w.heap.size w w' := by
  obtain ⟨i0, hi, hz0, hz1, hz2⟩ := info_parts infoUp
  have HI := Lib.hid (And.intro Tryz.underlying22 (And.intro hi (And.intro hz0 (And.intro hz1 hz2))))
  have Hl := Lib.hid hl
  have hgrow := fun W => Lib.hid (growU_any (flatR L).length W (by omega))
  clear hl hi hz0 hz1 hz2
  go_enter Tryz.func67, Tryz.ntmps67
  go_wp2_with fail
  go_loopw [3, 11] (fun s i wr => ∃ k : Nat, i = .int .i64 (k : Int) ∧ s = .int .i64 (((flatR (L.take k)).length : Nat) : Int) ∧ k ≤ L.length ∧ Below w.heap.size w wr)
    (fun _ i _ => L.length - (intOf i).toNat)
  case atStart => exact ⟨0, rfl, rfl, by omega, Below.refl _ _⟩
  case round =>
    obtain ⟨k, rfl, rfl, hk, hb⟩ := hrel
    by_cases hlt : k < L.length
    · have hx : L[k]? = some L[k] := List.getElem?_eq_getElem hlt
      obtain ⟨b, o, rfl, hB, hc, hv⟩ := Hl.out.at_ hx
      have c0 := (hb.cell (p := ⟨b, o + k, none⟩) hB).trans hc
      have hsn := flatR_one hx
      have hon := flatR_len hx (Nat.le_refl _)
      generalize L[k] = s at *
      generalize (flatR (L.take k)).length = m at *
      have HH := Lib.hid (And.intro hb hsn)
      have q1 : m + s.l.length ≤ 1099511627776 := by omega
      clear hb hx hsn hc hv hon
      go_wp2_with fail
      go_roundw
      case rel => exact ⟨k + 1, by go_num, by rw [HH.out.2]; go_num, by omega, HH.out.1⟩
      case measure => simp [intOf]; omega
    · have hk2 : k = L.length := by omega
      subst hk2
      rw [List.take_length]
      have HH := Lib.hid hb
      clear hb
      go_wp2_with fail
      refine (hgrow _).out.mono ?_
      rintro e w1 ⟨v1, rfl, o1, b1⟩
      have hw1 := HH.out.trans (b1.mono HH.out.size)
      have o1' := o1.mono HH.out.size
      have H1 := Lib.hid (And.intro o1' hw1)
      clear o1 o1' b1 hw1 hgrow
      go_wp2_with fail
      go_loopw [6, 27] (fun v i w2 => ∃ k : Nat, i = .int .i64 (k : Int) ∧ k ≤ L.length ∧ w2.ownsRow w.heap.size 49 6 v (flatR (L.take k)).length ((flatR (L.take k)).flatMap Up.cells) ∧ Below w.heap.size w w2)
        (fun _ i _ => L.length - (intOf i).toNat)
      case atStart => exact ⟨0, rfl, by omega, H1.out.1, H1.out.2⟩
      case round =>
        obtain ⟨k, rfl, hk', hown, hb2⟩ := hrel
        by_cases hlt' : k < L.length
        · have hx : L[k]? = some L[k] := List.getElem?_eq_getElem hlt'
          obtain ⟨b, o, rfl, hB, hc, hv⟩ := Hl.out.at_ hx
          have c0 := (hb2.cell (p := ⟨b, o + k, none⟩) hB).trans hc
          have hvv := hv.head.past hb2 (Nat.le_refl _)
          have hsn := flatR_one hx
          have hon := flatR_len hx (Nat.le_refl _)
          have hfs := flatR_take hx
          generalize L[k] = s at *
          have hM : (flatR (L.take k)).length + s.l.length ≤ 1099511627776 := by omega
          have HV := Lib.hid (And.intro hvv (And.intro hown (And.intro hb2 (And.intro hsn (And.intro hfs hM)))))
          clear hx hsn hfs hc hv hvv hown hb2 hon hM
          go_wp2_with (at_builtin; refine wpList_append_lies _ rfl (.tmp 31) (.tmp 32) 22 49 rfl i0 _ 80 HI.out.1 HI.out.2.1 HI.out.2.2.1 HI.out.2.2.2.1 HI.out.2.2.2.2 rfl (by decide) ucells_len ucells_one w.heap.size _ _ _ rfl HV.out.2.1 s.c rfl HV.out.1 ?m1 ?m2 ?m3 ?m4)
          case m1 => unfold maxLen; have := HV.out.2.2.2.2.2; omega
          case m2 => have := HV.out.2.2.2.2.2; omega
          case m3 => exact HV.out.2.2.1.size
          intro v' w' ho' hb'
          rw [← List.flatMap_append, ← HV.out.2.2.2.2.1, ← HV.out.2.2.2.1] at ho'
          have H2 := Lib.hid (And.intro ho' (HV.out.2.2.1.trans hb'))
          clear ho' hb'
          go_wp2_with fail
          go_roundw
          case rel => exact ⟨k + 1, by go_num, by omega, H2.out.1, H2.out.2⟩
          case measure => simp [intOf]; omega
        · have hk3 : k = L.length := by omega
          subst hk3
          rw [List.take_length] at hown
          have H2 := Lib.hid (And.intro hown hb2)
          clear hown hb2
          go_wp2_with fail
          go_ret
          exact ⟨_, rfl, H2.out.1, H2.out.2⟩
end Go.Proofs.YtjffohpdjicfpaaGreat
