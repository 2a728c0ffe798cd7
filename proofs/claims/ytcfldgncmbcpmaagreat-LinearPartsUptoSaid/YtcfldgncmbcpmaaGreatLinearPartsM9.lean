/- Part 9 of the texts on which LinearParts rests: facts and contracts. -/
import Derived.Test.YtcfldgncmbcpmaaGreatLinearPartsM8
import Derived.WalkKit
import Derived.ProofKit
import Derived.OpenShut
import Derived.JoinedCond
import Derived.Carry
import Derived.ChangeArms
import Derived.Deep.Slices
import Derived.SizedLaws
import Derived.Test.YtcfldgncmbcpmaaGreatRows
import Derived.Deep.RegionHeld3
namespace Go.Proofs.YtcfldgncmbcpmaaGreat
open Go Go.RowKit

/-- what Do tells of another kind -/
def NoneSays (l : List Up) (w : World) (x : Ending) (w' : World) : Prop :=
  x = .returned (.tuple #[.slice none 0 0, .agg #[.int .u64 0, .int .u64 0, .int .u64 0], .int .i64 (if chkUs l = 0 then 4 else chkUs l)]) ∧ Below w.heap.size w w'
set_option maxRecDepth 100000 in
set_option maxHeartbeats 16000000 in
theorem do_other (k n a r : Int) (hk : 0 ≤ k ∧ k ≤ 255) (hf : mkF k = none) (A1 A2 A3 A4 : Option Addr) (l1 l2 l3 l4 c1 c2 c3 c4 : Nat) (A : Option Addr) (c : Nat) (l : List Up) (w : World) (hl : Ups w w.heap.size A l) (hok : ∀ u ∈ l, UOk u) (hn : l.length ≤ 1099511627776) :
    Calls Tryz.prog 8 #[.agg #[.int .u8 k, .int .i64 n, .slice A1 l1 c1, .slice A2 l2 c2, .slice A3 l3 c3, .slice A4 l4 c4, .int .u8 a, .int .i64 r], .slice A l.length c] w (NoneSays l w) := by
  obtain ⟨V, hV, hvb, hvs, hvp, hvt⟩ := pbox w k n a r A1 A2 A3 A4 l1 l2 l3 l4 c1 c2 c3 c4
  have hck := dcheck_any A c l V (hl.keep hvb) (by omega) hok
  obtain ⟨K, hK⟩ : ∃ K, chkUs l = K := ⟨_, rfl⟩
  rw [hK] at hck
  have Hck := Lib.hid hck
  have HL := Lib.hid (And.intro hl (And.intro hok hK))
  have HV := Lib.hid (And.intro hvb (And.intro hvp (And.intro hvt hvs)))
  clear hl hok hK hck hvb hvp hvt hvs
  go_enter Tryz.func8, Tryz.ntmps8
  go_upto_region 1 with fail
  rw [← hV]
  clear hV
  go_wp2_with fail
  refine Hck.out.mono ?_
  rintro _ w1 ⟨rfl, b1⟩
  have H1 := Lib.hid (And.intro (belows HV.out.1 b1) (And.intro (HV.out.2.1.past b1 HV.out.2.1.inside) (And.intro (HV.out.2.2.1.past b1 HV.out.2.2.1.inside) (show w.heap.size + 2 ≤ w1.heap.size by have := HV.out.2.2.2; have := b1.size; omega))))
  clear b1 Hck
  by_cases hK0 : K = 0
  case neg =>
    have t1 : (K != 0) = true := bne_iff_ne.2 hK0
    obtain ⟨X, hX, hXo, hXk, hXs⟩ := own_three H1.out.2.2.1 (.int .u64 0) (.int .u64 0) (.int .u64 0)
    have hbX : Below w.heap.size w X := H1.out.1.trans (hXk.below (by have := H1.out.2.2.2; omega) (Nat.le_succ _) (fun k e => by simp [Value.ownBlock] at e))
    obtain ⟨z0, z1, z2⟩ : w1.cell? ⟨w.heap.size + 1, 0, none⟩ = some (.int .u64 0) ∧ w1.cell? ⟨w.heap.size + 1, 1, none⟩ = some (.int .u64 0) ∧ w1.cell? ⟨w.heap.size + 1, 2, none⟩ = some (.int .u64 0) := ⟨H1.out.2.2.1.at_ 0, H1.out.2.2.1.at_ 1, H1.out.2.2.1.at_ 2⟩
    have f0 := H1.out.2.2.1.open_ 0
    have f1 := H1.out.2.2.1.open_ 1
    have f2 := H1.out.2.2.1.open_ 2
    obtain ⟨x0, x1, x2⟩ : X.cell? ⟨w.heap.size + 1, 0, none⟩ = some (.int .u64 0) ∧ X.cell? ⟨w.heap.size + 1, 1, none⟩ = some (.int .u64 0) ∧ X.cell? ⟨w.heap.size + 1, 2, none⟩ = some (.int .u64 0) := ⟨hXo.at_ 0, hXo.at_ 1, hXo.at_ 2⟩
    have HB := Lib.hid hbX
    have HK0 := Lib.hid hK0
    clear hXo hXk hXs hbX hK0
    go_wp2_with fail
    rw [← hX]
    clear hX
    exact bodyPost_ret (v := .tuple #[.slice none 0 0, .agg #[.int .u64 0, .int .u64 0, .int .u64 0], .int .i64 K]) (by simp [results, Tryz.results8, go_sem, x0, x1, x2]) rfl
      ⟨by rw [HL.out.2.2, if_neg HK0.out], HB.out⟩
  subst hK0
  have hchk := chkUs_all.1 HL.out.2.2
  have HC := Lib.hid hchk
  obtain ⟨p0, p1, p2, p3, p4, p5, p6, p7⟩ : w1.cell? ⟨w.heap.size, 0, none⟩ = some (.int .u8 k) ∧ w1.cell? ⟨w.heap.size, 1, none⟩ = some (.int .i64 n) ∧ w1.cell? ⟨w.heap.size, 2, none⟩ = some (.slice A1 l1 c1) ∧ w1.cell? ⟨w.heap.size, 3, none⟩ = some (.slice A2 l2 c2) ∧ w1.cell? ⟨w.heap.size, 4, none⟩ = some (.slice A3 l3 c3) ∧ w1.cell? ⟨w.heap.size, 5, none⟩ = some (.slice A4 l4 c4) ∧ w1.cell? ⟨w.heap.size, 6, none⟩ = some (.int .u8 a) ∧ w1.cell? ⟨w.heap.size, 7, none⟩ = some (.int .i64 r) :=
    ⟨H1.out.2.1.at_ 0, H1.out.2.1.at_ 1, H1.out.2.1.at_ 2, H1.out.2.1.at_ 3, H1.out.2.1.at_ 4, H1.out.2.1.at_ 5, H1.out.2.1.at_ 6, H1.out.2.1.at_ 7⟩
  have hmk := fun W => Lib.hid (makers_any W)
  unfold MakersSays at hmk
  clear hchk
  go_upto_region 4 with fail
  have hself : Bl w1 w1 := Bl.refl _
  have HP := Lib.hid (fun W (h : Bl w1 W) => (H1.out.2.1.past h H1.out.2.1.inside).at_ 0)
  simp only [List.getElem?_cons_zero] at HP
  go_region_held3 (fun w' => Bl w1 w' ∧ (w'.cell? ⟨w.heap.size, 0, none⟩ = some (.int .u8 k)))
    ((refine (fun h => And.intro h (HP.out _ h)) ?_; repeat (first | with_reducible exact hb2 | with_reducible exact hself | with_reducible refine Bl.more ?_ _ | with_reducible refine Bl.drew ?_)))
    (first | (go_at_call 20; refine (hmk _).out.mono ?_; rintro _ w2 ⟨G, rfl, b2, hlook⟩; have hb2 : Bl w1 w2 := Bl.call (by repeat (first | with_reducible exact hself | with_reducible refine Bl.more ?_ _ | with_reducible refine Bl.drew ?_)) b2; have hlk := hlook w2 (Below.refl _ _) k hk; rw [show mkV k = .nilFunc by unfold mkV; rw [hf], hf, show (none : Option Nat).isSome = false from rfl] at hlk))
  clear hlook b2 hmk hlk p0 p1 p2 p3 p4 p5 p6 p7
  have hR2 := H1.out.2.2.1.past hb2 H1.out.2.2.1.inside
  have hbw : Below w.heap.size w w2 := H1.out.1.trans (hb2.below.mono (Nat.le_trans (by have := H1.out.2.2.2; omega) (Nat.le_refl _)))
  obtain ⟨X, hX, hXo, hXk, hXs⟩ := own_three hR2 (.int .u64 0) (.int .u64 0) (.int .u64 0)
  have hbX : Below w.heap.size w X := hbw.trans (hXk.below (by have := hbw.size; omega) (Nat.le_succ _) (fun k e => by simp [Value.ownBlock] at e))
  obtain ⟨z0, z1, z2⟩ : w2.cell? ⟨w.heap.size + 1, 0, none⟩ = some (.int .u64 0) ∧ w2.cell? ⟨w.heap.size + 1, 1, none⟩ = some (.int .u64 0) ∧ w2.cell? ⟨w.heap.size + 1, 2, none⟩ = some (.int .u64 0) := ⟨hR2.at_ 0, hR2.at_ 1, hR2.at_ 2⟩
  have f0 := hR2.open_ 0
  have f1 := hR2.open_ 1
  have f2 := hR2.open_ 2
  obtain ⟨x0, x1, x2⟩ : X.cell? ⟨w.heap.size + 1, 0, none⟩ = some (.int .u64 0) ∧ X.cell? ⟨w.heap.size + 1, 1, none⟩ = some (.int .u64 0) ∧ X.cell? ⟨w.heap.size + 1, 2, none⟩ = some (.int .u64 0) := ⟨hXo.at_ 0, hXo.at_ 1, hXo.at_ 2⟩
  have HB := Lib.hid hbX
  clear hXo hXk hXs hbX hR2 hbw hb2 hself
  go_wp2_with fail
  rw [← hX]
  clear hX
  exact bodyPost_ret (v := .tuple #[.slice none 0 0, .agg #[.int .u64 0, .int .u64 0, .int .u64 0], .int .i64 4]) (by simp [results, Tryz.results8, go_sem, x0, x1, x2]) rfl ⟨by rw [HL.out.2.2, if_pos rfl], HB.out⟩
set_option maxRecDepth 100000 in
set_option maxHeartbeats 1600000 in
theorem row_any (n : Int) (w : World) : Calls Tryz.prog 17 #[.int .i64 n] w fun x w' => ∃ G, x = .returned (.slice (some ⟨G, 0, none⟩) 1 1) ∧ Vals w' w'.heap.size (some ⟨G, 0, none⟩) [vnum n] ∧ Below w.heap.size w w' := by
  have hv := Lib.hid (vals_num w n)
  go_enter Tryz.func17, Tryz.ntmps17
  go_wp2_with fail
  go_ret
  exact ⟨_, rfl, hv.out, (Below.refl _ _).alloc (Nat.le_refl _) _⟩
end Go.Proofs.YtcfldgncmbcpmaaGreat
namespace Go.Proofs.YtcfldgncmbcpmaaGreat
open Go Go.RowKit

theorem box_one (w : World) (G : Nat) (n d : Int) (h1 : Vals w w.heap.size (some ⟨G, 0, none⟩) [vnum n]) :
    ∃ V, V = w.alloc (.cells #[.slice none 0 0, .slice (some ⟨G, 0, none⟩) 1 1, .int .u64 0, .int .u64 0, .int .u64 0, .int .i64 d] 44) ∧ Below w.heap.size w V ∧ Ups V V.heap.size (some ⟨w.heap.size, 0, none⟩) [lu G n d 0] := by
  obtain ⟨W, e1, s1, b1, o1⟩ := boxd w [.slice none 0 0, .slice (some ⟨G, 0, none⟩) 1 1, .int .u64 0, .int .u64 0, .int .u64 0, .int .i64 d] 44
  refine ⟨W, e1, b1, ups_own (t := 44) (l := [lu G n d 0]) o1 fun u hu => ?_⟩
  obtain rfl : u = lu G n d 0 := by simpa using hu
  exact lu_in (vals_keep h1 b1)
theorem int_one (w : World) (n : Int) : ∃ V, V = w.alloc (.cells #[.int .i64 n] 3) ∧ Below w.heap.size w V ∧ Ints V V.heap.size (some ⟨w.heap.size, 0, none⟩) [n] := by
  obtain ⟨W, e1, s1, b1, o1⟩ := boxd w [.int .i64 n] 3
  refine ⟨W, e1, b1, fun _ => ⟨w.heap.size, 0, rfl, o1.inside, fun i x hx => ?_⟩⟩
  match i, hx with
  | 0, hx =>
    obtain rfl : n = x := by simpa using hx
    exact o1.at_ 0
def ku (a : Nat) (k : List Vl) : Uk := ⟨k, [vnum 1], ⟨0, a, 0⟩⟩
theorem neg0 (G : Nat) : chkUs [lu G 1 2 0] = 0 ∧ okAll mkNeg [lu G 1 2 0] = true ∧ fitP ([lu G 1 2 0].map (madeP mkNeg)) = true ∧ nz Uk.cmp ([lu G 1 2 0].map (madeP mkNeg)) = [(ku 0 [], (-2 : Int))] := ⟨by kernel_rfl, by kernel_rfl, by kernel_rfl, by kernel_rfl⟩
theorem arr0 (G : Nat) : arrE [0] [lu G 1 2 0] = 0 ∧ arrL [0] [lu G 1 2 0] = [(ku 0 [vnum 1], (2 : Int))] := ⟨by kernel_rfl, by kernel_rfl⟩
theorem ent0 (G : Nat) : chkL 0 3 [lu G 1 2 0] = 0 ∧ entOk 0 [lu G 1 2 0] = true ∧ fitP (entP 0 [lu G 1 2 0]) = true ∧ nz Uk.cmp (entP 0 [lu G 1 2 0]) = [(ku 0 [], (2 : Int)), (ku 1 [], (-2 : Int))] := ⟨by kernel_rfl, by kernel_rfl, by kernel_rfl, by kernel_rfl⟩
/-- updates told by what they are of -/
theorem up_two {c : List Up} (h : c.map Up.p = [(ku 0 [], (2 : Int)), (ku 1 [], (-2 : Int))]) : ∃ A1 k1 B1 c1 A2 k2 B2 c2, c = [⟨A1, k1, [], B1, c1, [vnum 1], ⟨0, 0, 0⟩, 2⟩, ⟨A2, k2, [], B2, c2, [vnum 1], ⟨0, 1, 0⟩, -2⟩] := by
  have hl : c.length = 2 := by have := congrArg List.length h; simpa using this
  match c, hl with
  | [x, y], _ =>
    obtain ⟨A1, k1, a, B1, c1, b, t, d⟩ := x
    obtain ⟨A2, k2, a', B2, c2, b', t', d'⟩ := y
    simp only [List.map_cons, List.map_nil, Up.p, Up.k, ku, List.cons.injEq, Prod.mk.injEq, Uk.mk.injEq, and_true] at h
    obtain ⟨⟨⟨rfl, rfl, rfl⟩, rfl⟩, ⟨rfl, rfl, rfl⟩, rfl⟩ := h
    exact ⟨A1, k1, B1, c1, A2, k2, B2, c2, rfl⟩
theorem up_one {c : List Up} {K : Uk} {d : Int} (h : c.map Up.p = [(K, d)]) : ∃ x, c = [x] ∧ x.key = K.key ∧ x.row = K.row ∧ x.t = K.t ∧ x.d = d := by
  have hl : c.length = 1 := by have := congrArg List.length h; simpa using this
  match c, hl with
  | [x], _ =>
    have hp : x.p = (K, d) := by simpa using h
    have hk : x.k = K := congrArg Prod.fst hp
    exact ⟨x, rfl, by rw [← hk]; rfl, by rw [← hk]; rfl, by rw [← hk]; rfl, congrArg Prod.snd hp⟩
set_option maxRecDepth 100000 in
set_option maxHeartbeats 6400000 in
theorem lives_true (w : World) : Calls Tryz.prog 7 #[] w fun e w' => e = .returned (.bool true) ∧ Below w.heap.size w w' := by
  have y1 := fun W => Lib.hid (row_any 1 W)
  go_enter Tryz.func7, Tryz.ntmps7
  go_wp2_with fail
  refine (y1 _).out.mono ?_
  rintro _ w1 ⟨G, rfl, v1, b1⟩
  obtain ⟨V1, hV1, hb1, hu1⟩ := box_one w1 G 1 2 v1
  have hoku : ∀ u ∈ [lu G 1 2 0], UOk u := fun u hu => by
    obtain rfl : u = lu G 1 2 0 := by simpa using hu
    exact lu_ok (by decide) (by decide)
  have hcall := do_negated 0 0 0 none none none none 0 0 0 0 0 0 0 0 (some ⟨w1.heap.size, 0, none⟩) 1 [lu G 1 2 0] V1 hu1 hoku (by simp)
  unfold DoSays at hcall
  have HC := Lib.hid hcall
  have H1 := Lib.hid (And.intro (belows b1 hb1) (And.intro hu1 hoku))
  clear v1 b1 hb1 hu1 hoku hcall y1
  go_wp2_with fail
  rw [← hV1]
  clear hV1
  refine HC.out.mono ?_
  rintro _ w2 ⟨A2, k2, aL, t2, E2, rfl, hE2, hL2, hu2, ho2, b2, _, _⟩
  obtain ⟨n1, n2, n3, n4⟩ := neg0 G
  obtain rfl : E2 = 0 := hE2.2 ⟨n1, n2, n3⟩
  have hp2 := (hL2 rfl).1
  rw [n4] at hp2
  obtain ⟨a0, rfl, _, _, _, hd2⟩ := up_one hp2
  obtain ⟨W2, hW2, hb2', hs2', _⟩ := tbox w2 t2
  obtain ⟨V3, hV3, hb3, hi3⟩ := int_one W2 0
  have hbb := belows (belows b2 hb2') hb3
  have hcall := arrange_any (some ⟨W2.heap.size, 0, none⟩) 1 [0] (some ⟨w1.heap.size, 0, none⟩) 1 [lu G 1 2 0] V3 hi3 (by unfold maxLen; simp) (H1.out.2.1.keep hbb) H1.out.2.2 (by simp)
  rw [(arr0 G).1, (arr0 G).2, hs2'] at hcall
  unfold UpsNew at hcall
  have HC3 := Lib.hid hcall
  have H2 := Lib.hid (And.intro (belows H1.out.1 hbb) (And.intro (H1.out.2.1.keep hbb) (And.intro ((hu2.keep hb2').keep hb3) hd2)))
  clear hE2 hL2 hu2 ho2 b2 n1 n2 n3 n4 hp2 hd2 hb2' hs2' hb3 hi3 hbb hcall HC
  go_wp2_with fail
  rw [← hW2, ← hV3]
  clear hW2 hV3
  refine HC3.out.mono ?_
  rintro _ w3 ⟨A3, k3, bL, rfl, hp3, hu3, ho3, b3, _⟩
  obtain ⟨b0, rfl, hk3, _, _, _⟩ := up_one hp3
  have hcall := enter_any 0 3 (some ⟨w1.heap.size, 0, none⟩) 1 [lu G 1 2 0] w3 (H2.out.2.1.keep b3) H1.out.2.2 (by simp)
  unfold EntSays at hcall
  have HC4 := Lib.hid hcall
  have H3 := Lib.hid (And.intro (belows H2.out.1 b3) (And.intro (H2.out.2.1.keep b3) (And.intro (H2.out.2.2.1.keep b3) (And.intro hu3 hk3))))
  clear hp3 hu3 ho3 b3 hk3 hcall HC3
  go_wp2_with fail
  refine HC4.out.mono ?_
  rintro _ w4 ⟨A4, k4, cL, t4, E4, rfl, hE4, hL4, hu4, ho4, b4, _, _⟩
  obtain ⟨n1, n2, n3, n4⟩ := ent0 G
  obtain rfl : E4 = 0 := hE4.2 ⟨n1, n2, n3⟩
  have hp4 := (hL4 rfl).1
  rw [n4] at hp4
  obtain ⟨A1', k1', B1', c1', A2', k2', B2', c2', rfl⟩ := up_two hp4
  obtain ⟨W4, hW4, hb4', _, _⟩ := tbox w4 t4
  have hu4' := hu4.keep hb4'
  have hcall := next_0 1 A4 k4 _ W4 hu4' ho4 (by simp)
  rw [show nxtE 0 1 [⟨A1', k1', [], B1', c1', [vnum 1], ⟨0, 0, 0⟩, 2⟩, ⟨A2', k2', [], B2', c2', [vnum 1], ⟨0, 1, 0⟩, -2⟩] = 0 by kernel_rfl, show nxtL 0 1 [⟨A1', k1', [], B1', c1', [vnum 1], ⟨0, 0, 0⟩, 2⟩, ⟨A2', k2', [], B2', c2', [vnum 1], ⟨0, 1, 0⟩, -2⟩] = [(ku 1 [], (2 : Int))] by kernel_rfl] at hcall
  unfold UpsNew at hcall
  have HC5 := Lib.hid hcall
  have hbb := belows b4 hb4'
  have H4 := Lib.hid (And.intro (belows H3.out.1 hbb) (And.intro (H3.out.2.1.keep hbb) (And.intro (H3.out.2.2.1.keep hbb) (And.intro (H3.out.2.2.2.1.keep hbb) (And.intro hu4' ho4)))))
  clear hE4 hL4 hu4 hu4' ho4 b4 n1 n2 n3 n4 hp4 hb4' hbb hcall HC4
  go_wp2_with fail
  rw [← hW4]
  clear hW4
  refine HC5.out.mono ?_
  rintro _ w5 ⟨A5, k5, dL, rfl, hp5, hu5, ho5, b5, _⟩
  obtain ⟨d0, rfl, _, _, _, _⟩ := up_one hp5
  have hcall := leave_any 0 (.inl rfl) A4 k4 _ w5 (H4.out.2.2.2.2.1.keep b5) H4.out.2.2.2.2.2 (by simp)
  unfold LevSays at hcall
  have HC6 := Lib.hid hcall
  have H5 := Lib.hid (And.intro (belows H4.out.1 b5) (And.intro (H4.out.2.1.keep b5) (And.intro (H4.out.2.2.1.keep b5) (And.intro (H4.out.2.2.2.1.keep b5) (H4.out.2.2.2.2.1.keep b5)))))
  clear hp5 hu5 ho5 b5 hcall HC5
  go_wp2_with fail
  refine HC6.out.mono ?_
  rintro _ w6 ⟨A6, k6, eL, t6, E6, rfl, hE6, hL6, hu6, ho6, b6, _, _⟩
  obtain rfl : E6 = 0 := hE6.2 ⟨by kernel_rfl, by kernel_rfl⟩
  have hp6 := (hL6 rfl).1
  rw [show nz Uk.cmp (levP 0 [⟨A1', k1', [], B1', c1', [vnum 1], ⟨0, 0, 0⟩, 2⟩, ⟨A2', k2', [], B2', c2', [vnum 1], ⟨0, 1, 0⟩, -2⟩]) = [] by kernel_rfl] at hp6
  obtain rfl : eL = [] := List.map_eq_nil_iff.1 hp6
  obtain ⟨W6, hW6, hb6', _, _⟩ := tbox w6 t6
  have hbb := belows b6 hb6'
  have hcall := do_other 0 0 0 0 (by decide) rfl none none none none 0 0 0 0 0 0 0 0 (some ⟨w1.heap.size, 0, none⟩) 1 [lu G 1 2 0] W6 (H5.out.2.1.keep hbb) H1.out.2.2 (by simp)
  unfold NoneSays at hcall
  rw [(neg0 G).1, if_pos rfl] at hcall
  have HC7 := Lib.hid hcall
  have H6 := Lib.hid (And.intro (belows H5.out.1 hbb) (And.intro (H5.out.2.2.1.keep hbb) (And.intro (H5.out.2.2.2.1.keep hbb) (H5.out.2.2.2.2.keep hbb))))
  clear hE6 hL6 hu6 ho6 b6 hp6 hb6' hbb hcall HC6
  go_wp2_with fail
  rw [← hW6]
  clear hW6
  refine HC7.out.mono ?_
  rintro _ w7 ⟨rfl, b7⟩
  obtain ⟨W7, hW7, hb7', _, _⟩ := zbox w7
  have hbb := belows b7 hb7'
  have hua := H6.out.2.1.keep hbb
  have hub := H6.out.2.2.1.keep hbb
  have huc := H6.out.2.2.2.keep hbb
  obtain ⟨ba, oa, rfl, hBa, hca⟩ := lies_up hua.head (by simp)
  obtain ⟨bb, ob, rfl, hBb, hcb⟩ := lies_up hub.head (by simp)
  obtain ⟨bc, oc, rfl, hBc, hcc⟩ := lies_up huc.head (by simp)
  have fa := (hca 0 a0 rfl).six.2.2.2.2.2
  have fb := (hcb 0 b0 rfl).six.1
  have fc := (hcc 1 _ rfl).six.2.2.2.1
  have hkb := (hub.each_ b0 (by simp)).key
  rw [H3.out.2.2.2.2] at hkb
  change Vals W7 W7.heap.size b0.kA [vnum 1] at hkb
  obtain ⟨bk, ok, ek, hBk, hck⟩ := hkb (by simp)
  have fk := (hck 0 (vnum 1) rfl).2.1
  have hd := H2.out.2.2.2
  have hkl : b0.key.length = 1 := by rw [H3.out.2.2.2.2]; rfl
  rw [hd] at fa
  rw [ek, hkl] at fb
  simp only [Nat.zero_mul, Nat.add_zero, Nat.one_mul] at fa fb fc fk
  change W7.cell? ⟨bk, ok + 1, none⟩ = some (.int .i64 1) at fk
  have HF := Lib.hid (belows H6.out.1 hbb)
  clear hbb hua hub huc hca hcb hcc hkb hck b7 hb7' HC7 ek hd hkl
  subst hW7
  go_wp2_with fail
  go_ret
  exact ⟨rfl, HF.out⟩
end Go.Proofs.YtcfldgncmbcpmaaGreat
namespace Go.Proofs.YtcfldgncmbcpmaaGreat
open Go Go.RowKit

def negX (x : Uk × Int) : Uk × Int := (x.1, -x.2)
theorem sumOf_neg (l : List (Uk × Int)) (k : Uk) : sumOf Uk.cmp (l.map negX) k = - sumOf Uk.cmp l k := by
  induction l with
  | nil => rfl
  | cons x l ih =>
    simp only [List.map_cons, sumOf, ih, negX]
    split <;> omega
theorem fitE_zero {S : Int} (h : fitE S = 0) : fitN S = S := by
  unfold fitE at h
  unfold fitN
  split at h
  · rename_i h1; rw [if_pos h1]
  · omega
theorem made_neg {l : List Up} (h : okAll mkNeg l = true) : l.map (madeP mkNeg) = (l.map (madeP mkKeep)).map negX := by
  rw [List.map_map]
  refine List.map_congr_left fun u hu => ?_
  have h1 := List.all_eq_true.1 h u hu
  have h2 : fitE (u.d * -1) = 0 := by simpa [mkNeg] using h1
  show madeP mkNeg u = negX (madeP mkKeep u)
  unfold madeP negX mkNeg mkKeep
  dsimp only
  rw [fitE_zero h2]
  simp
theorem made_right {mk : Mk} {l : List Up} (hmk : ∀ u ∈ l, chkRow (mk u).1 = 0) (h : chkUs l = 0) : ∀ x ∈ l.map (madeP mk), UkR x.1 := fun x hx => by
  obtain ⟨u, hu, rfl⟩ := List.mem_map.1 hx
  have hc := chkUs_all.1 h u hu
  have ht : chk [u.t] = 0 := (chkK_zero hc).2.2
  show chkK ⟨[], (mk u).1, u.t⟩ = 0
  unfold chkK orI
  dsimp only
  rw [hmk u hu, ht]
  rfl
theorem keep_row {l : List Up} (h : chkUs l = 0) : ∀ u ∈ l, chkRow u.row = 0 := fun u hu => (chkK_zero (chkUs_all.1 h u hu)).2.1
/-- what was made without a key has none -/
theorem made_nokey {mk : Mk} {l out : List Up} (h : out.map Up.p = nz Uk.cmp (l.map (madeP mk))) : ∀ x ∈ out, x.key = [] := fun x hx => by
  have : x.p ∈ nz Uk.cmp (l.map (madeP mk)) := by rw [← h]; exact List.mem_map.2 ⟨x, hx, rfl⟩
  obtain ⟨z, hz, e⟩ := nz_keys this
  obtain ⟨u, _, rfl⟩ := List.mem_map.1 hz
  have : x.k = (⟨[], (mk u).1, u.t⟩ : Uk) := e.symm
  exact congrArg Uk.key this
theorem keep_same {out : List Up} (h : ∀ x ∈ out, x.key = []) : out.map (madeP mkKeep) = out.map Up.p := List.map_congr_left fun x hx => by
  unfold madeP mkKeep Up.p Up.k
  rw [h x hx]
theorem twice_same {l a : List Up} (hc : chkUs l = 0) (hl : okAll mkNeg l = true) (ha : a.map Up.p = nz Uk.cmp (l.map (madeP mkNeg))) (hca : chkUs a = 0) (hoa : okAll mkNeg a = true) :
    nz Uk.cmp (a.map (madeP mkNeg)) = nz Uk.cmp (l.map (madeP mkKeep)) := by
  refine nz_ext uk_lin (R := UkR) (made_right (keep_row hca) hca) (made_right (keep_row hc) hc) fun k => ?_
  rw [made_neg hoa, sumOf_neg, keep_same (made_nokey ha), ha, nz_sum uk_lin, made_neg hl, sumOf_neg]
  omega
theorem sameL_yes (A A' : Option Addr) (c c' : Nat) (l m : List Up) (w : World) (hl : Ups w w.heap.size A l) (hm : Ups w w.heap.size A' m) (hol : ∀ u ∈ l, UOk u) (hom : ∀ u ∈ m, UOk u) (hn : l.length ≤ 1099511627776) (hn' : m.length ≤ 1099511627776) (h : l.map Up.p = m.map Up.p) :
    Calls Tryz.prog 9 #[.slice A l.length c, .slice A' m.length c'] w fun x w' => x = .returned (.bool true) ∧ Below w.heap.size w w' :=
  (sameU_any A A' c c' l m w hl hm hol hom hn hn').mono fun x w' ⟨b, h1, h2, h3⟩ => ⟨by rw [h1, h2.2 h], h3⟩
end Go.Proofs.YtcfldgncmbcpmaaGreat
namespace Go.Proofs.YtcfldgncmbcpmaaGreat
open Go Go.RowKit

theorem at_eq {l e : List Up} {t : Tm} (h1 : chkUs l = 0) (h2 : chkUs e = 0) (h : ∀ r, sumOf cmpRows (atP l t) r = sumOf cmpRows (atP e t) r) : atL l t = atL e t ∧ atE l t = atE e t := by
  by_cases ht : chk [t] = 0
  · rw [(at_of h1 ht).1, (at_of h1 ht).2, (at_of h2 ht).1, (at_of h2 ht).2]
    exact resL_ext row_lin (at_right h1) (at_right h2) h
  · have c1 : chkAt l t = chk [t] := by unfold chkAt orI; rw [if_pos h1]
    have c2 : chkAt e t = chk [t] := by unfold chkAt orI; rw [if_pos h2]
    unfold atL atE
    rw [c1, c2, if_neg ht, if_neg ht, if_neg ht, if_neg ht]
    exact ⟨rfl, rfl⟩
theorem at_none {l : List Up} {t : Tm} (h1 : chkUs l = 0) (h : ∀ r, sumOf cmpRows (atP l t) r = 0) : atL l t = [] := by
  by_cases ht : chk [t] = 0
  · rw [(at_of h1 ht).1]
    unfold resL
    split
    · exact nz_none row_lin (at_right h1) h
    · rfl
  · have c1 : chkAt l t = chk [t] := by unfold chkAt orI; rw [if_pos h1]
    unfold atL
    rw [c1, if_neg ht]
theorem psum_append (p : Uk → Bool) (a b : List (Uk × Int)) : psum p (a ++ b) = psum p a + psum p b := by
  induction a with
  | nil => simp [psum]
  | cons x a ih => simp only [List.cons_append, psum, ih]; omega
/-- of what entered only the updates themselves count -/
theorem psum_ent_first (p : Uk → Bool) (loop : Int) : ∀ l : List Up, (∀ u ∈ l, p (endU loop u).k = false) → psum p (entP loop l) = psum p (l.map Up.p)
  | [], _ => rfl
  | u :: l, h => by
    have ih := psum_ent_first p loop l fun x hx => h x (by simp [hx])
    have h0 := h u (by simp)
    show psum p ([u.p, (endU loop u).p] ++ entP loop l) = psum p (u.p :: l.map Up.p)
    rw [psum_append, ih]
    simp only [psum]
    rw [show (endU loop u).p.1 = (endU loop u).k from rfl, h0]
    simp
/-- where both count they come to nothing -/
theorem psum_ent_none (p : Uk → Bool) (loop : Int) : ∀ l : List Up, entOk loop l = true → (∀ u ∈ l, p (endU loop u).k = p u.k) → psum p (entP loop l) = 0
  | [], _, _ => rfl
  | u :: l, ho, h => by
    unfold entOk at ho
    rw [List.all_cons, Bool.and_eq_true, Bool.and_eq_true] at ho
    have ih := psum_ent_none p loop l ho.2 fun x hx => h x (by simp [hx])
    have h0 := h u (by simp)
    have hf : fitN (u.d * -1) = u.d * -1 := fitE_zero (by simpa using ho.1.1)
    show psum p ([u.p, (endU loop u).p] ++ entP loop l) = 0
    rw [psum_append, ih]
    simp only [psum]
    rw [show (endU loop u).p.1 = (endU loop u).k from rfl, h0, show u.p.1 = u.k from rfl, show u.p.2 = u.d from rfl, show (endU loop u).p.2 = fitN (u.d * -1) from rfl, hf]
    split <;> omega
theorem ent_right {loop : Int} {l : List Up} (hc : chkUs l = 0) (ho : entOk loop l = true) : ∀ x ∈ entP loop l, UkR x.1 := fun x hx => by
  unfold entP at hx
  obtain ⟨u, hu, hx⟩ := List.mem_flatMap.1 hx
  have h := chkUs_all.1 hc u hu
  have h2 := List.all_eq_true.1 ho u hu
  simp only [Bool.and_eq_true, beq_iff_eq] at h2
  rcases List.mem_cons.1 hx with rfl | hx
  · exact h
  · obtain rfl : x = (endU loop u).p := by simpa using hx
    obtain ⟨k1, k2, k3⟩ := chkK_zero h
    change chkRow u.key = 0 at k1
    change chkRow u.row = 0 at k2
    show chkK ⟨u.key, u.row, lat loop u.t⟩ = 0
    unfold chkK orI
    dsimp only
    rw [k1, k2, h2.2]
    rfl
theorem out_chk {L : List (Uk × Int)} {out : List Up} (hR : ∀ x ∈ L, UkR x.1) (h : out.map Up.p = nz Uk.cmp L) : chkUs out = 0 := chkUs_all.2 fun u hu => by
  have : u.p ∈ nz Uk.cmp L := by rw [← h]; exact List.mem_map.2 ⟨u, hu, rfl⟩
  exact nz_right (R := UkR) hR _ this
def still (l : List Up) : Prop := ∀ u ∈ l, u.t.a = 0 ∧ u.t.b = 0
/-- the time of an epoch, and a round of the loop -/
def atR (loop : Int) (e r : Nat) : Tm := if loop = 0 then ⟨e, r, 0⟩ else ⟨e, 0, r⟩
theorem rounds_first {loop : Int} {l i : List Up} (e : Nat) (hs : still l) (hc : chkUs l = 0) (ho : entOk loop l = true) (hi : i.map Up.p = nz Uk.cmp (entP loop l)) : atL i ⟨e, 0, 0⟩ = atL l ⟨e, 0, 0⟩ ∧ atE i ⟨e, 0, 0⟩ = atE l ⟨e, 0, 0⟩ := by
  have hR := ent_right hc ho
  refine at_eq (out_chk hR hi) hc fun r => ?_
  rw [at_sum, at_sum, hi, psum_nz uk_lin _ hR, psum_ent_first]
  intro u hu
  have := hs u hu
  have hle : (lat loop u.t).le ⟨e, 0, 0⟩ = false := by
    unfold lat Tm.le
    split <;> simp
  show ((lat loop u.t).le ⟨e, 0, 0⟩ && _) = false
  rw [hle]
  rfl
theorem rounds_later {loop : Int} {l i : List Up} (e r : Nat) (hr : 1 ≤ r) (hs : still l) (hc : chkUs l = 0) (ho : entOk loop l = true) (hi : i.map Up.p = nz Uk.cmp (entP loop l)) : atL i (atR loop e r) = [] := by
  have hR := ent_right hc ho
  refine at_none (out_chk hR hi) fun q => ?_
  rw [at_sum, hi, psum_nz uk_lin _ hR, psum_ent_none _ loop l ho]
  intro u hu
  have := hs u hu
  have hle : (lat loop u.t).le (atR loop e r) = u.t.le (atR loop e r) := by
    obtain ⟨h1, h2⟩ := this
    unfold lat atR Tm.le
    split
    · simp only [h1, h2]
      have q1 : decide (0 ≤ r) = true := by simp
      have q2 : decide (0 + 1 ≤ r) = true := by simp; omega
      simp [q1, q2, hr]
    · simp only [h1, h2]
      simp [hr]
  show ((lat loop u.t).le (atR loop e r) && _) = (u.t.le (atR loop e r) && _)
  rw [hle]
  rfl
theorem lev_sum (loop : Int) (k : Uk) : ∀ l : List Up, sumOf Uk.cmp (levP loop l) k = psum (fun x : Uk => decide (Uk.cmp ⟨x.key, x.row, lev loop x.t⟩ k = 0)) (l.map Up.p)
  | [] => rfl
  | u :: l => by
    have ih := lev_sum loop k l
    show sumOf Uk.cmp (((⟨u.key, u.row, lev loop u.t⟩ : Uk), u.d) :: levP loop l) k = _
    rw [List.map_cons]
    simp only [sumOf, psum, ih, decide_eq_true_eq]
    rfl
theorem rounds_leave {loop : Int} (hl : loop = 0 ∨ loop = 1) {l i : List Up} (hs : still l) (hc : chkUs l = 0) (ho : entOk loop l = true) (hi : i.map Up.p = nz Uk.cmp (entP loop l)) : chkL loop 1 i = 0 ∧ fitP (levP loop i) = true ∧ nz Uk.cmp (levP loop i) = [] := by
  have hR := ent_right hc ho
  have hci := out_chk hR hi
  have hRl : ∀ x ∈ levP loop i, UkR x.1 := fun x hx => by
    unfold levP at hx
    obtain ⟨u, hu, rfl⟩ := List.mem_map.1 hx
    obtain ⟨k1, k2, k3⟩ := chkK_zero (chkUs_all.1 hci u hu)
    change chkRow u.key = 0 at k1
    change chkRow u.row = 0 at k2
    show chkK ⟨u.key, u.row, lev loop u.t⟩ = 0
    unfold chkK orI
    dsimp only
    rw [k1, k2, lev_chk loop (t := u.t) k3]
    rfl
  have hz : nz Uk.cmp (levP loop i) = [] := nz_none uk_lin hRl fun k => by
    rw [lev_sum, hi, psum_nz uk_lin _ hR, psum_ent_none _ loop l ho]
    intro u hu
    have : lev loop (lat loop u.t) = lev loop u.t := by unfold lev lat; split <;> rfl
    show decide (Uk.cmp ⟨u.key, u.row, lev loop (lat loop u.t)⟩ k = 0) = decide (Uk.cmp ⟨u.key, u.row, lev loop u.t⟩ k = 0)
    rw [this]
  refine ⟨?_, by unfold fitP; rw [fit_all, hz]; rfl, hz⟩
  unfold chkL
  rw [if_pos hci, if_neg (by omega)]
end Go.Proofs.YtcfldgncmbcpmaaGreat
namespace Go.Proofs.YtcfldgncmbcpmaaGreat
open Go Go.RowKit Go.ChangeShapes Go.WideShapes Go.ChangeAt Go.Deep

section
variable {H : Type} {enc : TypeId × Value → H} {P : Program} {w : World} {base : Nat} {spare : Nat → Bool} {held : Bool}
/-- the slice, its list; and what its reading tells of its length -/
theorem open_list_at {α : Type} [Inhabited α] {size : Nat} {cells : α → List Value} {OK : α → Prop} {t e : TypeId} (ht : P.underlying t = some (.slice e)) (hc : P.cellsOf e = size) (hpos : 0 < size) (hcl : ∀ x, (cells x).length = size)
    (dec : ∀ {n : Nat} {cs : List Value} {x : DataW H × List MemPlace}, DataW.trod enc P w base spare held n e cs = some x → ∃ a, cs = cells a ∧ OK a)
    {fuel : Nat} {cs : List Value} {x : DataW H × List MemPlace} (hf : DataW.trod enc P w base spare held fuel t cs = some x) :
    ∃ (A : Option Addr) (c : Nat) (l : List α), cs = [.slice A l.length c] ∧ l.length ≤ c ∧ c ≤ maxLen ∧ Lies size cells w w.heap.size A l ∧ (∀ a ∈ l, OK a) ∧ (x.1 = .nil ∧ l = [] ∧ c = 0 ∨ ∃ es sp, x.1 = .slice es sp ∧ es.length = l.length) := by
  rcases open_slice ht hf with ⟨e, hx⟩ | ⟨a, len, cap, m, n, D, Pl, e, hb, hl, hm, hmm, hx, hi⟩
  · subst e hx
    exact ⟨none, 0, [], rfl, by simp, by unfold maxLen; omega, fun h => absurd h (by simp), fun a ha => (by cases ha), .inl ⟨rfl, rfl, rfl⟩⟩
  · subst e hx
    obtain ⟨n0, rfl⟩ : ∃ n0, n0 = len := ⟨_, rfl⟩
    obtain ⟨c0, rfl⟩ : ∃ c0, c0 = cap := ⟨_, rfl⟩
    have hlm : n0 ≤ m := by rw [hmm]; split <;> omega
    rw [hc] at hi
    have hT : ∀ i, ∃ x : α, i < n0 → OK x ∧ ∀ (j : Nat) (u : Value), (cells x)[j]? = some u → w.cell? ((a.add (i * size)).add j) = some u := by
      intro i
      by_cases hil : i < n0
      · obtain ⟨cs', hcs, htr⟩ := hi i (by omega)
        obtain ⟨x, rfl, hok⟩ := dec htr
        obtain ⟨_, _, hat⟩ := World.cells?_some hcs
        refine ⟨x, fun _ => ⟨hok, fun j u hj => ?_⟩⟩
        have hjs : j < size := by have := (List.getElem?_eq_some_iff.1 hj).1; rw [hcl] at this; exact this
        rw [hat j hjs]
        exact hj
      · exact ⟨default, fun h => absurd h hil⟩
    obtain ⟨f, hf'⟩ : ∃ f : Nat → α, ∀ i, i < n0 → OK (f i) ∧ ∀ (j : Nat) (u : Value), (cells (f i))[j]? = some u → w.cell? ((a.add (i * size)).add j) = some u :=
      ⟨fun i => Classical.choose (hT i), fun i => Classical.choose_spec (hT i)⟩
    clear hT
    have hlen : ((List.range n0).map f).length = n0 := by simp
    refine ⟨some a, c0, (List.range n0).map f, by rw [hlen], by rw [hlen]; exact hl, hm, fun hp => ?_, fun x hx => ?_, .inr ⟨_, _, rfl, by simp⟩⟩
    · rw [hlen] at hp
      have hz : ((a.add (0 * size)).add 0) = a := by unfold Addr.add; simp
      obtain ⟨v0, h0⟩ : ∃ v0, w.cell? a = some v0 := by
        have h1 : 0 < (cells (f 0)).length := by rw [hcl]; exact hpos
        have := (hf' 0 hp).2 0 _ (List.getElem?_eq_getElem h1)
        rw [hz] at this
        exact ⟨_, this⟩
      have hspot : a.spot = none := by
        cases hs : a.spot with
        | none => rfl
        | some s =>
          unfold World.cell? at h0
          rw [hs] at h0
          split at h0 <;> simp at h0
      obtain ⟨b, o, sp⟩ := a
      simp only at hspot
      subst hspot
      have hadd : ∀ k j, ((⟨b, o, none⟩ : Addr).add k).add j = ⟨b, o + k + j, none⟩ := fun k j => by unfold Addr.add; split <;> split <;> simp_all
      refine ⟨b, o, rfl, World.block_lt_of_cell? w _ h0, fun i x hit j u hj => ?_⟩
      have hil : i < n0 := by have := (List.getElem?_eq_some_iff.1 hit).1; omega
      have hti : f i = x := by simpa [hil] using hit
      subst hti
      have := (hf' i hil).2 j u hj
      rwa [hadd] at this
    · obtain ⟨i, hi1, rfl⟩ := List.mem_map.1 hx
      exact (hf' i (List.mem_range.1 hi1)).1
theorem open_list {α : Type} [Inhabited α] {size : Nat} {cells : α → List Value} {OK : α → Prop} {t e : TypeId} (ht : P.underlying t = some (.slice e)) (hc : P.cellsOf e = size) (hpos : 0 < size) (hcl : ∀ x, (cells x).length = size)
    (dec : ∀ {n : Nat} {cs : List Value} {x : DataW H × List MemPlace}, DataW.trod enc P w base spare held n e cs = some x → ∃ a, cs = cells a ∧ OK a)
    {v : Value} {d : DataW H} {p : List MemPlace} {r : Reach} {b0 : Nat} (hv : Value.okWide P w r b0 t v) (h : DataW.Trod enc P w base spare held t v d p) :
    ∃ (A : Option Addr) (c : Nat) (l : List α), v = .slice A l.length c ∧ l.length ≤ c ∧ c ≤ maxLen ∧ Lies size cells w w.heap.size A l ∧ (∀ a ∈ l, OK a) ∧ (d = .nil ∧ l = [] ∧ c = 0 ∨ ∃ es sp, d = .slice es sp ∧ es.length = l.length) := by
  obtain ⟨a0, n0, c0, rfl⟩ := okWide_slice ht hv
  obtain ⟨fuel, hf⟩ := h
  obtain ⟨A, c, l, e, h1⟩ := open_list_at ht hc hpos hcl dec hf
  exact ⟨A, c, l, by simpa [Value.cells] using e, h1⟩
end
end Go.Proofs.YtcfldgncmbcpmaaGreat
namespace Go.Proofs.YtcfldgncmbcpmaaGreat
open Go
variable {H : Type}
theorem bulk_pos (d : DataW H) : 1 ≤ Rows.uptoBulk d := by
  cases d with
  | lit l => cases l <;> simp [Rows.uptoBulk]
  | nil => simp [Rows.uptoBulk]
  | ptr d => simp [Rows.uptoBulk]
  | slice es sp => simp [Rows.uptoBulk]
  | agg ps => simp [Rows.uptoBulk]
  | iface t d => simp [Rows.uptoBulk]
  | map es => simp [Rows.uptoBulk]
  | held h => simp [Rows.uptoBulk]
theorem bulk_all : ∀ es : List (DataW H), es.length ≤ Rows.uptoBulkAll es
  | [] => by simp
  | d :: r => by
    have := bulk_all r
    have := bulk_pos d
    simp only [List.length_cons, Rows.uptoBulkAll]
    omega
theorem bulk_slice (es sp : List (DataW H)) : es.length ≤ Rows.uptoBulk (.slice es sp) := by
  have := bulk_all es
  simp only [Rows.uptoBulk]
  omega
end Go.Proofs.YtcfldgncmbcpmaaGreat
namespace Go.Proofs.YtcfldgncmbcpmaaGreat
open Go Go.RowKit Go.ChangeShapes Go.WideShapes Go.ChangeAt Go.Deep

section
variable {H : Type} {enc : TypeId × Value → H} {P : Program} {w : World} {base : Nat} {spare : Nat → Bool} {held : Bool}
theorem lies_gen {α : Type} {size : Nat} {cells : α → List Value} (hcl : ∀ x, 0 < (cells x).length) {len : Nat} {a : Addr} {f : Nat → α} (hp : 0 < len) (hf : ∀ i, i < len → ∀ (j : Nat) (u : Value), (cells (f i))[j]? = some u → w.cell? ((a.add (i * size)).add j) = some u) :
    Lies size cells w w.heap.size (some a) ((List.range len).map f) := fun _ => by
  have hz : ((a.add (0 * size)).add 0) = a := by unfold Addr.add; simp
  obtain ⟨v0, h0⟩ : ∃ v0, w.cell? a = some v0 := by
    have := hf 0 hp 0 _ (List.getElem?_eq_getElem (hcl (f 0)))
    rw [hz] at this
    exact ⟨_, this⟩
  have hspot : a.spot = none := by
    cases hs : a.spot with
    | none => rfl
    | some s =>
      unfold World.cell? at h0
      rw [hs] at h0
      split at h0 <;> simp at h0
  obtain ⟨b, o, sp⟩ := a
  simp only at hspot
  subst hspot
  have hadd : ∀ k j, ((⟨b, o, none⟩ : Addr).add k).add j = ⟨b, o + k + j, none⟩ := fun k j => by unfold Addr.add; split <;> split <;> simp_all
  refine ⟨b, o, rfl, World.block_lt_of_cell? w _ h0, fun i x hit j u hj => ?_⟩
  have hil : i < len := by have := (List.getElem?_eq_some_iff.1 hit).1; simpa using this
  have hti : f i = x := by simpa [hil] using hit
  subst hti
  have := hf i hil j u hj
  rwa [hadd] at this
theorem bulk_sum : ∀ es : List (DataW H × List MemPlace), (es.map (fun z => Rows.uptoBulk z.1)).sum = Rows.uptoBulkAll (es.map (·.1))
  | [] => by simp [Rows.uptoBulkAll]
  | x :: es => by simp only [List.map_cons, List.sum_cons, Rows.uptoBulkAll]; rw [bulk_sum es]
theorem mem_le_sum : ∀ {bs : List Nat} {b : Nat}, b ∈ bs → b ≤ bs.sum
  | [], _, h => by cases h
  | x :: bs, b, h => by
    rw [List.sum_cons]
    rcases List.mem_cons.1 h with rfl | h
    · omega
    · have := mem_le_sum h; omega
theorem len_le_sum : ∀ {bs : List Nat}, (∀ b ∈ bs, 1 ≤ b) → bs.length ≤ bs.sum
  | [], _ => Nat.le_refl _
  | x :: bs, h => by
    have h1 := h x (by simp)
    have h2 := len_le_sum (bs := bs) fun b hb => h b (by simp [hb])
    rw [List.sum_cons, List.length_cons]
    omega
theorem sum_pair {α : Type} {g : α → Nat} : ∀ (l : List α) (bs : List Nat), bs.length = l.length → (∀ (i : Nat) (a : α), l[i]? = some a → ∃ b, bs[i]? = some b ∧ g a ≤ b) → (l.map g).sum ≤ bs.sum
  | [], _, _, _ => Nat.zero_le _
  | x :: l, [], h, _ => by simp at h
  | x :: l, b :: bs, h, hp => by
    obtain ⟨b', h1, h2⟩ := hp 0 x rfl
    obtain rfl : b = b' := by simpa using h1
    have := sum_pair l bs (by simpa using h) fun i a hi => by
      obtain ⟨b2, h3, h4⟩ := hp (i + 1) a (by simpa using hi)
      exact ⟨b2, by simpa using h3, h4⟩
    simp only [List.map_cons, List.sum_cons]
    omega
/-- the slice, its list, and how much each of its elements tells -/
theorem open_list_bulk {α : Type} [Inhabited α] {size : Nat} {cells : α → List Value} {OK : α → Nat → Prop} {t e : TypeId} {fuel : Nat} (ht : P.underlying t = some (.slice e)) (hc : P.cellsOf e = size) (hcl : ∀ x, 0 < (cells x).length)
    (dec : ∀ {n : Nat} {cs : List Value} {x : DataW H × List MemPlace}, n < fuel → DataW.trod enc P w base spare held n e cs = some x → ∃ a, cs = cells a ∧ OK a (Rows.uptoBulk x.1))
    {cs : List Value} {x : DataW H × List MemPlace} (hf : DataW.trod enc P w base spare held fuel t cs = some x) :
    ∃ (A : Option Addr) (c : Nat) (l : List α) (bs : List Nat), cs = [.slice A l.length c] ∧ l.length ≤ c ∧ c ≤ maxLen ∧ Lies size cells w w.heap.size A l ∧ bs.length = l.length ∧ bs.sum + 1 ≤ Rows.uptoBulk x.1 ∧ (∀ b ∈ bs, 1 ≤ b) ∧
      ∀ (i : Nat) (a : α), l[i]? = some a → ∃ b, bs[i]? = some b ∧ OK a b := by
  rcases DataW.trod_slice ht hf with ⟨h1, h2⟩ | ⟨a, len, cap, elems, rest, n, hfu, h1, h2, hb, hl, hm, hlen, hel, hsp, hns⟩
  · subst h1 h2
    exact ⟨none, 0, [], [], rfl, Nat.le_refl _, Nat.zero_le _, Lies.nil_, rfl, by simp [Rows.uptoBulk], fun b h => (by cases h), fun i a h => (by simp at h)⟩
  · rw [hc] at hel
    have hT : ∀ i, i < len → ∃ y : α, (∃ b, (elems.map (fun z => Rows.uptoBulk z.1))[i]? = some b ∧ OK y b) ∧ ∀ (j : Nat) (u : Value), (cells y)[j]? = some u → w.cell? ((a.add (i * size)).add j) = some u := fun i hi => by
      have h1 := hel i hi
      rw [List.getElem?_eq_getElem (by omega)] at h1
      obtain ⟨cs', h2, h3⟩ := Option.bind_eq_some_iff.1 h1
      obtain ⟨y, rfl, hy⟩ := dec (by omega) h3
      obtain ⟨_, hle2, hat⟩ := World.cells?_some h2
      refine ⟨y, ⟨_, by rw [List.getElem?_map, List.getElem?_eq_getElem (by omega)]; rfl, hy⟩, fun j u hj => ?_⟩
      rw [hat j (by have := (List.getElem?_eq_some_iff.1 hj).1; omega)]
      exact hj
    obtain ⟨f, hf'⟩ := choose_lt hT
    have hle : ((List.range len).map f).length = len := by simp
    refine ⟨some a, cap, (List.range len).map f, elems.map (fun z => Rows.uptoBulk z.1), by rw [hle]; exact h1, by rw [hle]; exact hl, hm, ?_, by rw [hle, List.length_map, hlen], ?_, ?_, ?_⟩
    · by_cases hp : 0 < len
      · exact lies_gen hcl hp fun i hi => (hf' i hi).2
      · exact fun h => by rw [hle] at h; omega
    · rw [h2]
      simp only [Rows.uptoBulk]
      rw [bulk_sum]
      omega
    · intro b hb
      obtain ⟨z, _, rfl⟩ := List.mem_map.1 hb
      exact bulk_pos _
    · intro i y hi
      have hil : i < len := by have := (List.getElem?_eq_some_iff.1 hi).1; simpa using this
      have hti : f i = y := by simpa [hil] using hi
      subst hti
      exact (hf' i hil).1
end
end Go.Proofs.YtcfldgncmbcpmaaGreat
namespace Go.Proofs.YtcfldgncmbcpmaaGreat
open Go Go.RowKit Go.ChangeShapes Go.WideShapes Go.ChangeAt Go.Deep

set_option maxRecDepth 100000
section
variable {H : Type} {enc : TypeId × Value → H} {w : World} {base : Nat} {spare : Nat → Bool} {held : Bool}
theorem wf_nat {n : Int} (h : (Lit.int .u64 n).wf = true) : ∃ m : Nat, n = (m : Int) := by
  have h2 : 0 ≤ n := by
    have : 0 ≤ n ∧ n ≤ 18446744073709551615 := by simpa [Lit.wf, IntKind.min, IntKind.max, IntKind.signed, IntKind.bits] using h
    exact this.1
  exact ⟨n.toNat, (Int.toNat_of_nonneg h2).symm⟩
theorem trod_time {fuel : Nat} {cs : List Value} {x : DataW H × List MemPlace} (h : DataW.trod enc Tryz.prog w base spare held fuel 27 cs = some x) : ∃ t : Tm, cs = t.cells := by
  obtain ⟨xs, n, _, _, hlen, hxs, hf⟩ := DataW.trod_struct Tryz.underlying27 h
  have hc : Tryz.prog.cellsOf 27 = 3 := by kernel_rfl
  have hc1 : Tryz.prog.cellsOf 24 = 1 := by kernel_rfl
  have hc2 : Tryz.prog.cellsOf 25 = 2 := by kernel_rfl
  rw [hc] at hlen
  match cs, hlen with
  | [c0, c1, c2], _ =>
    have h0 := hf 0 _ rfl
    have h1 := hf 1 _ rfl
    match xs, hxs with
    | [y0, y1], _ =>
      simp only [hc1, hc2, List.drop_zero, List.take_succ_cons, List.take_zero, List.drop_succ_cons, List.getElem?_cons_zero, List.getElem?_cons_succ] at h0 h1
      obtain ⟨n0, e0, _, w0⟩ := DataW.trod_int Tryz.underlying24 h0
      obtain ⟨zs, m, _, _, _, hzs, hg⟩ := DataW.trod_array Tryz.underlying25 h1
      match zs, hzs with
      | [z0, z1], _ =>
        have k0 := hg 0 (by omega)
        have k1 := hg 1 (by omega)
        simp only [hc1, Nat.zero_mul, Nat.one_mul, List.drop_zero, List.take_succ_cons, List.take_zero, List.drop_succ_cons, List.getElem?_cons_zero, List.getElem?_cons_succ] at k0 k1
        obtain ⟨n1, e1, _, w1⟩ := DataW.trod_int Tryz.underlying24 k0
        obtain ⟨n2, e2, _, w2⟩ := DataW.trod_int Tryz.underlying24 k1
        obtain ⟨m0, rfl⟩ := wf_nat w0
        obtain ⟨m1, rfl⟩ := wf_nat w1
        obtain ⟨m2, rfl⟩ := wf_nat w2
        obtain rfl := (List.cons.inj e0).1
        obtain rfl := (List.cons.inj e1).1
        obtain rfl := (List.cons.inj e2).1
        exact ⟨⟨m0, m1, m2⟩, rfl⟩
theorem open_time {r : Reach} {b0 : Nat} {v : Value} {d : DataW H} {p : List MemPlace} (hv : Value.okWide Tryz.prog w r b0 27 v) (h : DataW.Trod enc Tryz.prog w base spare held 27 v d p) : ∃ t : Tm, v = t.val := by
  obtain ⟨cs, rfl, hsz⟩ := okWide_struct Tryz.underlying27 hv
  obtain ⟨fuel, hf⟩ := h
  obtain ⟨t, ht⟩ := trod_time hf
  refine ⟨t, ?_⟩
  obtain ⟨l⟩ := cs
  simp only [Value.cells] at ht
  unfold Tm.val
  rw [show l = t.cells from by simpa using ht]
  rfl
/-- the slice, its list; and what its reading tells of its length -/
theorem open_times {v : Value} {d : DataW H} {p : List MemPlace} {r : Reach} {b0 : Nat} (hv : Value.okWide Tryz.prog w r b0 109 v) (h : DataW.Trod enc Tryz.prog w base spare held 109 v d p) :
    ∃ (A : Option Addr) (c : Nat) (l : List Tm), v = .slice A l.length c ∧ l.length ≤ c ∧ c ≤ maxLen ∧ Times w w.heap.size A l ∧ (d = .nil ∧ l = [] ∧ c = 0 ∨ ∃ es sp, d = .slice es sp ∧ es.length = l.length) := by
  obtain ⟨a0, n0, c0, rfl⟩ := okWide_slice Tryz.underlying109 hv
  obtain ⟨fuel, hf⟩ := h
  simp only [Value.cells] at hf
  rcases open_slice Tryz.underlying109 hf with ⟨e, hx⟩ | ⟨a, len, cap, m, n, D, Pl, e, hb, hl, hm, hmm, hx, hi⟩
  · simp only [List.cons.injEq, and_true, Value.slice.injEq] at e
    obtain ⟨rfl, rfl, rfl⟩ := e
    obtain ⟨rfl, _⟩ := Prod.mk.inj hx
    exact ⟨none, 0, [], rfl, by simp, by unfold maxLen; omega, Times.nil_, .inl ⟨rfl, rfl, rfl⟩⟩
  · simp only [List.cons.injEq, and_true, Value.slice.injEq] at e
    obtain ⟨rfl, rfl, rfl⟩ := e
    obtain ⟨rfl, rfl⟩ := Prod.mk.inj hx
    have hlm : n0 ≤ m := by rw [hmm]; split <;> omega
    have hc3 : Tryz.prog.cellsOf 27 = 3 := by kernel_rfl
    rw [hc3] at hi
    have hT : ∀ i, ∃ t : Tm, i < n0 → (w.cell? ((a.add (i * 3)).add 0) = some (.int .u64 (t.e : Int)) ∧ w.cell? ((a.add (i * 3)).add 1) = some (.int .u64 (t.a : Int)) ∧ w.cell? ((a.add (i * 3)).add 2) = some (.int .u64 (t.b : Int))) := by
      intro i
      by_cases hil : i < n0
      · obtain ⟨cs', hcs, htr⟩ := hi i (by omega)
        obtain ⟨t, rfl⟩ := trod_time htr
        obtain ⟨_, _, hat⟩ := World.cells?_some hcs
        exact ⟨t, fun _ => ⟨hat 0 (by omega), hat 1 (by omega), hat 2 (by omega)⟩⟩
      · exact ⟨default, fun h => absurd h hil⟩
    obtain ⟨f, hf'⟩ : ∃ f : Nat → Tm, ∀ i, i < n0 → (w.cell? ((a.add (i * 3)).add 0) = some (.int .u64 ((f i).e : Int)) ∧ w.cell? ((a.add (i * 3)).add 1) = some (.int .u64 ((f i).a : Int)) ∧ w.cell? ((a.add (i * 3)).add 2) = some (.int .u64 ((f i).b : Int))) :=
      ⟨fun i => Classical.choose (hT i), fun i => Classical.choose_spec (hT i)⟩
    clear hT
    have hlen : ((List.range n0).map f).length = n0 := by simp
    refine ⟨some a, c0, (List.range n0).map f, by rw [hlen], by rw [hlen]; exact hl, hm, fun hpos => ?_, .inr ⟨_, _, rfl, by simp⟩⟩
    rw [hlen] at hpos
    have haa : ∀ k, (a.add k).add 0 = a.add k := fun k => by unfold Addr.add; simp
    have hspot : a.spot = none := by
      have hz : ((a.add (0 * 3)).add 0) = a := by rw [haa]; unfold Addr.add; simp
      obtain ⟨v0, h0⟩ : ∃ v0, w.cell? a = some v0 := ⟨_, by have := (hf' 0 hpos).1; rwa [hz] at this⟩
      cases hs : a.spot with
      | none => rfl
      | some s =>
        unfold World.cell? at h0
        rw [hs] at h0
        split at h0 <;> simp at h0
    obtain ⟨b, o, sp⟩ := a
    simp only at hspot
    subst hspot
    have hblk : b < w.heap.size := by
      have hz : (((⟨b, o, none⟩ : Addr).add (0 * 3)).add 0).block = b := by unfold Addr.add; simp
      have := World.block_lt_of_cell? w _ (hf' 0 hpos).1
      rwa [hz] at this
    have hadd : ∀ k j, ((⟨b, o, none⟩ : Addr).add k).add j = ⟨b, o + k + j, none⟩ := fun k j => by unfold Addr.add; split <;> split <;> simp_all
    refine ⟨b, o, rfl, hblk, fun i t hit => ?_⟩
    have hil : i < n0 := by have := (List.getElem?_eq_some_iff.1 hit).1; omega
    have hti : f i = t := by simpa [hil] using hit
    obtain ⟨q0, q1, q2⟩ := hf' i hil
    rw [hadd] at q0 q1 q2
    rw [← hti]
    exact ⟨q0, q1, q2⟩
end
end Go.Proofs.YtcfldgncmbcpmaaGreat
namespace Go.Proofs.YtcfldgncmbcpmaaGreat
open Go Go.RowKit Go.ChangeShapes Go.WideShapes Go.ChangeAt Go.Deep

set_option maxRecDepth 100000
section
variable {H : Type} {enc : TypeId × Value → H} {w : World} {base : Nat} {spare : Nat → Bool} {held : Bool}
set_option maxRecDepth 100000 in
theorem trod_val {fuel : Nat} {cs : List Value} {x : DataW H × List MemPlace} (h : DataW.trod enc Tryz.prog w base spare held fuel 46 cs = some x) : ∃ v : Vl, cs = v.cells ∧ VOk v := by
  obtain ⟨xs, n, _, _, hlen, hxs, hf⟩ := DataW.trod_struct Tryz.underlying46 h
  have hc : Tryz.prog.cellsOf 46 = 3 := by kernel_rfl
  have hcb : Tryz.prog.cellsOf 4 = 1 := by kernel_rfl
  have hci : Tryz.prog.cellsOf 2 = 1 := by kernel_rfl
  have hcs : Tryz.prog.cellsOf 9 = 1 := by kernel_rfl
  rw [hc] at hlen
  match cs, hlen with
  | [c0, c1, c2], _ =>
    have h0 := hf 0 _ rfl
    have h1 := hf 1 _ rfl
    have h2 := hf 2 _ rfl
    match xs, hxs with
    | [y0, y1, y2], _ =>
      simp only [hcb, hci, hcs, List.drop_zero, List.take_succ_cons, List.take_zero, List.drop_succ_cons, List.getElem?_cons_zero, List.getElem?_cons_succ] at h0 h1 h2
      obtain ⟨n0, e0, _⟩ := DataW.trod_bool Tryz.underlying4 h0
      obtain ⟨n1, e1, _, w1⟩ := DataW.trod_int Tryz.underlying2 h1
      obtain ⟨n2, e2, _, w2⟩ := DataW.trod_string Tryz.underlying9 h2
      obtain rfl := (List.cons.inj e0).1
      obtain rfl := (List.cons.inj e1).1
      obtain rfl := (List.cons.inj e2).1
      exact ⟨⟨n0, n1, n2⟩, rfl, w2, wf_i64 w1⟩
/-- a row, and what its reading tells -/
theorem open_rowC {fuel : Nat} {cs : List Value} {x : DataW H × List MemPlace} (h : DataW.trod enc Tryz.prog w base spare held fuel 42 cs = some x) :
    ∃ (A : Option Addr) (c : Nat) (l : List Vl), cs = [.slice A l.length c] ∧ Vals w w.heap.size A l ∧ (∀ v ∈ l, VOk v) ∧ l.length ≤ Rows.uptoBulk x.1 := by
  obtain ⟨A, c, l, bs, e, h1, h2, h3, h4, h5, h6, h7⟩ := open_list_bulk (size := 3) (cells := Vl.cells) (OK := fun v _ => VOk v) Tryz.underlying42 (by kernel_rfl) (fun _ => by simp [Vl.cells]) (fun {n cs x} _ ht => trod_val ht) h
  have := len_le_sum h6
  refine ⟨A, c, l, e, vals_of_lies h3, fun v hv => ?_, by omega⟩
  obtain ⟨i, hi⟩ := List.getElem?_of_mem hv
  exact (h7 i v hi).elim fun _ h => h.2
/-- an update's part of what came in -/
def UIs (w : World) (u : Up) (b : Nat) : Prop := UIn w w.heap.size u ∧ (b ≤ 1048576 → UOk u)
set_option maxRecDepth 100000 in
theorem trod_up {fuel : Nat} {cs : List Value} {x : DataW H × List MemPlace} (h : DataW.trod enc Tryz.prog w base spare held fuel 44 cs = some x) : ∃ u : Up, cs = u.cells ∧ UIs w u (Rows.uptoBulk x.1) := by
  obtain ⟨xs, n, hfu, hx, hlen, hxs, hf⟩ := DataW.trod_struct Tryz.underlying44 h
  have hc : Tryz.prog.cellsOf 44 = 6 := by kernel_rfl
  have hc0 : Tryz.prog.cellsOf 42 = 1 := by kernel_rfl
  have hc1 : Tryz.prog.cellsOf 27 = 3 := by kernel_rfl
  have hc2 : Tryz.prog.cellsOf 2 = 1 := by kernel_rfl
  rw [hc] at hlen
  match cs, hlen with
  | [c0, c1, c2, c3, c4, c5], _ =>
    have h0 := hf 0 _ rfl
    have h1 := hf 1 _ rfl
    have h2 := hf 2 _ rfl
    have h3 := hf 3 _ rfl
    match xs, hxs with
    | [y0, y1, y2, y3], _ =>
      simp only [hc0, hc1, hc2, List.drop_zero, List.take_succ_cons, List.take_zero, List.drop_succ_cons, List.getElem?_cons_zero, List.getElem?_cons_succ] at h0 h1 h2 h3
      obtain ⟨A0, k0, l0, e0, i0, o0, m0⟩ := open_rowC h0
      obtain ⟨A1, k1, l1, e1, i1, o1, m1⟩ := open_rowC h1
      obtain ⟨t, e2⟩ := trod_time h2
      obtain ⟨d, e3, _, w3⟩ := DataW.trod_int Tryz.underlying2 h3
      have hM : Rows.uptoBulk x.1 = Rows.uptoBulk y0.1 + (Rows.uptoBulk y1.1 + (Rows.uptoBulk y2.1 + (Rows.uptoBulk y3.1 + 0))) + 1 := by
        rw [hx]
        simp only [List.map_cons, List.map_nil, Rows.uptoBulk, Rows.uptoBulkAll]
      obtain rfl := (List.cons.inj e0).1
      obtain rfl := (List.cons.inj e1).1
      obtain rfl := (List.cons.inj e3).1
      simp only [Tm.cells, List.cons.injEq, and_true] at e2
      obtain ⟨rfl, rfl, rfl⟩ := e2
      refine ⟨⟨A0, k0, l0, A1, k1, l1, t, d⟩, rfl, ⟨i0, i1⟩, fun hb => ⟨?_, ?_, o0, o1, wf_i64 w3⟩⟩
      · show l0.length ≤ _; omega
      · show l1.length ≤ _; omega
theorem open_upsC {fuel : Nat} {cs : List Value} {x : DataW H × List MemPlace} (h : DataW.trod enc Tryz.prog w base spare held fuel 22 cs = some x) :
    ∃ s : Rw Up, cs = s.cells ∧ s.l.length ≤ s.c ∧ s.c ≤ maxLen ∧ Ups w w.heap.size s.A s.l ∧ (Rows.uptoBulk x.1 ≤ 1048576 → ∀ u ∈ s.l, UOk u) ∧ s.l.length + 1 ≤ Rows.uptoBulk x.1 := by
  obtain ⟨A, c, l, bs, e, h1, h2, h3, h4, h5, h6, h7⟩ := open_list_bulk (size := 6) (cells := Up.cells) (OK := UIs w) Tryz.underlying22 (by kernel_rfl) (fun _ => by simp [Up.cells]) (fun {n cs x} _ ht => trod_up ht) h
  have := len_le_sum h6
  refine ⟨⟨A, c, l⟩, e, h1, h2, ⟨h3, fun u hu => ?_⟩, fun hb u hu => ?_, by show l.length + 1 ≤ _; omega⟩
  · obtain ⟨i, hi⟩ := List.getElem?_of_mem hu
    exact (h7 i u hi).elim fun _ h => h.2.1
  · obtain ⟨i, hi⟩ := List.getElem?_of_mem hu
    obtain ⟨b, hb1, hb2⟩ := h7 i u hi
    have := mem_le_sum (List.mem_of_getElem? hb1)
    exact hb2.2 (by omega)
theorem open_ups {v : Value} {d : DataW H} {p : List MemPlace} {r : Reach} {b0 : Nat} (hv : Value.okWide Tryz.prog w r b0 22 v) (h : DataW.Trod enc Tryz.prog w base spare held 22 v d p) :
    ∃ (A : Option Addr) (c : Nat) (l : List Up), v = .slice A l.length c ∧ l.length ≤ c ∧ c ≤ maxLen ∧ Ups w w.heap.size A l ∧ (Rows.uptoBulk d ≤ 1048576 → ∀ u ∈ l, UOk u) ∧ l.length ≤ Rows.uptoBulk d := by
  obtain ⟨a0, n0, c0, rfl⟩ := okWide_slice Tryz.underlying22 hv
  obtain ⟨fuel, hf⟩ := h
  simp only [Value.cells] at hf
  obtain ⟨⟨A, c, l⟩, e, h1, h2, h3, h4, h5⟩ := open_upsC hf
  exact ⟨A, c, l, by simpa [Rw.cells] using e, h1, h2, h3, h4, Nat.le_of_succ_le h5⟩
theorem sum_len {α : Type} : ∀ {L : List (Rw α)} {bs : List Nat}, bs.length = L.length → (∀ (i : Nat) (s : Rw α), L[i]? = some s → ∃ b, bs[i]? = some b ∧ s.l.length ≤ b) → (flatR L).length ≤ bs.sum := fun {L bs} hl h => by
  have := sum_pair (g := fun s : Rw α => s.l.length) L bs hl h
  unfold flatR
  rw [List.length_flatMap]
  exact this
theorem open_uplists {v : Value} {d : DataW H} {p : List MemPlace} {r : Reach} {b0 : Nat} (hv : Value.okWide Tryz.prog w r b0 93 v) (h : DataW.Trod enc Tryz.prog w base spare held 93 v d p) :
    ∃ (A : Option Addr) (c : Nat) (L : List (Rw Up)), v = .slice A L.length c ∧ L.length ≤ c ∧ c ≤ maxLen ∧ ULs w w.heap.size A L ∧ (Rows.uptoBulk d ≤ 1048576 → ∀ s ∈ L, ∀ u ∈ s.l, UOk u) ∧ (flatR L).length ≤ Rows.uptoBulk d ∧ L.length ≤ Rows.uptoBulk d ∧ ∀ s ∈ L, s.l.length ≤ s.c ∧ s.c ≤ maxLen := by
  obtain ⟨a0, n0, c0, rfl⟩ := okWide_slice Tryz.underlying93 hv
  obtain ⟨fuel, hf⟩ := h
  simp only [Value.cells] at hf
  obtain ⟨A, c, l, bs, e, h1, h2, h3, h4, h5, h6, h7⟩ := open_list_bulk (size := 1) (cells := Rw.cells (α := Up)) (OK := fun s b => s.l.length ≤ s.c ∧ s.c ≤ maxLen ∧ Ups w w.heap.size s.A s.l ∧ (b ≤ 1048576 → ∀ u ∈ s.l, UOk u) ∧ s.l.length + 1 ≤ b) Tryz.underlying93 (by kernel_rfl) (fun _ => by simp [Rw.cells]) (fun {n cs x} _ ht => open_upsC ht) hf
  change bs.sum + 1 ≤ Rows.uptoBulk d at h5
  have hlen := len_le_sum h6
  have hsum := sum_len (L := l) (bs := bs) (α := Up) h4 fun i s hi => by
    obtain ⟨b, hb, hs⟩ := h7 i s hi
    exact ⟨b, hb, by omega⟩
  refine ⟨A, c, l, by simpa using e, h1, h2, ⟨h3, fun s hs => ?_⟩, fun hb s hs => ?_, by omega, by omega, fun s hs => ?_⟩
  · obtain ⟨i, hi⟩ := List.getElem?_of_mem hs
    exact (h7 i s hi).elim fun _ h => h.2.2.2.1
  · obtain ⟨i, hi⟩ := List.getElem?_of_mem hs
    obtain ⟨b, hb1, hb2⟩ := h7 i s hi
    have := mem_le_sum (List.mem_of_getElem? hb1)
    exact hb2.2.2.2.1 (by omega)
  · obtain ⟨i, hi⟩ := List.getElem?_of_mem hs
    exact (h7 i s hi).elim fun _ h => ⟨h.2.1, h.2.2.1⟩
end
end Go.Proofs.YtcfldgncmbcpmaaGreat
namespace Go.Proofs.YtcfldgncmbcpmaaGreat
open Go Go.RowKit Go.ChangeShapes Go.WideShapes Go.ChangeAt Go.Deep

/-- a plan as it lies, without what its kids are -/
structure Pf where
  k : Int
  n : Int
  A1 : Option Addr
  l1 : Nat
  c1 : Nat
  A2 : Option Addr
  c2 : Nat
  es : List Lx
  A3 : Option Addr
  l3 : Nat
  c3 : Nat
  A4 : Option Addr
  l4 : Nat
  c4 : Nat
  a : Int
  r : Int
def Pf.cells (q : Pf) : List Value := [.int .u8 q.k, .int .i64 q.n, .slice q.A1 q.l1 q.c1, .slice q.A2 q.es.length q.c2, .slice q.A3 q.l3 q.c3, .slice q.A4 q.l4 q.c4, .int .u8 q.a, .int .i64 q.r]
def Pf.val (q : Pf) : Value := .agg #[.int .u8 q.k, .int .i64 q.n, .slice q.A1 q.l1 q.c1, .slice q.A2 q.es.length q.c2, .slice q.A3 q.l3 q.c3, .slice q.A4 q.l4 q.c4, .int .u8 q.a, .int .i64 q.r]
def PfFine (w : World) (q : Pf) : Prop := (0 ≤ q.k ∧ q.k ≤ 255) ∧ Exs w w.heap.size q.A2 q.es
section
variable {H : Type} {enc : TypeId × Value → H} {w : World} {base : Nat} {spare : Nat → Bool} {held : Bool}
theorem slice_head {P : Program} {t e : TypeId} {fuel : Nat} {cs : List Value} {x : DataW H × List MemPlace} (ht : P.underlying t = some (.slice e)) (h : DataW.trod enc P w base spare held fuel t cs = some x) : ∃ (A : Option Addr) (n c : Nat), cs = [.slice A n c] := by
  rcases DataW.trod_slice ht h with ⟨h1, h2⟩ | ⟨a, len, cap, elems, rest, n, hfu, h1, h2, hb, hl, hm, hlen, hel, hsp, hns⟩
  · exact ⟨_, _, _, h1⟩
  · exact ⟨_, _, _, h1⟩
def LxFineL (w : World) (e : Lx) : Prop := ∀ k, LxOk k e ∧ LxIn w w.heap.size k e
set_option maxRecDepth 100000 in
theorem trod_exprL : ∀ (N fuel : Nat), fuel < N → ∀ {cs : List Value} {x : DataW H × List MemPlace}, DataW.trod enc Tryz.prog w base spare held fuel 141 cs = some x → ∃ e : Lx, cs = e.cells ∧ LxFineL w e
  | 0, _, h, _, _, _ => absurd h (Nat.not_lt_zero _)
  | N + 1, fuel, hN, cs, x, h => by
    obtain ⟨xs, n, hfu, _, hlen, hxs, hf⟩ := DataW.trod_struct Tryz.underlying141 h
    have hc : Tryz.prog.cellsOf 141 = 6 := by kernel_rfl
    have hco : Tryz.prog.cellsOf 139 = 1 := by kernel_rfl
    have hci : Tryz.prog.cellsOf 3 = 1 := by kernel_rfl
    have hcv : Tryz.prog.cellsOf 46 = 3 := by kernel_rfl
    have hcs : Tryz.prog.cellsOf 33 = 1 := by kernel_rfl
    rw [hc] at hlen
    match cs, hlen with
    | [c0, c1, c2, c3, c4, c5], _ =>
      have h0 := hf 0 _ rfl
      have h1 := hf 1 _ rfl
      have h2 := hf 2 _ rfl
      have h3 := hf 3 _ rfl
      match xs, hxs with
      | [y0, y1, y2, y3], _ =>
        simp only [hco, hci, hcv, hcs, List.drop_zero, List.take_succ_cons, List.take_zero, List.drop_succ_cons, List.getElem?_cons_zero, List.getElem?_cons_succ] at h0 h1 h2 h3
        obtain ⟨n0, e0, _, w0⟩ := DataW.trod_int Tryz.underlying139 h0
        obtain ⟨n1, e1, _, w1⟩ := DataW.trod_int Tryz.underlying3 h1
        obtain ⟨v, e2, hv⟩ := trod_val h2
        obtain ⟨A3, k3, l3, bs3, e3, a3, b3, i3, q3, s3, p3, o3⟩ := open_list_bulk (size := 6) (cells := Lx.cells) (OK := fun e _ => LxFineL w e) Tryz.underlying33 (by kernel_rfl) (fun _ => by simp [Lx.cells]) (fun {n' cs x} hn ht => trod_exprL N n' (by omega) ht) h3
        obtain rfl := (List.cons.inj e0).1
        obtain rfl := (List.cons.inj e1).1
        obtain rfl := (List.cons.inj e3).1
        simp only [Vl.cells, List.cons.injEq, and_true] at e2
        obtain ⟨rfl, rfl, rfl⟩ := e2
        have hk : ∀ e ∈ l3, LxFineL w e := fun e he => by
          obtain ⟨i, hi⟩ := List.getElem?_of_mem he
          obtain ⟨_, _, hb⟩ := o3 i e hi
          exact hb
        refine ⟨.mk n0 n1 v A3 k3 l3, rfl, fun k => ?_⟩
        cases k with
        | zero => exact ⟨trivial, trivial⟩
        | succ k => exact ⟨⟨hv, wf_u8 w0, wf_i64 w1, Nat.le_trans a3 b3, fun y hy => (hk y hy k).1⟩, i3, fun y hy => (hk y hy k).2⟩
set_option maxRecDepth 100000 in
theorem trod_planf {fuel : Nat} {cs : List Value} {x : DataW H × List MemPlace} (h : DataW.trod enc Tryz.prog w base spare held fuel 37 cs = some x) : ∃ q : Pf, cs = q.cells ∧ PfFine w q := by
  obtain ⟨xs, n, hfu, hx, hlen, hxs, hf⟩ := DataW.trod_struct Tryz.underlying37 h
  have hc : Tryz.prog.cellsOf 37 = 8 := by kernel_rfl
  have hc0 : Tryz.prog.cellsOf 31 = 1 := by kernel_rfl
  have hc1 : Tryz.prog.cellsOf 3 = 1 := by kernel_rfl
  have hc2 : Tryz.prog.cellsOf 32 = 1 := by kernel_rfl
  have hc3 : Tryz.prog.cellsOf 33 = 1 := by kernel_rfl
  have hc4 : Tryz.prog.cellsOf 34 = 1 := by kernel_rfl
  have hc6 : Tryz.prog.cellsOf 35 = 1 := by kernel_rfl
  rw [hc] at hlen
  match cs, hlen with
  | [c0, c1, c2, c3, c4, c5, c6, c7], _ =>
    have h0 := hf 0 _ rfl
    have h1 := hf 1 _ rfl
    have h2 := hf 2 _ rfl
    have h3 := hf 3 _ rfl
    have h4 := hf 4 _ rfl
    have h5 := hf 5 _ rfl
    have h6 := hf 6 _ rfl
    have h7 := hf 7 _ rfl
    match xs, hxs with
    | [y0, y1, y2, y3, y4, y5, y6, y7], _ =>
      simp only [hc0, hc1, hc2, hc3, hc4, hc6, List.drop_zero, List.take_succ_cons, List.take_zero, List.drop_succ_cons, List.getElem?_cons_zero, List.getElem?_cons_succ] at h0 h1 h2 h3 h4 h5 h6 h7
      obtain ⟨n0, e0, _, w0⟩ := DataW.trod_int Tryz.underlying31 h0
      obtain ⟨n1, e1, _, w1⟩ := DataW.trod_int Tryz.underlying3 h1
      obtain ⟨n6, e6, _, w6⟩ := DataW.trod_int Tryz.underlying35 h6
      obtain ⟨n7, e7, _, w7⟩ := DataW.trod_int Tryz.underlying3 h7
      obtain ⟨A2, l2, k2, e2⟩ := slice_head Tryz.underlying32 h2
      obtain ⟨A4, l4, k4, e4⟩ := slice_head Tryz.underlying34 h4
      obtain ⟨A5, l5, k5, e5⟩ := slice_head Tryz.underlying34 h5
      obtain ⟨A3, k3, l3, bs3, e3, a3, b3, i3, q3, s3, p3, o3⟩ := open_list_bulk (size := 6) (cells := Lx.cells) (OK := fun e _ => LxFineL w e) Tryz.underlying33 (by kernel_rfl) (fun _ => by simp [Lx.cells]) (fun {n' cs x} hn ht => trod_exprL (n' + 1) n' (Nat.lt_succ_self _) ht) h3
      obtain rfl := (List.cons.inj e0).1
      obtain rfl := (List.cons.inj e1).1
      obtain rfl := (List.cons.inj e2).1
      obtain rfl := (List.cons.inj e3).1
      obtain rfl := (List.cons.inj e4).1
      obtain rfl := (List.cons.inj e5).1
      obtain rfl := (List.cons.inj e6).1
      obtain rfl := (List.cons.inj e7).1
      refine ⟨⟨n0, n1, A2, l2, k2, A3, k3, l3, A4, l4, k4, A5, l5, k5, n6, n7⟩, rfl, wf_u8 w0, i3, fun e he => ?_⟩
      obtain ⟨i, hi⟩ := List.getElem?_of_mem he
      obtain ⟨_, _, hb⟩ := o3 i e hi
      exact hb 17
set_option maxRecDepth 100000 in
theorem open_planf {v : Value} {d : DataW H} {p : List MemPlace} {r : Reach} {b0 : Nat} (hv : Value.okWide Tryz.prog w r b0 37 v) (h : DataW.Trod enc Tryz.prog w base spare held 37 v d p) : ∃ q : Pf, v = q.val ∧ PfFine w q := by
  obtain ⟨cs, rfl, hsz⟩ := okWide_struct Tryz.underlying37 hv
  obtain ⟨fuel, hf⟩ := h
  obtain ⟨e, he, hok⟩ := trod_planf hf
  refine ⟨e, ?_, hok⟩
  obtain ⟨l⟩ := cs
  simp only [Value.cells] at he
  unfold Pf.val
  rw [show l = e.cells from by simpa using he]
  rfl
end
end Go.Proofs.YtcfldgncmbcpmaaGreat
namespace Go.Proofs.YtcfldgncmbcpmaaGreat
open Go Go.RowKit

def mkOf (q : Pf) : Mk := if q.k = 3 then mkMap q.es else if q.k = 4 then mkFil q.es else if q.k = 5 then mkKeep else mkNeg
def isOf (q : Pf) : Prop := q.k = 3 ∨ q.k = 4 ∨ q.k = 5 ∨ q.k = 6
/-- what Do tells of any plan -/
def AnySays (q : Pf) (l : List Up) (w : World) (x : Ending) (w' : World) : Prop :=
  ∃ A c, ∃ outL : List Up, ∃ t : Tm, ∃ E : Int, x = .returned (.tuple #[.slice A outL.length c, .agg #[.int .u64 (t.e : Int), .int .u64 (t.a : Int), .int .u64 (t.b : Int)], .int .i64 E]) ∧ (E = 0 → isOf q ∧ chkUs l = 0 ∧ okAll (mkOf q) l = true ∧ fitP (l.map (madeP (mkOf q))) = true ∧ outL.map Up.p = nz Uk.cmp (l.map (madeP (mkOf q)))) ∧
    Ups w' w'.heap.size A outL ∧ (∀ u ∈ outL, UOk u) ∧ Below w.heap.size w w' ∧ (∀ b o, A = some ⟨b, o, none⟩ → w.heap.size ≤ b) ∧ (∀ u ∈ outL, Awn (fun b => w.heap.size ≤ b) u) ∧ outL.length ≤ l.length
theorem any_of {q : Pf} {mk : Mk} {l : List Up} {w : World} {x : Ending} {w' : World} (hk : isOf q) (hm : mkOf q = mk) (h : DoSays mk l w x w') : AnySays q l w x w' := by
  obtain ⟨A, c, outL, t, E, h1, h2, h3, h4⟩ := h
  refine ⟨A, c, outL, t, E, h1, fun e => ?_, h4⟩
  rw [hm]
  obtain ⟨k1, k2, k3⟩ := h2.1 e
  exact ⟨hk, k1, k2, k3, (h3 e).1⟩
theorem do_any (q : Pf) (A : Option Addr) (c : Nat) (l : List Up) (w : World) (hq : 0 ≤ q.k ∧ q.k ≤ 255) (hx : Exs w w.heap.size q.A2 q.es) (hl : Ups w w.heap.size A l) (hok : ∀ u ∈ l, UOk u) (hn : l.length ≤ 1099511627776) :
    Calls Tryz.prog 8 #[.agg #[.int .u8 q.k, .int .i64 q.n, .slice q.A1 q.l1 q.c1, .slice q.A2 q.es.length q.c2, .slice q.A3 q.l3 q.c3, .slice q.A4 q.l4 q.c4, .int .u8 q.a, .int .i64 q.r], .slice A l.length c] w (AnySays q l w) := by
  by_cases h3 : q.k = 3
  · rw [h3]
    exact (do_mapped q.n q.a q.r q.A1 q.A2 q.A3 q.A4 q.l1 q.l3 q.l4 q.c1 q.c2 q.c3 q.c4 q.es A c l w hx hl hok hn).mono fun x w' h => any_of (.inl h3) (by unfold mkOf; rw [if_pos h3]) h
  by_cases h4 : q.k = 4
  · rw [h4]
    exact (do_filtered q.n q.a q.r q.A1 q.A2 q.A3 q.A4 q.l1 q.l3 q.l4 q.c1 q.c2 q.c3 q.c4 q.es A c l w hx hl hok hn).mono fun x w' h => any_of (.inr (.inl h4)) (by unfold mkOf; rw [if_neg h3, if_pos h4]) h
  by_cases h5 : q.k = 5
  · rw [h5]
    exact (do_kept q.n q.a q.r q.A1 q.A2 q.A3 q.A4 q.l1 q.es.length q.l3 q.l4 q.c1 q.c2 q.c3 q.c4 A c l w hl hok hn).mono fun x w' h => any_of (.inr (.inr (.inl h5))) (by unfold mkOf; rw [if_neg h3, if_neg h4, if_pos h5]) h
  by_cases h6 : q.k = 6
  · rw [h6]
    exact (do_negated q.n q.a q.r q.A1 q.A2 q.A3 q.A4 q.l1 q.es.length q.l3 q.l4 q.c1 q.c2 q.c3 q.c4 A c l w hl hok hn).mono fun x w' h => any_of (.inr (.inr (.inr h6))) (by unfold mkOf; rw [if_neg h3, if_neg h4, if_neg h5]) h
  refine (do_other q.k q.n q.a q.r hq (by unfold mkF; rw [if_neg h3, if_neg h4, if_neg h5, if_neg h6]) q.A1 q.A2 q.A3 q.A4 q.l1 q.es.length q.l3 q.l4 q.c1 q.c2 q.c3 q.c4 A c l w hl hok hn).mono fun x w' ⟨h1, h2⟩ => ?_
  refine ⟨none, 0, [], ⟨0, 0, 0⟩, _, h1, fun e => ?_, ⟨Lies.nil_, fun u hu => (by cases hu)⟩, fun u hu => (by cases hu), h2, fun b o e => (by cases e), fun u hu => (by cases hu), Nat.zero_le _⟩
  split at e
  · omega
  · rename_i hc; exact absurd e hc
theorem mkOf_row {q : Pf} {l : List Up} (ho : ∀ e ∈ q.es, LxOk 17 e) (hu : ∀ u ∈ l, UOk u) (hc : chkUs l = 0) : ∀ u ∈ l, chkRow (mkOf q u).1 = 0 := fun u h => by
  have hr := keep_row hc u h
  unfold mkOf
  split
  · exact vals_row (hu u h).rs ho
  · split
    · exact hr
    · split
      · exact hr
      · exact hr
theorem chk_app {a b : List Up} (h : chkUs (a ++ b) = 0) : chkUs a = 0 ∧ chkUs b = 0 :=
  ⟨chkUs_all.2 fun u hu => chkUs_all.1 h u (List.mem_append_left _ hu), chkUs_all.2 fun u hu => chkUs_all.1 h u (List.mem_append_right _ hu)⟩
theorem parts_same {mk : Mk} {a b x y z : List Up} (hr : ∀ u ∈ a ++ b, chkRow (mk u).1 = 0) (hc : chkUs (a ++ b) = 0) (hf : fitP ((a ++ b).map (madeP mk)) = true) (hx : x.map Up.p = nz Uk.cmp (a.map (madeP mk))) (hy : y.map Up.p = nz Uk.cmp (b.map (madeP mk))) (hz : z.map Up.p = nz Uk.cmp ((a ++ b).map (madeP mk))) :
    consE [x, y] = 0 ∧ consL [x, y] = z.map Up.p := by
  obtain ⟨ca, cb⟩ := chk_app hc
  have Ra := made_right (mk := mk) (fun u hu => hr u (List.mem_append_left _ hu)) ca
  have Rb := made_right (mk := mk) (fun u hu => hr u (List.mem_append_right _ hu)) cb
  have Rz := made_right (mk := mk) hr hc
  have cx := out_chk Ra hx
  have cy := out_chk Rb hy
  have hch : chkLs [x, y] = 0 := chkLs_all.2 fun l hl => by
    rcases List.mem_cons.1 hl with rfl | hl
    · exact cx
    · obtain rfl : l = y := by simpa using hl
      exact cy
  have hR : ∀ p ∈ ((x ++ y).map Up.p), UkR p.1 := fun p hp => by
    rw [List.map_append, hx, hy] at hp
    rcases List.mem_append.1 hp with hp | hp
    · exact nz_right (R := UkR) Ra p hp
    · exact nz_right (R := UkR) Rb p hp
  have hext := resL_ext uk_lin hR Rz fun k => by
    rw [List.map_append, sumOf_append, hx, hy, nz_sum uk_lin, nz_sum uk_lin, List.map_append, sumOf_append]
  have hE0 : resE Uk.cmp ((a ++ b).map (madeP mk)) = 0 := by unfold resE; unfold fitP at hf; rw [if_pos hf]
  unfold consE consL
  rw [if_pos hch, if_pos hch]
  simp only [List.flatten_cons, List.flatten_nil, List.append_nil]
  rw [hext.1, hext.2, hz]
  exact ⟨hE0, (resE_zero hE0).1⟩
end Go.Proofs.YtcfldgncmbcpmaaGreat
namespace Go.Proofs.YtcfldgncmbcpmaaGreat
open Go Go.RowKit

/-- 'append(v, s...)' as a step of a region that draws its order, s nil or not -/
theorem step_append_any {α : Type} {size : Nat} {cells : α → List Value} {B : Nat} {A : Option Addr} {l : List α} {P : Program} (w : World) {ops : Array Oper} {o : Oper} {a : Act} {K : Act → World → Prop} {Q : Exit → Act → World → Prop} {E : Prop} (hgd : o.guard = none) (s x : Operand) (t e : TypeId)
    (ho : o.op = .call { callee := .builtin .append, args := #[s, x], argTypes := #[t, t] })
    (i0 : TypeInfo) (z : Value) (bytes : Nat) (ht : P.underlying t = some (.slice e)) (hi : P.info? e = some i0) (hz0 : i0.zero = some z) (hz1 : i0.size = size) (hz2 : i0.bytes = bytes) (hzs : z.cells.size = size) (hpos : 0 < size) (hcl : ∀ x, (cells x).length = size) (hone : ∀ x, ∀ u ∈ cells x, u.oneCell' = true)
    (base : Nat) (v : Value) (n : Nat) (xs : List Value) (hs : a.eval s = v) (hown : w.ownsRow base e size v n xs)
    (c : Nat) (hx : a.eval x = .slice A l.length c) (hl : Lies size cells w B A l) (h63 : n + l.length ≤ maxLen) (hn : (n + l.length) * bytes ≤ 140737488355328) (hbase : base ≤ w.heap.size)
    (h : ∀ v' w', w'.ownsRow base e size v' (n + l.length) (xs ++ l.flatMap cells) → Below base w w' → (v'.ownBlock = v.ownBlock ∨ v'.ownBlock = some w.heap.size) → w.grownBy w' v.ownBlock → K (a.put o.dst v') w') :
    if Region.wanted o (yielded ops a.tmps) = true then Oper.wp P o a w K Q else E := by
  have hw : Region.wanted o (yielded ops a.tmps) = true := by simp [Region.wanted, hgd]
  rw [if_pos hw]
  obtain ⟨v', w', hrun, ho', hb, hob, hgr⟩ : ∃ v' w', (Builtin.append_ #[t, t] o.type #[v, .slice A l.length c]).run P w = .ok v' w' ∧ w'.ownsRow base e size v' (n + l.length) (xs ++ l.flatMap cells) ∧ Below base w w' ∧ (v'.ownBlock = v.ownBlock ∨ v'.ownBlock = some w.heap.size) ∧ w.grownBy w' v.ownBlock := by
    cases A with
    | none =>
      have h0 : l = [] := by
        cases l with
        | nil => rfl
        | cons x l => obtain ⟨_, _, e, _⟩ := hl (by simp); cases e
      subst h0
      exact ⟨v, w, run_append_none w base _ _ _ i0 size ht hi v n xs hown c, by simpa using hown, Below.refl _ _, .inl rfl, ⟨rfl, rfl, rfl, Nat.le_refl _, fun _ _ _ => rfl⟩⟩
    | some ad =>
      have hnews : ∀ j u, (l.flatMap cells)[j]? = some u → w.cell? (ad.add j) = some u := by
        intro j u hu
        obtain ⟨i, r, y, rfl, hi, hr⟩ := flat_back hpos hcl l j u hu
        have hp : 0 < l.length := by have := (List.getElem?_eq_some_iff.1 hi).1; omega
        obtain ⟨b, o, e, _, hc⟩ := hl hp
        obtain rfl : ad = ⟨b, o, none⟩ := by injection e
        have ea : (⟨b, o, none⟩ : Addr).add (i * size + r) = ⟨b, o + i * size + r, none⟩ := by unfold Addr.add; split <;> simp_all <;> omega
        rw [ea]
        exact hc i y hi r u hr
      obtain ⟨v', w', hr, h2, h3, _, h5⟩ := run_append_own_at (P := P) w base t o.type e i0 _ size bytes ht hi hz0 hz1 hz2 hzs hpos v n xs hown ad l.length c (l.flatMap cells) (flat_size hcl l) hnews
        (fun u hu => by obtain ⟨y, _, hy⟩ := List.mem_flatMap.1 hu; exact hone y u hy) h63 hn hbase
      exact ⟨v', w', hr, h2, (Below.refl base w).grown h3 hbase (fun k hk => (hown.lt k hk).1), h5, h3⟩
  unfold Oper.wp execOp
  simp only [ho, resolve, invoke, builtin, Sem.run_bind, Sem.run_pure, Result.andThen_ok, List.map_toArray, List.map_cons, List.map_nil, hs, hx, hrun]
  exact h v' w' ho' hb hob hgr
/-- a time's block, still empty -/
def TT (w : World) (g : Nat) : Prop := Own w g 27 [.int .u64 0, .int .u64 0, .int .u64 0]
theorem TT.made (w : World) : TT (w.alloc (.cells #[.int .u64 0, .int .u64 0, .int .u64 0] 27)) w.heap.size := Own.made w 27 [.int .u64 0, .int .u64 0, .int .u64 0]
theorem TT.app {w w' : World} {g : Nat} {v : Value} (h : TT w g) (hg : w.grownBy w' v.ownBlock) (hne : v.ownBlock ≠ some g) : TT w' g := (hg.block g (Own.inside h) (fun e => hne e.symm)).trans h
theorem TT.past {w w' : World} {g : Nat} (h : TT w g) (hb : Below w.heap.size w w') : TT w' g := Own.past h hb (Own.inside h)
theorem row_new (w : World) (base : Nat) (hb : base ≤ w.heap.size) : (w.alloc (.cells #[] 44)).ownsRow base 44 6 (.slice (some ⟨w.heap.size, 0, none⟩) 0 0) 0 [] := World.ownsRow_made w #[] 0 hb (Nat.zero_le _) rfl
theorem row_new2 (w : World) (base : Nat) (hb : base ≤ w.heap.size) (o : Obj) : ((w.alloc o).alloc (.cells #[] 44)).ownsRow base 44 6 (.slice (some ⟨w.heap.size + 1, 0, none⟩) 0 0) 0 [] := by
  have h := row_new (w.alloc o) base (by simp only [World.size_alloc]; omega)
  simp only [World.size_alloc] at h
  exact h
def Pf.PlanAt (q : Pf) (w : World) (g : Nat) : Prop := Own w g 37 [.int .u8 q.k, .int .i64 q.n, .slice q.A1 q.l1 q.c1, .slice q.A2 q.es.length q.c2, .slice q.A3 q.l3 q.c3, .slice q.A4 q.l4 q.c4, .int .u8 q.a, .int .i64 q.r]
theorem planbox (w : World) (q : Pf) : ∃ V, V = w.alloc (.cells #[.int .u8 q.k, .int .i64 q.n, .slice q.A1 q.l1 q.c1, .slice q.A2 q.es.length q.c2, .slice q.A3 q.l3 q.c3, .slice q.A4 q.l4 q.c4, .int .u8 q.a, .int .i64 q.r] 37) ∧ Below w.heap.size w V ∧ V.heap.size = w.heap.size + 1 ∧ q.PlanAt V w.heap.size :=
  ⟨_, rfl, (Below.refl _ _).alloc (Nat.le_refl _) _, by simp, Own.made w 37 q.cells⟩
theorem planeight {q : Pf} {w : World} {g : Nat} (h : q.PlanAt w g) : w.cell? ⟨g, 0, none⟩ = some (.int .u8 q.k) ∧ w.cell? ⟨g, 1, none⟩ = some (.int .i64 q.n) ∧ w.cell? ⟨g, 2, none⟩ = some (.slice q.A1 q.l1 q.c1) ∧ w.cell? ⟨g, 3, none⟩ = some (.slice q.A2 q.es.length q.c2) ∧ w.cell? ⟨g, 4, none⟩ = some (.slice q.A3 q.l3 q.c3) ∧ w.cell? ⟨g, 5, none⟩ = some (.slice q.A4 q.l4 q.c4) ∧ w.cell? ⟨g, 6, none⟩ = some (.int .u8 q.a) ∧ w.cell? ⟨g, 7, none⟩ = some (.int .i64 q.r) :=
  ⟨Own.at_ h 0, Own.at_ h 1, Own.at_ h 2, Own.at_ h 3, Own.at_ h 4, Own.at_ h 5, Own.at_ h 6, Own.at_ h 7⟩
theorem PlanAt.past {q : Pf} {w w' : World} {g B : Nat} (h : q.PlanAt w g) (hb : Below B w w') (hB : g < B) : q.PlanAt w' g := Own.past h hb hB
theorem PlanAt.inside {q : Pf} {w : World} {g : Nat} (h : q.PlanAt w g) : g < w.heap.size := Own.inside h
theorem PlanAt.more {q : Pf} {w : World} {g : Nat} (h : q.PlanAt w g) (o : Obj) : q.PlanAt (w.alloc o) g := Own.more h o
theorem PlanAt.stored {q : Pf} {w : World} {g P : Nat} (h : q.PlanAt w g) (hne : g ≠ P) (i : Nat) (u : Value) : q.PlanAt (w.setCell ⟨P, i, none⟩ u) g := (Below.heap_setCell w ⟨P, i, none⟩ u g hne).trans h
theorem PlanAt.drew {q : Pf} {w : World} {g : Nat} (h : q.PlanAt w g) : q.PlanAt w.drew g := h
/-- two lists evened out -/
def EvnTwo (l : List (Uk × Int)) (e : Int) (w : World) (x : Ending) (w' : World) : Prop :=
  ∃ A c, ∃ outL : List Up, x = .returned (.tuple #[.slice A outL.length c, .int .i64 e]) ∧ outL.map Up.p = l ∧ Ups w' w'.heap.size A outL ∧ (∀ u ∈ outL, UOk u) ∧ outL.length ≤ 1048576 ∧ Below w.heap.size w w'
theorem evn_two (A A1 A2 : Option Addr) (c1 c2 : Nat) (l m : List Up) (w : World) (hl : ULs w w.heap.size A [⟨A1, c1, l⟩, ⟨A2, c2, m⟩]) (hok : ∀ u ∈ l, UOk u) (hok' : ∀ u ∈ m, UOk u) (hn : l.length + m.length ≤ 1048576) :
    Calls Tryz.prog 16 #[.slice A 2 2] w (EvnTwo (consL [l, m]) (consE [l, m]) w) := by
  have h0 := consolidate_new A 2 [⟨A1, c1, l⟩, ⟨A2, c2, m⟩] w hl (fun s hs u hu => by
    rcases List.mem_cons.1 hs with rfl | hs
    · exact hok u hu
    · obtain rfl : s = ⟨A2, c2, m⟩ := by simpa using hs
      exact hok' u hu) (by simp [flatR]; omega) (by simp)
  refine h0.mono fun x w' ⟨A', c', outL, e1, e2, e3, e4, e5, e6⟩ => ?_
  simp only [List.map_cons, List.map_nil] at e1 e2
  refine ⟨A', c', outL, e1, e2, e3, e4, ?_, e5⟩
  have := consL_len [l, m]
  rw [← e2, List.length_map] at this
  simp only [List.flatten_cons, List.flatten_nil, List.append_nil, List.length_append] at this
  omega
set_option maxRecDepth 100000 in
set_option maxHeartbeats 12800000 in
theorem parts_walk (q : Pf) (A : Option Addr) (c : Nat) (a : List Up) (A' : Option Addr) (c' : Nat) (b : List Up) (w : World) (hq : PfFine w q) (hl : Ups w w.heap.size A a) (hok : ∀ u ∈ a, UOk u) (_ : a.length ≤ c) (_ : c ≤ maxLen) (hl' : Ups w w.heap.size A' b) (hok' : ∀ u ∈ b, UOk u) (_ : b.length ≤ c') (_ : c' ≤ maxLen) (hn : a.length + b.length ≤ 1048576) :
    Calls Tryz.prog 6 #[q.val, .slice A a.length c, .slice A' b.length c'] w fun e w' => e = .returned (.bool true) ∧ Below w.heap.size w w' := by
  obtain ⟨i0, hi, hz0, hz1, hz2⟩ := info_parts infoUp
  have hU := Tryz.underlying22
  obtain ⟨V, hV, hvb, hvs, hvp⟩ := planbox w q
  have y0 := fun W => Lib.hid (lives_true W)
  have HL := Lib.hid (And.intro (And.intro hl hok) (And.intro (And.intro hl' hok') hq))
  have HV := Lib.hid (And.intro hvb (And.intro hvp hvs))
  rw [show q.val = .agg #[.int .u8 q.k, .int .i64 q.n, .slice q.A1 q.l1 q.c1, .slice q.A2 q.es.length q.c2, .slice q.A3 q.l3 q.c3, .slice q.A4 q.l4 q.c4, .int .u8 q.a, .int .i64 q.r] from rfl]
  clear hl hok hl' hok' hq hvb hvs hvp
  go_enter Tryz.func6, Tryz.ntmps6
  go_upto_region 1 with fail
  rw [← hV]
  clear hV
  go_wp2_with fail
  refine (y0 _).out.mono ?_
  rintro _ w1 ⟨rfl, b1⟩
  have hb1 := belows HV.out.1 b1
  have hp1 : q.PlanAt w1 w.heap.size := PlanAt.past HV.out.2.1 b1 (PlanAt.inside HV.out.2.1)
  have hcall := do_any q A c a w1 HL.out.2.2.1 ((HL.out.2.2.2.past hb1 (Nat.le_refl _)).wide hb1.size) ((HL.out.1.1.past hb1 (Nat.le_refl _)).wide hb1.size) HL.out.1.2 (by omega)
  unfold AnySays at hcall
  have HC1 := Lib.hid hcall
  have H1 := Lib.hid (And.intro hb1 hp1)
  obtain ⟨d0, d1, d2, d3, d4, d5, d6, d7⟩ := planeight hp1
  clear b1 hb1 hp1 hcall y0
  go_wp2_with fail
  refine HC1.out.mono ?_
  rintro _ w2 ⟨A2, k2, xL, t2, E2, rfl, hE2, hu2, ho2, b2, _, _, hn2⟩
  obtain ⟨W2, hW2, hb2, hs2, _⟩ := tbox w2 t2
  have hbb := belows b2 hb2
  have hbw := belows H1.out.1 hbb
  have hp2 : q.PlanAt W2 w.heap.size := PlanAt.past H1.out.2 hbb (PlanAt.inside H1.out.2)
  have hcall := do_any q A' c' b W2 HL.out.2.2.1 ((HL.out.2.2.2.past hbw (Nat.le_refl _)).wide hbw.size) ((HL.out.2.1.1.past hbw (Nat.le_refl _)).wide hbw.size) HL.out.2.1.2 (by omega)
  unfold AnySays at hcall
  have HC2 := Lib.hid hcall
  have H2 := Lib.hid (And.intro hbw (And.intro hp2 (And.intro hE2 (And.intro (hu2.keep hb2) (And.intro ho2 hn2)))))
  clear d0 d1 d2 d3 d4 d5 d6 d7 hE2 hu2 ho2 b2 hn2 hb2 hs2 hbb hbw hcall HC1
  obtain ⟨d0, d1, d2, d3, d4, d5, d6, d7⟩ := planeight hp2
  clear hp2
  go_upto_region 4 with fail
  rw [← hW2]
  clear hW2
  go_wp2_with fail
  refine HC2.out.mono ?_
  rintro _ w3 ⟨A3, k3, yL, t3, E3, rfl, hE3, hu3, ho3, b3, _, _, hn3⟩
  obtain ⟨W3, hW3, hb3, hs3, _⟩ := tbox w3 t3
  have hbb := belows b3 hb3
  have hbw := belows H2.out.1 hbb
  have hp3 : q.PlanAt W3 w.heap.size := PlanAt.past H2.out.2.1 hbb (PlanAt.inside H2.out.2.1)
  have H3 := Lib.hid (And.intro hbw (And.intro hp3 (And.intro hE3 (And.intro (hu3.keep hb3) (And.intro ho3 (And.intro hn3 (H2.out.2.2.2.1.keep hbb)))))))
  have HS := Lib.hid (fun W (h : q.PlanAt W w.heap.size) => planeight h)
  have hplt : w.heap.size < W3.heap.size := PlanAt.inside hp3
  clear d0 d1 d2 d3 d4 d5 d6 d7 hE3 hu3 ho3 b3 hn3 hb3 hs3 hbb hbw HC2
  obtain ⟨d0, d1, d2, d3, d4, d5, d6, d7⟩ := planeight hp3
  go_upto_region 5 with fail
  rw [← hW3]
  clear hW3
  have Hla := Lib.hid (fun W (h : Below w.heap.size w W) => HL.out.1.1.head.past h (Nat.le_refl _))
  have Hdo := Lib.hid (fun (A9 : Option Addr) (c9 : Nat) (all : List Up) (W : World) (hb : Below w.heap.size w W) (hall : all.length ≤ 1048576) (hu : Ups W W.heap.size A9 all) (ho : ∀ u ∈ all, UOk u) => do_any q A9 c9 all W HL.out.2.2.1 ((HL.out.2.2.2.past hb (Nat.le_refl _)).wide hb.size) hu ho (by omega))
  unfold AnySays at Hdo
  obtain ⟨all, hall⟩ : ∃ all, a ++ b = all := ⟨_, rfl⟩
  have HA := Lib.hid hall
  have hpn : all.length ≤ 1048576 := by rw [← hall, List.length_append]; exact hn
  have hoa : ∀ u ∈ all, UOk u := fun u hu => by
    rw [← hall] at hu
    rcases List.mem_append.1 hu with hu | hu
    · exact HL.out.1.2 u hu
    · exact HL.out.2.1.2 u hu
  have HOA := Lib.hid (And.intro hoa hpn)
  have hfin := Lib.hid (fun (v3 : Value) (W : World) (hb : Below w.heap.size w W) (ho : W.ownsRow W3.heap.size 44 6 v3 (a.length + b.length) (([] ++ a.flatMap Up.cells) ++ b.flatMap Up.cells)) => (by
    obtain ⟨A9, c9, e, _, _, h9⟩ := lies_of_own (size := 6) (cells := Up.cells) (l := all) (by decide) ucells_len (by rw [← HA.out, List.length_append]) (by rw [← HA.out, List.flatMap_append]; simpa using ho)
    refine ⟨A9, c9, by rw [e], h9, fun u hu => ?_⟩
    rw [← HA.out] at hu
    rcases List.mem_append.1 hu with hu | hu
    · exact ⟨((HL.out.1.1.each_ u hu).past hb (Nat.le_refl _)).key.wide hb.size, ((HL.out.1.1.each_ u hu).past hb (Nat.le_refl _)).row.wide hb.size⟩
    · exact ⟨((HL.out.2.1.1.each_ u hu).past hb (Nat.le_refl _)).key.wide hb.size, ((HL.out.2.1.1.each_ u hu).past hb (Nat.le_refl _)).row.wide hb.size⟩ : ∃ A9 c9, v3 = .slice A9 all.length c9 ∧ Ups W W.heap.size A9 all))
  have hb3w := H3.out.1
  have hszw : w.heap.size ≤ W3.heap.size := hb3w.size
  have Hlb := Lib.hid (fun W (h : Below w.heap.size w W) => HL.out.2.1.1.head.past h (Nat.le_refl _))
  have HB3 := Lib.hid hb3w
  clear hoa hpn hall hb3w
  go_region_held3 (fun w' => q.PlanAt w' w.heap.size ∧ (w'.cell? ⟨w.heap.size, 0, none⟩ = some (.int .u8 q.k) ∧ w'.cell? ⟨w.heap.size, 1, none⟩ = some (.int .i64 q.n) ∧ w'.cell? ⟨w.heap.size, 2, none⟩ = some (.slice q.A1 q.l1 q.c1) ∧ w'.cell? ⟨w.heap.size, 3, none⟩ = some (.slice q.A2 q.es.length q.c2) ∧ w'.cell? ⟨w.heap.size, 4, none⟩ = some (.slice q.A3 q.l3 q.c3) ∧ w'.cell? ⟨w.heap.size, 5, none⟩ = some (.slice q.A4 q.l4 q.c4) ∧ w'.cell? ⟨w.heap.size, 6, none⟩ = some (.int .u8 q.a) ∧ w'.cell? ⟨w.heap.size, 7, none⟩ = some (.int .i64 q.r)))
    ((refine (fun h => And.intro h (HS.out _ h)) ?_; repeat (first | with_reducible exact hp8 | with_reducible exact hp7 | with_reducible exact hp6 | with_reducible exact hp3 | with_reducible refine PlanAt.more ?_ _ | with_reducible refine PlanAt.drew ?_ | with_reducible refine PlanAt.stored ?_ (by omega) _ _)))
    (first | (refine step_append_any (size := 6) (cells := Up.cells) (l := a) (A := A) (B := w.heap.size) _ rfl (.tmp 36) (.tmp 37) 22 44 rfl i0 _ 80 hU hi hz0 hz1 hz2 rfl (by decide) (fun _ => rfl) ucells_one W3.heap.size (.slice (some ⟨W3.heap.size, 0, none⟩) 0 0) 0 _ rfl (row_new W3 W3.heap.size (Nat.le_refl _)).drew c (by simp [Act.eval, Act.put]) (Hla.out _ ((HB3.out.alloc hszw _).drew)) (by unfold maxLen; omega) (by omega) (by simp; try omega) ?_; intro v6 w6 ho6 hb6 hob6 hg6; have hn6 : Below W3.heap.size W3 w6 := ((((Below.refl W3.heap.size W3).alloc (Nat.le_refl _) _).drew)).trans hb6; have hs6 := hn6.size; have hp6 : q.PlanAt w6 w.heap.size := PlanAt.past hp3 hn6 hplt) | (refine step_append_any (size := 6) (cells := Up.cells) (l := a) (A := A) (B := w.heap.size) _ rfl (.tmp 36) (.tmp 37) 22 44 rfl i0 _ 80 hU hi hz0 hz1 hz2 rfl (by decide) (fun _ => rfl) ucells_one W3.heap.size (.slice (some ⟨W3.heap.size, 0, none⟩) 0 0) 0 _ rfl ((row_new W3 W3.heap.size (Nat.le_refl _)).alloc _).drew c (by simp [Act.eval, Act.put]) (Hla.out _ (((HB3.out.alloc hszw _).alloc (by have := hszw; simp; omega) _).drew)) (by unfold maxLen; omega) (by omega) (by simp; try omega) ?_; intro v6 w6 ho6 hb6 hob6 hg6; have hn6 : Below W3.heap.size W3 w6 := (((((Below.refl W3.heap.size W3).alloc (Nat.le_refl _) _).alloc (by simp) _).drew)).trans hb6; have hs6 := hn6.size; have hp6 : q.PlanAt w6 w.heap.size := PlanAt.past hp3 hn6 hplt; have hne6 : v6.ownBlock ≠ some (W3.heap.size + 1) := fun e => (by rcases hob6 with h | h <;> rw [h] at e <;> simp [Value.ownBlock] at e <;> omega); have hT6 : TT w6 (W3.heap.size + 1) := TT.app (show TT _ (W3.heap.size + 1) from (by have h := TT.made (W3.alloc (.cells #[] 44)); simp only [World.size_alloc] at h; exact h)) hg6 (by simp [Value.ownBlock])) | (refine step_append_any (size := 6) (cells := Up.cells) (l := a) (A := A) (B := w.heap.size) _ rfl (.tmp 36) (.tmp 37) 22 44 rfl i0 _ 80 hU hi hz0 hz1 hz2 rfl (by decide) (fun _ => rfl) ucells_one W3.heap.size (.slice (some ⟨W3.heap.size + 1, 0, none⟩) 0 0) 0 _ rfl (row_new2 W3 W3.heap.size (Nat.le_refl _) _).drew c (by simp [Act.eval, Act.put]) (Hla.out _ (((HB3.out.alloc hszw _).alloc (by have := hszw; simp; omega) _).drew)) (by unfold maxLen; omega) (by omega) (by simp; try omega) ?_; intro v6 w6 ho6 hb6 hob6 hg6; have hn6 : Below W3.heap.size W3 w6 := (((((Below.refl W3.heap.size W3).alloc (Nat.le_refl _) _).alloc (by simp) _).drew)).trans hb6; have hs6 := hn6.size; have hp6 : q.PlanAt w6 w.heap.size := PlanAt.past hp3 hn6 hplt; have hne6 : v6.ownBlock ≠ some W3.heap.size := fun e => (by rcases hob6 with h | h <;> rw [h] at e <;> simp [Value.ownBlock] at e <;> omega); have hT6 : TT w6 W3.heap.size := TT.app (show TT _ W3.heap.size from (by have h := Own.more (TT.made W3) (.cells #[] 44); exact h)) hg6 (by simp [Value.ownBlock])) | (refine step_append_any (size := 6) (cells := Up.cells) (l := b) (A := A') (B := w.heap.size) _ rfl (.tmp 38) (.tmp 39) 22 44 rfl i0 _ 80 hU hi hz0 hz1 hz2 rfl (by decide) (fun _ => rfl) ucells_one W3.heap.size v6 (0 + a.length) _ rfl ho6 c' (by simp [Act.eval, Act.put]) (Hlb.out _ (HB3.out.trans ((hn6).mono hszw))) (by unfold maxLen; omega) (by omega) (by first | exact hs6 | (simp; omega)) ?_; intro v7 w7 ho7 hb7 hob7 hg7; have hn7 : Below W3.heap.size W3 w7 := (hn6).trans hb7; have hs7 := hn7.size; have hp7 : q.PlanAt w7 w.heap.size := PlanAt.past hp3 hn7 hplt; (try have hT7 : TT w7 (W3.heap.size + 1) := TT.app hT6 hg7 hne6); (try have hT7 : TT w7 W3.heap.size := TT.app hT6 hg7 hne6)) | (refine step_append_any (size := 6) (cells := Up.cells) (l := b) (A := A') (B := w.heap.size) _ rfl (.tmp 38) (.tmp 39) 22 44 rfl i0 _ 80 hU hi hz0 hz1 hz2 rfl (by decide) (fun _ => rfl) ucells_one W3.heap.size v6 (0 + a.length) _ rfl (ho6.alloc _) c' (by simp [Act.eval, Act.put]) (Hlb.out _ (HB3.out.trans (((hn6.alloc hs6 _)).mono hszw))) (by unfold maxLen; omega) (by omega) (by first | exact hs6 | (simp; omega)) ?_; intro v7 w7 ho7 hb7 hob7 hg7; have hn7 : Below W3.heap.size W3 w7 := ((hn6.alloc hs6 _)).trans hb7; have hs7 := hn7.size; have hp7 : q.PlanAt w7 w.heap.size := PlanAt.past hp3 hn7 hplt; have hT7 : TT w7 w6.heap.size := TT.app (TT.made w6) hg7 (fun e => (by have := (ho6.lt _ e).2; omega))) | (go_at_call 8; obtain ⟨A9, c9, rfl, hu9⟩ := hfin.out v7 w7 (HB3.out.trans (hn7.mono hszw)) (by rw [Nat.zero_add] at ho7; exact ho7); refine (Hdo.out A9 c9 all w7 (HB3.out.trans ((hn7).mono hszw)) HOA.out.2 hu9 HOA.out.1).mono ?_; rintro _ w8 ⟨A8, k8, zL, t8, E8, rfl, hE8, hu8, ho8, b8, hA8, hlo8, hn8⟩; have hb8 : Below W3.heap.size W3 w8 := (hn7).trans (b8.mono (by first | exact hs7 | (simp; omega))); have hs8 := hb8.size; have hp8 : q.PlanAt w8 w.heap.size := PlanAt.past hp3 hb8 hplt; (try (have hT8 := TT.past hT7 b8; have i7 := Own.inside hT7; have z0 := Own.at_ hT8 0; have z1 := Own.at_ hT8 1; have z2 := Own.at_ hT8 2; have f0 := Own.open_ hT8 0; have f1 := Own.open_ hT8 1; have f2 := Own.open_ hT8 2; simp only [List.getElem?_cons_zero, List.getElem?_cons_succ] at z0 z1 z2))) | (go_at_call 8; obtain ⟨A9, c9, rfl, hu9⟩ := hfin.out v7 w7 (HB3.out.trans (hn7.mono hszw)) (by rw [Nat.zero_add] at ho7; exact ho7); refine (Hdo.out A9 c9 all (w7.alloc (.cells #[.int .u64 0, .int .u64 0, .int .u64 0] 27)) (HB3.out.trans ((hn7.alloc hs7 _).mono hszw)) HOA.out.2 (hu9.keep ((Below.refl _ w7).alloc (Nat.le_refl _) _)) HOA.out.1).mono ?_; rintro _ w8 ⟨A8, k8, zL, t8, E8, rfl, hE8, hu8, ho8, b8, hA8, hlo8, hn8⟩; simp only [World.size_alloc] at hA8 hlo8; have hb8 : Below W3.heap.size W3 w8 := (hn7.alloc hs7 _).trans (b8.mono (by first | exact hs7 | (simp; omega))); have hs8 := hb8.size; have hp8 : q.PlanAt w8 w.heap.size := PlanAt.past hp3 hb8 hplt; have hT8 : TT w8 w7.heap.size := TT.past (TT.made w7) b8; have z0 := Own.at_ hT8 0; have z1 := Own.at_ hT8 1; have z2 := Own.at_ hT8 2; have f0 := Own.open_ hT8 0; have f1 := Own.open_ hT8 1; have f2 := Own.open_ hT8 2; simp only [List.getElem?_cons_zero, List.getElem?_cons_succ] at z0 z1 z2))
  all_goals
    first
    | (obtain ⟨Y, hY, hYo, hYk, hYs⟩ := own_three hT8 (.int .u64 (t8.e : Int)) (.int .u64 (t8.a : Int)) (.int .u64 (t8.b : Int))
       have huY : Ups Y Y.heap.size A8 zL := ⟨lies_pk hu8.head hYk fun _ b o e => ⟨by have := hA8 b o e; omega, by simp [Value.ownBlock]⟩, fun u hu => uin_pk (hu8.each_ u hu) ((hlo8 u hu).imp fun b hb => ⟨by omega, by simp [Value.ownBlock]⟩) hYk⟩
       have hbY : Below W3.heap.size W3 Y := hb8.trans (hYk.below hs8 (by omega) (fun k e => by simp [Value.ownBlock] at e))
       clear hYo hYk hYs hT8 z0 z1 z2 f0 f1 f2)
    | (obtain ⟨Y, hY, hbY8, hsY, _⟩ := tbox w8 t8
       have huY : Ups Y Y.heap.size A8 zL := hu8.keep hbY8
       have hbY : Below W3.heap.size W3 Y := hb8.trans (hbY8.mono hs8)
       clear hbY8 hsY)
  all_goals
    have HY := Lib.hid (And.intro hbY (And.intro huY (And.intro ho8 (And.intro hE8 (HB3.out.trans (hbY.mono hszw))))))
    clear hbY huY ho8 hE8 hu8 b8 hA8 hlo8 hb8 hs8 hp8 d0 d1 d2 d3 d4 d5 d6 d7 Hla Hlb Hdo hfin HS hp3
    rw [← hY]
    clear hY
    by_cases h2 : E2 = 0
    case neg =>
      have t1 : (E2 != 0) = true := bne_iff_ne.2 h2
      clear h2
      go_wp2_with fail
      go_ret
      exact ⟨rfl, HY.out.2.2.2.2⟩
    subst h2
    by_cases h3 : E3 = 0
    case neg =>
      have t1 : (E3 != 0) = true := bne_iff_ne.2 h3
      clear h3
      go_wp2_with fail
      go_ret
      exact ⟨rfl, HY.out.2.2.2.2⟩
    subst h3
    by_cases h8 : E8 = 0
    case neg =>
      have t1 : (E8 != 0) = true := bne_iff_ne.2 h8
      clear h8
      go_wp2_with fail
      go_ret
      exact ⟨rfl, HY.out.2.2.2.2⟩
    subst h8
    obtain ⟨_, m2, _, m4, m5⟩ := HY.out.2.2.2.1 rfl
    obtain ⟨_, _, _, _, x5⟩ := H2.out.2.2.1 rfl
    obtain ⟨_, _, _, _, y5⟩ := H3.out.2.2.1 rfl
    have hoab := HOA.out.1
    rw [← HA.out] at m2 m4 m5 hoab
    obtain ⟨q1, q2⟩ := parts_same (mkOf_row (fun e he => (HL.out.2.2.2.each_ e he).1) hoab m2) m2 m4 x5 y5 m5
    have hux : Ups Y Y.heap.size A2 xL := (H3.out.2.2.2.2.2.2).keep HY.out.1
    have huy : Ups Y Y.heap.size A3 yL := (H3.out.2.2.2.1).keep HY.out.1
    obtain ⟨V9, hV9, hvb9, hul9⟩ := two_lists Y A2 A3 k2 k3 xL yL hux huy
    have hcall := evn_two (some ⟨Y.heap.size, 0, none⟩) A2 A3 k2 k3 xL yL V9 hul9 H2.out.2.2.2.2.1 H3.out.2.2.2.2.1 (by have := H2.out.2.2.2.2.2; have := H3.out.2.2.2.2.2.1; omega)
    unfold EvnTwo at hcall
    rw [q1, q2] at hcall
    have HC9 := Lib.hid hcall
    have huz9 : Ups V9 V9.heap.size A8 zL := HY.out.2.1.keep hvb9
    have hln : zL.length ≤ 1099511627776 := by
      have h1 := HOA.out.2
      have h2 := hn8
      omega
    have H9 := Lib.hid (And.intro (belows HY.out.2.2.2.2 hvb9) (And.intro huz9 (And.intro HY.out.2.2.1 hln)))
    clear m2 m4 m5 x5 y5 hoab q1 q2 hux huy hvb9 hul9 hcall huz9 hln hn8
    go_wp2_with fail
    rw [← hV9]
    clear hV9
    refine HC9.out.mono ?_
    rintro _ wa ⟨Aa, ka, bL, rfl, hpa, hua, hoa9, hna, ba⟩
    have HC10 := Lib.hid (sameL_yes Aa A8 ka k8 bL zL wa hua (H9.out.2.1.keep ba) hoa9 H9.out.2.2.1 (by omega) H9.out.2.2.2 hpa)
    have H10 := Lib.hid (belows H9.out.1 ba)
    clear hpa hua hoa9 hna ba HC9
    go_wp2_with fail
    refine HC10.out.mono ?_
    rintro _ wb ⟨rfl, bb⟩
    have H11 := Lib.hid (belows H10.out bb)
    clear bb HC10
    go_wp2_with fail
    go_ret
    exact ⟨rfl, H11.out⟩
end Go.Proofs.YtcfldgncmbcpmaaGreat
