/- Part 14 of the texts on which SpineHolds rests: facts and contracts. -/
import Derived.Test.YtenjlhlighkenaaGreatSpineHoldsM13
import Derived.WalkKit
import Derived.ProofKit
import Derived.OpenShut
import Derived.JoinedCond
import Derived.Carry
import Derived.ChangeArms
import Derived.Deep.Slices
import Derived.SizedLaws
import Derived.Test.YtenjlhlighkenaaGreatRows
namespace Go.Proofs.YtenjlhlighkenaaGreat
open Go Go.RowKit Go.Shelf

attribute [local go_sem] Oper.semAt_some

def WorkM (base g : Nat) (s : Sp) (fuel : Int) (w : World) (x : Ending) (w' : World) : Prop :=
  ∃ (c : Nat) (E : Int), x = .returned (.tuple #[.int .i64 (c : Int), .int .i64 E]) ∧ KeptK w w' (SpS g s.lA) ∧ (E = 0 ∧ (∃ s', Wk w' base g s' ∧ s'.sA = s.sA ∧ s'.sc = s.sc ∧ s'.f = s.f ∧ WkFin s.f s.L fuel s'.L c) ∨ E = 10 ∧ c = 0)
theorem infoBt : (Tryz.prog.info? 61).map (fun i => (i.zero, i.size, i.bytes)) = some (some (.agg #[.slice none 0 0, .slice none 0 0]), 2, 48) := by kernel_rfl
theorem bt_one (b : Bt) : ∀ u ∈ b.cells, u.oneCell' = true := by
  intro u hu
  simp [Bt.cells] at hu
  rcases hu with rfl | rfl <;> rfl
theorem bt_lies (w : World) (b : Bt) : Lies 2 Bt.cells (w.alloc (.cells #[.slice b.sA b.f.length b.sc, .slice b.uA b.l.length b.uc] 61)) (w.heap.size + 1) (some ⟨w.heap.size, 0, none⟩) [b] := fun _ => ⟨w.heap.size, 0, rfl, Nat.lt_succ_self _, fun i x hi j u hj => by
  cases i with
  | zero =>
    obtain rfl : b = x := by simpa using hi
    rw [Nat.zero_mul, Nat.zero_add]
    first | exact ((Own.made w 61 b.cells).at_ j).trans hj | (rw [Nat.zero_add]; exact ((Own.made w 61 b.cells).at_ j).trans hj)
    -- exact ((Own.made w 61 b.cells).at_ j).trans hj
  | succ i => simp at hi⟩
set_option maxRecDepth 100000 in
set_option maxHeartbeats 12800000 in
theorem workS_any (base g : Nat) (s : Sp) (fuel : Int) (W : World) (h : Wk W base g s) (hgood : SpGood s.f s.L) (hwt : wtS s.L ≤ 274877906944) (hf1 : -9223372036854775808 ≤ fuel) (hf2 : fuel ≤ 9223372036854775807) :
    Calls Tryz.prog 23 #[.pointer (some ⟨g, 0, none⟩), .int .i64 fuel] W (WorkM base g s fuel W) := by
  refine (callsIn_wide (n := 12)).1 ?_
  have h9 : 1 ≤ 12 := by decide
  have hLn := h.ok.n
  obtain ⟨V, hV, gV, sV, o0, o1, o2, o3, o4, o5, o6⟩ := work_world W g fuel
  refine callsIn_of_wp_marks Tryz.func23 rfl trivial ?_ rfl
  simp only [Tryz.ntmps23, List.size_toArray, List.length_cons, List.length_nil, Nat.reduceAdd, Nat.reduceSub, Array.replicate_succ, Array.replicate_zero, List.push_toArray, List.append_toArray, List.nil_append, List.cons_append]
  gi_wp2_with (refine ⟨trivial, ?_⟩; gi_at_call 55; refine (callsIn_wide.2 (busy_any g _)).mono ?_; rintro _ _ ⟨rfl, rfl⟩)
  rw [← hV]
  obtain ⟨b6, hb6⟩ : ∃ b6, b6 = W.heap.size + 1 + 1 + 1 + 1 + 1 + 1 := ⟨_, rfl⟩
  rw [← hb6]
  obtain ⟨b5, hb5⟩ : ∃ b5, b5 = W.heap.size + 1 + 1 + 1 + 1 + 1 := ⟨_, rfl⟩
  rw [← hb5]
  obtain ⟨b4, hb4⟩ : ∃ b4, b4 = W.heap.size + 1 + 1 + 1 + 1 := ⟨_, rfl⟩
  rw [← hb4]
  obtain ⟨b3, hb3⟩ : ∃ b3, b3 = W.heap.size + 1 + 1 + 1 := ⟨_, rfl⟩
  rw [← hb3]
  obtain ⟨b2, hb2⟩ : ∃ b2, b2 = W.heap.size + 1 + 1 := ⟨_, rfl⟩
  rw [← hb2]
  obtain ⟨b1, hb1⟩ : ∃ b1, b1 = W.heap.size + 1 := ⟨_, rfl⟩
  rw [← hb1]
  obtain ⟨b0, hb0⟩ : ∃ b0, b0 = W.heap.size := ⟨_, rfl⟩
  rw [← hb0]
  have k1 : b1 = W.heap.size + 1 := hb1
  have k2 : b2 = W.heap.size + 2 := hb2
  have k3 : b3 = W.heap.size + 3 := hb3
  have k4 : b4 = W.heap.size + 4 := hb4
  have k5 : b5 = W.heap.size + 5 := hb5
  have k6 : b6 = W.heap.size + 6 := hb6
  have HK := Lib.hid (And.intro hb0 (And.intro k1 (And.intro k2 (And.intro k3 (And.intro k4 (And.intro k5 (And.intro k6 sV)))))))
  have HO := Lib.hid (And.intro o0 (And.intro o1 (And.intro o2 (And.intro o3 (And.intro o4 (And.intro o5 o6))))))
  clear hb1 hb2 hb3 hb4 hb5 hb6 hV hb0 k1 k2 k3 k4 k5 k6 sV o0 o1 o2 o3 o4 o5 o6
  refine wpIn_mono (Q := fun e a X => ∃ D, V.heap.size ≤ D ∧ X.heap[D]? = some (.deferred (some [])) ∧ a = { tmps := #[.pointer (some ⟨g, 0, none⟩), .int .i64 fuel, .pointer (some ⟨b0, 0, none⟩), .pointer (some ⟨b1, 0, none⟩), .pointer (some ⟨b2, 0, none⟩), .pointer (some ⟨b3, 0, none⟩), .pointer (some ⟨b4, 0, none⟩), .pointer (some ⟨b5, 0, none⟩), undef, undef, undef, undef, undef, undef, undef, undef, .pointer (some ⟨g, 0, none⟩), .func (.func 87) #[] #[.pointer (some ⟨b6, 0, none⟩)], undef, undef, undef, undef, undef, undef, undef, undef, undef, undef, undef, undef, undef, undef, undef, undef, undef, undef, undef, undef, undef, undef, undef, undef, undef, undef, undef, undef, undef, undef, undef, undef, undef, undef, undef, undef, undef, undef, undef, undef, undef, undef, undef, undef, undef, undef, undef, undef, undef, undef, undef, undef], defers := [{ target := .collected D, args := #[] }] } ∧
    ((e = .normal ∨ e = .exit 0) ∧ (∃ (M p : Nat) (s1 : Sp) (Ds : List Bt) (c : Nat) (dA : Option Addr) (dc : Nat), WkB W base g s fuel M s1 Ds (c : Int) dA dc X ∧ WkSt s.f s.L fuel p s1.L Ds c ∧ (p = 0 ∨ fuel ≤ (c : Int))) ∨ e = .ret ∧ WkEr W g s X)) ?loop ?after
  case loop =>
    obtain ⟨hb0, k1, k2, k3, k4, k5, k6, sV⟩ := HK.out
    refine range_down (w := V) rfl h9 (gf := 87) (lb := #[.pointer (some ⟨b6, 0, none⟩)]) rfl trivial (enters_of Tryz.func87 (by kernel_rfl) rfl)
      (busy_down 11 b6 g s.lA s.lc s.L V hLn (by omega) (by have := (h.lt g (.inl rfl)).2; omega)) (Below.refl _ _) (fun _ => rfl)
      (fun M p X => ∃ (s1 : Sp) (Ds : List Bt) (c : Nat) (dA : Option Addr) (dc : Nat), WkB W base g s fuel M s1 Ds (c : Int) dA dc X ∧ WkSt s.f s.L fuel p s1.L Ds c)
      (fun M j X => (j = .ret ∧ WkEr W g s X) ∨ (j = .exit 0 ∧ ∃ (p : Nat) (s1 : Sp) (Ds : List Bt) (c : Nat) (dA : Option Addr) (dc : Nat), WkB W base g s fuel M s1 Ds (c : Int) dA dc X ∧ WkSt s.f s.L fuel p s1.L Ds c ∧ fuel ≤ (c : Int)))
      ?hI ?hIx ?hRd ?hskip ?h0
      (fun M p a' X => ∃ (s1 : Sp) (Ds : List Bt) (c : Nat) (dA : Option Addr) (dc : Nat) (l : Lv) (Bm : Nat), (WkB W base g s fuel M s1 Ds (c : Int) dA dc X ∧ WkSt s.f s.L fuel (p + 1) s1.L Ds c) ∧ s.L[p]? = some l ∧ l.busy = true ∧ Own X Bm 63 l.m.cells ∧ M ≤ Bm ∧
        a' = { tmps := #[.pointer (some ⟨g, 0, none⟩), .int .i64 fuel, .pointer (some ⟨b0, 0, none⟩), .pointer (some ⟨b1, 0, none⟩), .pointer (some ⟨b2, 0, none⟩), .pointer (some ⟨b3, 0, none⟩), .pointer (some ⟨b4, 0, none⟩), .pointer (some ⟨b5, 0, none⟩), .int .i64 (p : Int), .pointer (some ⟨Bm, 0, none⟩), undef, undef, undef, undef, undef, undef, .pointer (some ⟨g, 0, none⟩), .func (.func 87) #[] #[.pointer (some ⟨b6, 0, none⟩)], .int .i64 (p : Int), .agg #[.slice l.m.aA l.m.a.length l.m.ac, .slice l.m.bA l.m.b.length l.m.bc, .int .i64 l.m.i, .int .i64 l.m.j, .slice l.m.sA l.m.f.length l.m.sc, .slice l.m.oA l.m.o.length l.m.oc], undef, undef, undef, undef, undef, undef, undef, undef, undef, undef, undef, undef, undef, undef, undef, undef, undef, undef, undef, undef, undef, undef, undef, undef, undef, undef, undef, undef, undef, undef, undef, undef, undef, undef, undef, undef, undef, undef, undef, undef, undef, undef, undef, undef, undef, undef, undef, undef, undef, undef], defers := [] })
      ?hAx ?assign ?body ?done ?stop
    case hI =>
      rintro M p X Y row ⟨s1, Ds, c, dA, dc, h1, h2⟩ hg2 hr
      exact ⟨s1, Ds, c, dA, dc, h1.turn hg2 (fun r e => (hr r e).2) (fun r e => by have := (hr r e).1; omega), h2⟩
    case hIx =>
      rintro j M X Y row hh hg2 hr
      rcases hh with ⟨rfl, h1⟩ | ⟨rfl, p, s1, Ds, c, dA, dc, h1, h2, h3⟩
      · exact .inl ⟨rfl, h1.turn hg2 (fun r e => (hr r e).2) (fun r e => by have := (hr r e).1; omega)⟩
      · exact .inr ⟨rfl, p, s1, Ds, c, dA, dc, h1.turn hg2 (fun r e => (hr r e).2) (fun r e => by have := (hr r e).1; omega), h2, h3⟩
    case hRd =>
      rintro M p X ⟨s1, Ds, c, dA, dc, h1, h2⟩
      refine ⟨by rw [k6]; exact h1.w6.at_ 0, fun hp => ?_, fun i l hi hl => ?_⟩
      · have hL : s1.L = s.L := by
          have h3 := h2.pre
          rw [hp, List.take_length, List.take_of_length_le h2.few] at h3
          exact h3
        have := h1.wk.own.at_ 1
        show X.cell? ⟨g, 1, none⟩ = some (.slice s.lA s.L.length s.lc)
        rw [this, ← hL, ← h1.e4, ← h1.e5]
        rfl
      · have hl1 : s1.L[i]? = some l := by
          have h3 := congrArg (fun q : List Lv => q[i]?) h2.pre
          simp only [List.getElem?_take_of_lt hi] at h3
          rw [h3]
          exact hl
        have hp : 0 < s1.L.length := by have := (List.getElem?_eq_some_iff.1 hl1).1; omega
        rcases row_ownK h1.wk.row with ⟨_, h0, _⟩ | ⟨G, cur, e, _⟩
        · omega
        · obtain ⟨b, o, e2, _, hc⟩ := h1.wk.lies.head hp
          rw [e] at e2
          simp only [Option.some.injEq, Addr.mk.injEq, and_true] at e2
          obtain ⟨rfl, rfl⟩ := e2
          refine ⟨G, by rw [← h1.e4]; exact e, fun j u hj => ?_⟩
          have := hc i l hl1 j u hj
          rwa [Nat.zero_add] at this
    case hskip =>
      rintro M p X hp hns ⟨s1, Ds, c, dA, dc, h1, h2⟩
      have hl := List.getElem?_eq_getElem hp
      refine ⟨s1, Ds, c, dA, dc, h1, h2.skip hl ?_⟩
      cases hb : (s.L[p]).busy
      · rfl
      · exact absurd ⟨_, hl, hb⟩ hns
    case h0 =>
      intro X hX _
      exact ⟨s, [], 0, none, 0, WkB.begin h gV sV HO.out.1 HO.out.2.1 HO.out.2.2.1 HO.out.2.2.2.1 HO.out.2.2.2.2.1 HO.out.2.2.2.2.2.1 HO.out.2.2.2.2.2.2 hX, WkSt.start fuel hgood⟩
    case hAx =>
      rintro M p a' _ X Y row ⟨s1, Ds, c, dA, dc, l, Bm, ⟨h1, h2⟩, h3, h4, h5, h6, h7⟩ hg2 hr
      exact ⟨s1, Ds, c, dA, dc, l, Bm, ⟨h1.turn hg2 (fun r e => (hr r e).2) (fun r e => by have := (hr r e).1; omega), h2⟩, h3, h4, h5.turn hg2 (fun r e => (hr r e).2), h6, h7⟩
    case assign =>
      rintro l2 M p X K hp ⟨l, hl, hbusy⟩ ⟨s1, Ds, c, dA, dc, h1, h2⟩ hM hDM hK
      have hd : s.L.getD p default = l := by rw [List.getD_eq_getElem?_getD, hl]; rfl
      clear hb0 k1 k2 k3 k4 k5 k6 sV
      unfold encM
      rw [hd]
      unfold Mg.val
      gi_wp2
      exact hK _ _ (Holds.grown (World.grownBy_alloc X _ none) hM (fun r e => by cases e)) ⟨s1, Ds, c, dA, dc, l, X.heap.size, ⟨h1.past (below_grown (World.grownBy_alloc X _ none)), h2⟩, hl, hbusy, Own.made X 63 l.m.cells, hM, rfl⟩
    case body =>
      rintro l2 M p a' X hp _ ⟨s1, Ds, c, dA, dc, l, Bm, ⟨hB, hst⟩, hl, hbusy, hom, hBm, rfl⟩ hM hDM
      have hl1 := pre_at hst.pre hl
      have hm := List.mem_of_getElem? hl1
      have lev := hB.wk.lev l hm
      have okl := hB.wk.ok.each_ l hm
      have gi := (hst.good.each l hm).busy hbusy
      have hwl := wt_le hm
      have hwtl : wtL l = max (l.m.a.length + l.m.b.length) (partsM l.m).length := by unfold wtL; rw [if_pos hbusy]
      have hpo : l.m.o.length ≤ (partsM l.m).length := by unfold partsM; rw [List.length_append, List.length_append]; omega
      have hw1 := hst.wt
      have hcl : c ≤ 274877906944 := by have h1 := hst.left; have h2 := left_wt s.L; omega
      have na : l.m.a.length ≤ 274877906944 := by omega
      have nb : l.m.b.length ≤ 274877906944 := by omega
      have no : l.m.o.length ≤ 274877906944 := by omega
      have c1 : X.cell? ⟨b1, 0, none⟩ = some (.int .i64 fuel) := by rw [k1]; exact hB.w1.at_ 0
      have c4 : X.cell? ⟨b4, 0, none⟩ = some (.int .i64 (c : Int)) := by rw [k4]; exact hB.w4.at_ 0
      obtain ⟨m0, m1, m2, m3, m4, m5⟩ := own6 hom
      have HB := Lib.hid (And.intro hB (And.intro hst (And.intro hl (And.intro hl1 (And.intro hbusy (And.intro hom (And.intro hBm (And.intro hM hDM))))))))
      by_cases hbrk : fuel ≤ (c : Int)
      · clear hb0 k1 k2 k3 k4 k5 k6 sV hB hst hl hl1 hm lev okl gi hwl hwtl hpo hw1 na nb no hom hBm hM hDM
        gi_wp2
        exact ⟨Holds.refl _ _ _, .inr ⟨rfl, p + 1, s1, Ds, c, dA, dc, HB.out.1, HB.out.2.1, hbrk⟩⟩
      · have hlt : (c : Int) < fuel := by omega
        have q1 : IntKind.i64.wrap (fuel - (c : Int)) = fuel - (c : Int) := by rw [IntKind.wrap_i64]; omega
        have z := Lib.hid (work_anyC l.m (fuel - (c : Int)) X lev.m okl.m na nb no)
        have HW := Lib.hid (And.intro gi okl)
        unfold Mg.val at z
        clear hb0 k1 k2 k3 k4 k5 k6 sV hB hst hl hl1 hm lev okl gi hwl hwtl hpo hw1 na nb no hom hBm hM hDM hbrk
        gi_wp2
        refine ⟨trivial, CallsIn.mono (CallsIn.inRound l2 (callsIn_wide.2 z.out)) ?_⟩
        rintro _ w1 ⟨m', cc, E, rfl, hw, im, om, lm, b1w, hac, hbc⟩
        have hwork : WorkOk l.m m' (fuel - (c : Int)) cc E := by
          rcases hw with ⟨h1, _⟩ | ⟨_, h1⟩
          · exact absurd HW.out.1.2.2.1 h1
          · exact h1
        obtain ⟨k, rfl, mok, hsum, hE, heq, hlen⟩ := work_gen hwork HW.out.1.2.2.1 HW.out.2.m.o.ok
        obtain ⟨V6, hV6, hb6, hs6, ho6⟩ := mgbox w1 m'
        have b06 := belows b1w hb6
        have hB6 := HB.out.1.past b06
        have hh6 : Holds V.heap.size M X V6 := Holds.below b06 HB.out.2.2.2.2.2.2.2.1
        have f2 : V6.frozen? ⟨b2, 0, none⟩ = false := by rw [HK.out.2.2.1]; exact hB6.w2.open_ 0
        have f3 : V6.frozen? ⟨b3, 0, none⟩ = false := by rw [HK.out.2.2.2.1]; exact hB6.w3.open_ 0
        have f4 : V6.frozen? ⟨b4, 0, none⟩ = false := by rw [HK.out.2.2.2.2.1]; exact hB6.w4.open_ 0
        have c2 : V6.cell? ⟨b2, 0, none⟩ = some (.int .i64 0) := by rw [HK.out.2.2.1]; exact hB6.w2.at_ 0
        have c3 : V6.cell? ⟨b3, 0, none⟩ = some (.int .i64 0) := by rw [HK.out.2.2.2.1]; exact hB6.w3.at_ 0
        have d4 : V6.cell? ⟨b4, 0, none⟩ = some (.int .i64 (c : Int)) := by rw [HK.out.2.2.2.2.1]; exact hB6.w4.at_ 0
        have H6 := Lib.hid (And.intro hB6 (And.intro ho6 (And.intro (im.keep hb6) (And.intro om (And.intro hh6 (And.intro lm (And.intro b1w.size (belows b1w hb6))))))))
        have HM := Lib.hid (And.intro hwork (And.intro mok (And.intro hsum (And.intro hE (And.intro heq (And.intro hlen (mc_of om ⟨hac, hbc⟩)))))))
        have hcl2 : (c : Int) + (k : Int) ≤ 274877906944 := by
          have h1 := HB.out.2.1.left
          have h2 := left_wt s.L
          have h3 : leftM l.m ≤ leftS s1.L := by
            have e := split_at' HB.out.2.2.2.1
            conv => rhs; rw [e]
            rw [leftS_app, leftS_cons]
            unfold leftL
            rw [if_pos HB.out.2.2.2.2.1]
            omega
          omega
        have hcl0 : (0 : Int) ≤ (c : Int) + (k : Int) := by omega
        unfold Mg.val
        clear hw hwork mok hsum hE heq hlen im om lm b1w hac hbc hb6 hs6 ho6 b06 hB6 hh6 z m0 m1 m2 m3 m4 m5 c1 c4 q1
        by_cases hE0 : E = 0
        case neg =>
          have hE10 : E = 10 := by
            rcases HM.out.2.2.2.1 with ⟨h1, _⟩ | ⟨h1, _⟩
            · exact absurd h1 hE0
            · exact h1
          subst hE10
          subst hV6
          have hne : b3 ≠ b2 := by rw [HK.out.2.2.1, HK.out.2.2.2.1]; omega
          have HF := Lib.hid (H6.out.1.fail HK.out.2.2.1 HK.out.2.2.2.1 HK.out.2.2.2.2.2.2.2)
          clear hE0 hcl2 hcl0
          gi_wp2
          exact ⟨H6.out.2.2.2.2.1.trans HF.out.2, .inl ⟨rfl, HF.out.1⟩⟩
        case pos =>
          subst hE0
          have q3 : IntKind.i64.wrap ((c : Int) + (k : Int)) = (c : Int) + (k : Int) := by rw [IntKind.wrap_i64]; omega
          obtain ⟨Z, hZ⟩ : ∃ Z, Z = V6.setCell ⟨b4, 0, none⟩ (.int .i64 ((c : Int) + (k : Int))) := ⟨_, rfl⟩
          have hBZ : WkB W base g s fuel M s1 Ds ((c : Int) + (k : Int)) dA dc Z := by rw [hZ, HK.out.2.2.2.2.1]; exact H6.out.1.cost _
          have hoZ : Own Z w1.heap.size 63 m'.cells := by
            rw [hZ]
            exact H6.out.2.1.other (by have h1 := H6.out.1.w4.inside; have h2 := HB.out.1.w4.inside; have h3 := HK.out.2.2.2.2.1; show b4 ≠ w1.heap.size; have h4 := H6.out.2.2.2.2.2.2.1; omega) _
          have hhZ : Holds V.heap.size M X Z := by rw [hZ]; exact H6.out.2.2.2.2.1.trans (Holds.setc _ _ _ (.inl (by have := HK.out; show b4 < _; omega)))
          have z2 := Lib.hid (left_anyS m' Z)
          obtain ⟨m0, m1, m2, m3, m4, m5⟩ := own6 hoZ
          have HZ := Lib.hid (And.intro hBZ (And.intro hoZ (And.intro hhZ (show MgIn Z Z.heap.size m' from by
            have h1 := H6.out.2.2.1
            rw [hZ]
            have hT : Tiny V6 (fun q => q = b4) := fun q hq => by rw [hq, HK.out.2.2.2.2.1]; exact ⟨_, _, H6.out.1.w4⟩
            exact mg_kept h1 (tiny_mg hT h1) ((KeptK.refl V6 (fun q => q = b4)).set_ (.inl rfl) _)))))
          unfold Mg.val at z2
          subst hV6
          subst hZ
          clear hBZ hoZ hhZ hcl2 hcl0
          gi_wp2
          refine ⟨trivial, CallsIn.mono (CallsIn.inRound l2 (callsIn_wide.2 z2.out)) ?_⟩
          rintro _ w3 ⟨bl, rfl, hbl, b3w⟩
          have HB3 := Lib.hid (And.intro (HZ.out.1.past b3w) (And.intro (HZ.out.2.1.past b3w HZ.out.2.1.inside) (And.intro (HZ.out.2.2.1.trans (Holds.below b3w (Nat.le_trans HB.out.2.2.2.2.2.2.2.1 HZ.out.2.2.1.size))) (HZ.out.2.2.2.keep b3w))))
          have HBL := Lib.hid hbl
          clear hbl b3w z2 m0 m1 m2 m3 m4 m5 f2 f3 f4 c2 c3 d4 q3
          cases bl with
          | true =>
            gi_wp2
            obtain ⟨G, hG⟩ : ∃ G, s1.lA = some ⟨G, 0, none⟩ := by
              rcases row_ownK HB3.out.1.wk.row with ⟨_, h0, _⟩ | ⟨G, cur, e, _⟩
              · have := (List.getElem?_eq_some_iff.1 HB.out.2.2.2.1).1; omega
              · exact ⟨G, e⟩
            have hGl : G < W.heap.size := HB.out.1.low G (.inr (by rw [← HB.out.1.e4, hG]; rfl))
            have hplt : p < s1.L.length := (List.getElem?_eq_some_iff.1 HB.out.2.2.2.1).1
            have HFZ := Lib.hid (show ∀ j, w3.frozen? ⟨G, j, none⟩ = false from by
              rcases row_ownK HB3.out.1.wk.row with ⟨h0, _⟩ | ⟨G', cur, e, _, ho, _⟩
              · rw [hG] at h0; cases h0
              · rw [hG] at e
                simp only [Option.some.injEq, Addr.mk.injEq, and_true] at e
                rw [e]
                exact fun j => ho.open_ j)
            have HS := Lib.hid (show ∀ w', KeptK w3 w' (fun q => q = G) → w'.cell? ⟨b0, 0, none⟩ = some (.pointer (some ⟨g, 0, none⟩)) ∧ w'.cell? ⟨g, 1, none⟩ = some (.slice (some ⟨G, 0, none⟩) s1.L.length s1.lc) ∧ Own w' w1.heap.size 63 m'.cells from fun w' k => by
              have hXw := H6.out.2.2.2.2.2.2.1
              have hWX := HB.out.1.kept.size
              refine ⟨cell_keptK k (by show ¬ b0 = G; rw [HK.out.1]; omega) (by rw [HK.out.1]; exact HB3.out.1.w0.at_ 0), cell_keptK k (fun e => HB3.out.1.wk.out (by rw [hG, show (⟨g, 1, none⟩ : Addr).block = g from rfl] at *; exact congrArg some e.symm)) (by rw [← hG]; exact HB3.out.1.wk.own.at_ 1), k.own HB3.out.2.1 (by omega)⟩)
            refine region_round (S := fun w' => KeptK w3 w' (fun q => q = G)) (by kernel_rfl) (by kernel_rfl) (fun h => by obtain ⟨_, _, h⟩ := h; exact h) ((KeptK.refl w3 _).drew) (fun hS => ?_)
            have HFIN := Lib.hid (show Holds V.heap.size M X (setsAt w3 G (p * 10 + 4) m'.cells).drew ∧ ∃ (s2 : Sp) (Ds : List Bt) (c : Nat) (dA : Option Addr) (dc : Nat), WkB W base g s fuel M s2 Ds (c : Int) dA dc (setsAt w3 G (p * 10 + 4) m'.cells).drew ∧ WkSt s.f s.L fuel p s2.L Ds c from by
              have hWX := HB.out.1.kept.size
              have hMX := HB.out.2.2.2.2.2.2.2.1
              obtain ⟨a1, a2⟩ := HB3.out.1.went (B0 := X.heap.size) HB.out.2.2.2.1 HB.out.2.2.2.2.1 HB3.out.2.2.2 H6.out.2.2.2.1 HM.out.2.2.2.2.2.2 H6.out.2.2.2.2.2.1 (fun q hq => by
                rcases hq with hq | hq | hq
                · have := HB.out.1.low q hq; omega
                · omega
                · exact (HB.out.1.rowM q hq).2) HB.out.1.wk.base_ hG
              have e : ((c + k : Nat) : Int) = (c : Int) + (k : Int) := by omega
              have hgo : (leftM m' = 0 ∨ fuel - (c : Int) ≤ (k : Int)) ∧ 0 < k := by
                rcases HM.out.2.2.2.1 with ⟨_, h1, h2⟩ | ⟨h1, _⟩
                · exact ⟨h1, h2 (by omega) HW.out.1.2.2.2.2.2.2⟩
                · exact absurd h1 (by decide)
              refine ⟨HB3.out.2.2.1.trans (Holds.kept a2.drew HB3.out.1.hi (fun q hq => .inl (by have := HB.out.1.low q hq; have := HK.out.2.2.2.2.2.2.2; omega))), _, Ds, c + k, dA, dc, by rw [e]; exact a1.drew, ?_⟩
              exact HB.out.2.1.went HB.out.2.2.1 HB.out.2.2.2.2.1 HM.out.1.a HM.out.1.b HM.out.1.f HM.out.2.1 HM.out.2.2.1 hgo.2 ((left_iff HM.out.2.1).1 (HBL.out.1 (by first | rfl | trivial))) hgo.1 HM.out.2.2.2.2.1 HM.out.2.2.2.2.2.1)
            have q0 : (0 : Int) ≤ (p : Int) := by omega
            have q1 : (p : Int) < (s1.L.length : Int) := by omega
            refine wpAnyH_take (i := 0) (v := .pointer (some ⟨g, 0, none⟩)) rfl (by kernel_rfl) (by kernel_rfl) (by kernel_rfl) (fun _ _ _ h => h) (Or.inl ⟨by rfl, fun w hSw => ?_⟩) hS ?_
            · obtain ⟨y0, yg, yo⟩ := HS.out w hSw
              obtain ⟨n0, n1, n2, n3, n4, n5⟩ := own6 yo
              go_simp
            simp only [Act.put, List.setIfInBounds_toArray, List.set_cons_zero, List.set_cons_succ]
            refine wpAnyH_take (i := 1) (v := .pointer (some ⟨g, 0, none⟩)) rfl (by kernel_rfl) (by kernel_rfl) (by kernel_rfl) (fun _ _ _ h => h) (Or.inl ⟨by rfl, fun w hSw => ?_⟩) hS ?_
            · obtain ⟨y0, yg, yo⟩ := HS.out w hSw
              obtain ⟨n0, n1, n2, n3, n4, n5⟩ := own6 yo
              go_simp
            simp only [Act.put, List.setIfInBounds_toArray, List.set_cons_zero, List.set_cons_succ]
            refine wpAnyH_take (i := 2) (v := .pointer (some ⟨g, 0, none⟩)) rfl (by kernel_rfl) (by kernel_rfl) (by kernel_rfl) (fun _ _ _ h => h) (Or.inl ⟨by rfl, fun w hSw => ?_⟩) hS ?_
            · obtain ⟨y0, yg, yo⟩ := HS.out w hSw
              obtain ⟨n0, n1, n2, n3, n4, n5⟩ := own6 yo
              go_simp
            simp only [Act.put, List.setIfInBounds_toArray, List.set_cons_zero, List.set_cons_succ]
            refine wpAnyH_take (i := 3) (v := .pointer (some ⟨g, 1, none⟩)) rfl (by kernel_rfl) (by kernel_rfl) (by kernel_rfl) (fun _ _ _ h => h) (Or.inl ⟨by rfl, fun w hSw => ?_⟩) hS ?_
            · obtain ⟨y0, yg, yo⟩ := HS.out w hSw
              obtain ⟨n0, n1, n2, n3, n4, n5⟩ := own6 yo
              go_simp
            simp only [Act.put, List.setIfInBounds_toArray, List.set_cons_zero, List.set_cons_succ]
            refine wpAnyH_take (i := 4) (v := .slice (some ⟨G, 0, none⟩) s1.L.length s1.lc) rfl (by kernel_rfl) (by kernel_rfl) (by kernel_rfl) (fun _ _ _ h => h) (Or.inl ⟨by rfl, fun w hSw => ?_⟩) hS ?_
            · obtain ⟨y0, yg, yo⟩ := HS.out w hSw
              obtain ⟨n0, n1, n2, n3, n4, n5⟩ := own6 yo
              go_simp
            simp only [Act.put, List.setIfInBounds_toArray, List.set_cons_zero, List.set_cons_succ]
            refine wpAnyH_take (i := 5) (v := .int .i64 (p : Int)) rfl (by kernel_rfl) (by kernel_rfl) (by kernel_rfl) (fun _ _ _ h => h) (Or.inl ⟨by rfl, fun w hSw => ?_⟩) hS ?_
            · obtain ⟨y0, yg, yo⟩ := HS.out w hSw
              obtain ⟨n0, n1, n2, n3, n4, n5⟩ := own6 yo
              go_simp
            simp only [Act.put, List.setIfInBounds_toArray, List.set_cons_zero, List.set_cons_succ]
            refine wpAnyH_take (i := 6) (v := .agg #[.slice m'.aA m'.a.length m'.ac, .slice m'.bA m'.b.length m'.bc, .int .i64 m'.i, .int .i64 m'.j, .slice m'.sA m'.f.length m'.sc, .slice m'.oA m'.o.length m'.oc]) rfl (by kernel_rfl) (by kernel_rfl) (by kernel_rfl) (fun _ _ _ h => h) (Or.inl ⟨by rfl, fun w hSw => ?_⟩) hS ?_
            · obtain ⟨y0, yg, yo⟩ := HS.out w hSw
              obtain ⟨n0, n1, n2, n3, n4, n5⟩ := own6 yo
              go_simp
            simp only [Act.put, List.setIfInBounds_toArray, List.set_cons_zero, List.set_cons_succ]
            refine wpAnyH_take (i := 7) (v := .pointer (some ⟨G, p * 10, none⟩)) rfl (by kernel_rfl) (by kernel_rfl) (by kernel_rfl) (fun _ _ _ h => h) (Or.inl ⟨by rfl, fun w hSw => ?_⟩) hS ?_
            · obtain ⟨y0, yg, yo⟩ := HS.out w hSw
              obtain ⟨n0, n1, n2, n3, n4, n5⟩ := own6 yo
              go_simp
            simp only [Act.put, List.setIfInBounds_toArray, List.set_cons_zero, List.set_cons_succ]
            refine wpAnyH_take (i := 8) (v := .pointer (some ⟨G, p * 10 + 4, none⟩)) rfl (by kernel_rfl) (by kernel_rfl) (by kernel_rfl) (fun _ _ _ h => h) (Or.inl ⟨by rfl, fun w hSw => ?_⟩) hS ?_
            · obtain ⟨y0, yg, yo⟩ := HS.out w hSw
              obtain ⟨n0, n1, n2, n3, n4, n5⟩ := own6 yo
              go_simp
            simp only [Act.put, List.setIfInBounds_toArray, List.set_cons_zero, List.set_cons_succ]
            have HC := Lib.hid (show ∀ (i : Nat) (u : Value), (⟨l.cls, l.busy, l.b, l.m⟩ : Lv).cells[i]? = some u → w3.drew.cell? ⟨G, p * 10 + i, none⟩ = some u from fun i u hu => by
              obtain ⟨b', o', e, _, hcell⟩ := HB3.out.1.wk.lies.head (by omega)
              rw [hG] at e
              simp only [Option.some.injEq, Addr.mk.injEq, and_true] at e
              obtain ⟨rfl, rfl⟩ := e
              have := hcell p l HB.out.2.2.2.1 i u hu
              rwa [Nat.zero_add] at this)
            have v4 : w3.cell? ⟨G, p * 10 + 4, none⟩ = some (.slice l.m.aA l.m.a.length l.m.ac) := HC.out 4 _ rfl
            have g4 : w3.frozen? ⟨G, p * 10 + 4, none⟩ = false := HFZ.out _
            have v5 : w3.cell? ⟨G, p * 10 + 4 + 1, none⟩ = some (.slice l.m.bA l.m.b.length l.m.bc) := HC.out 5 _ rfl
            have g5 : w3.frozen? ⟨G, p * 10 + 4 + 1, none⟩ = false := HFZ.out _
            have v6 : w3.cell? ⟨G, p * 10 + 4 + 2, none⟩ = some (.int .i64 l.m.i) := HC.out 6 _ rfl
            have g6 : w3.frozen? ⟨G, p * 10 + 4 + 2, none⟩ = false := HFZ.out _
            have v7 : w3.cell? ⟨G, p * 10 + 4 + 3, none⟩ = some (.int .i64 l.m.j) := HC.out 7 _ rfl
            have g7 : w3.frozen? ⟨G, p * 10 + 4 + 3, none⟩ = false := HFZ.out _
            have v8 : w3.cell? ⟨G, p * 10 + 4 + 4, none⟩ = some (.slice l.m.sA l.m.f.length l.m.sc) := HC.out 8 _ rfl
            have g8 : w3.frozen? ⟨G, p * 10 + 4 + 4, none⟩ = false := HFZ.out _
            have v9 : w3.cell? ⟨G, p * 10 + 4 + 5, none⟩ = some (.slice l.m.oA l.m.o.length l.m.oc) := HC.out 9 _ rfl
            have g9 : w3.frozen? ⟨G, p * 10 + 4 + 5, none⟩ = false := HFZ.out _
            refine wpAnyH_ready (rs := [9]) (by kernel_rfl) (by simp) ?_
            refine AllReadyH.cons rfl (fun K hK => ?_) AllReadyH.nil
            go_simp
            refine hK.out _ _ ?_ (fun hHeld => ?_)
            · exact (setsAt_kept (S := fun q => q = G) (.inl rfl) m'.cells w3 (p * 10 + 4) (KeptK.refl _ _)).drew
            clear hK K
            refine wpAnyH_done (by kernel_rfl) ?_ _
            gi_wp2
            exact HFIN.out
          | false =>
            gi_wp2
            have h0 : leftM m' = 0 := by
              have h1 := (left_iff HM.out.2.1).2
              have h2 := HBL.out.2
              by_cases hz : 0 < leftM m'
              · exact absurd (h2 (h1 hz)) (by decide)
              · omega
            have hplt : p < s1.L.length := (List.getElem?_eq_some_iff.1 HB.out.2.2.2.1).1
            have hwl := wt_le (List.mem_of_getElem? HB.out.2.2.2.1)
            have hwtl : wtL l = max (l.m.a.length + l.m.b.length) (partsM l.m).length := by unfold wtL; rw [if_pos HB.out.2.2.2.2.1]
            have hno : m'.o.length ≤ 274877906944 := by
              have h1 := HM.out.2.2.2.2.2.1
              have h2 : m'.o.length ≤ (partsM m').length := by unfold partsM; rw [List.length_append, List.length_append]; omega
              have h3 := HB.out.2.1.wt
              omega
            have hB3d := HB3.out.1.drew
            have hlo : ∀ q, SpS g s1.lA q → q < X.heap.size := fun q hq => by
              rw [HB.out.1.e4] at hq
              have h1 := HB.out.1.low q hq
              have h2 := HB.out.1.kept.size
              omega
            have y := Lib.hid (ends_any base g p s1 m' w3.drew hB3d.wk hplt (HB3.out.2.2.2.keep (Below.drew (Below.refl _ _))) H6.out.2.2.2.1 (H6.out.2.2.2.2.2.1.of hlo) hno (end_of HM.out.2.1 h0))
            have HD3 := Lib.hid hB3d
            have H0 := Lib.hid h0
            unfold Mg.val at y
            clear h0 hwl hwtl hno hB3d hlo
            obtain ⟨i0, hi0, hz0, hz1, hz2⟩ := info_parts infoBt
            have HI := Lib.hid (And.intro hi0 (And.intro hz0 (And.intro hz1 hz2)))
            have hU : Tryz.prog.underlying 121 = some (.slice 61) := by kernel_rfl
            have HU := Lib.hid hU
            clear hi0 hz0 hz1 hz2 hU
            have hDl : Ds.length ≤ 1048576 := by
              have e1 := HB.out.2.1.busy
              have e2 : busyN s.L ≤ s.L.length := List.length_filter_le ..
              omega
            have HDL := Lib.hid hDl
            clear hDl
            have HFN := Lib.hid (show ∀ (b : Bt) (w4 w5 w6 : World) (dA' : Option Addr) (dc' : Nat), WkB W base g s fuel M ⟨s1.sA, s1.sc, s1.f, s1.lA, s1.lc, s1.L.eraseIdx p⟩ Ds ((c : Int) + (k : Int)) dA dc w4 → KeptK w3.drew w4 (SpS g s.lA) → b.f = m'.f → b.l.map Up.p = m'.o.map Up.p → BtIn w4 w4.heap.size b → BtOk b → BtLo base b → OfB (fun k => SpS g s.lA k ∨ Aw W M dA k) b → Below w4.heap.size w4 w5 → w5.heap.size = w4.heap.size + 1 →
                w6.ownsRow M 61 2 (.slice dA' (Ds.length + 1) dc') (Ds.length + 1) (Ds.flatMap Bt.cells ++ [b].flatMap Bt.cells) → (blkS dA' = blkS dA ∨ blkS dA' = some w5.heap.size) → w5.grownBy w6 (blkS dA) →
                Holds V.heap.size M X (w6.setCell ⟨b5, 0, none⟩ (.slice dA' (Ds.length + 1) dc')) ∧ ∃ (s2 : Sp) (D2 : List Bt) (c2 : Nat) (dA2 : Option Addr) (dc2 : Nat), WkB W base g s fuel M s2 D2 (c2 : Int) dA2 dc2 (w6.setCell ⟨b5, 0, none⟩ (.slice dA' (Ds.length + 1) dc')) ∧ WkSt s.f s.L fuel p s2.L D2 c2 from by
              intro b w4 w5 w6 dA' dc' a1 a2 a3 a4 a5 a6 a7 a8 hb5 hs5 hr6 hob hg6
              have hp := a1.pushed (Y := w5) hb5 a5 a6 a7 a8 hr6 hob hg6
              have T : TookOut s.f s1.L p b := take_out HB.out.2.1.good HB.out.2.2.2.1 HB.out.2.2.2.2.1 HW.out.2.m.o.ok HM.out.1 rfl H0.out a3 a4
              have hk0 : 0 < k := by
                rcases HM.out.2.2.2.1 with ⟨_, h1, h2⟩ | ⟨h1, _⟩
                · exact h2 (by omega) HW.out.1.2.2.2.2.2.2
                · exact absurd h1 (by decide)
              have hkl : k = leftM l.m := by have h1 := HM.out.2.2.1; have h2 := H0.out; omega
              have st := HB.out.2.1.took HB.out.2.2.1 HB.out.2.2.2.2.1 T hkl hk0
              have e : ((c + k : Nat) : Int) = (c : Int) + (k : Int) := by omega
              have k5 := HK.out.2.2.2.2.2.1
              have k7 := HK.out.2.2.2.2.2.2.2
              have hM3 := HD3.out.hi
              have hM4 := a1.hi
              have h0 : Holds V.heap.size M w3 w3.drew := ⟨Nat.le_refl _, fun _ _ _ => rfl⟩
              have h1 : Holds V.heap.size M w3.drew w4 := Holds.kept a2 hM3 (fun q hq => .inl (by have := HB.out.1.low q hq; omega))
              have h2 : Holds V.heap.size M w4 w5 := Holds.below hb5 hM4
              have h3 : Holds V.heap.size M w5 w6 := Holds.grown hg6 (by omega) (fun r hr => .inr (a1.rowM r hr).1)
              have h4 : Holds V.heap.size M w6 (w6.setCell ⟨b5, 0, none⟩ (.slice dA' (Ds.length + 1) dc')) := Holds.setc _ _ _ (.inl (by show b5 < _; omega))
              exact ⟨((((HB3.out.2.2.1.trans h0).trans h1).trans h2).trans h3).trans h4, _, Ds ++ [b], c + k, dA', dc', by rw [e, k5]; exact hp, st⟩)
            have x5 : w3.cell? ⟨b5, 0, none⟩ = some (.slice dA Ds.length dc) := by rw [HK.out.2.2.2.2.2.1]; exact HB3.out.1.w5.at_ 0
            have s0 : w3.drew.cell? ⟨b0, 0, none⟩ = some (.pointer (some ⟨g, 0, none⟩)) := by rw [HK.out.1]; exact HB3.out.1.w0.at_ 0
            refine region_round (S := fun w' => w'.cell? ⟨b0, 0, none⟩ = some (.pointer (some ⟨g, 0, none⟩)) ∧ Own w' w1.heap.size 63 m'.cells) (by kernel_rfl) (by kernel_rfl) (fun h => by obtain ⟨_, _, h⟩ := h; exact h) ⟨s0, HB3.out.2.1⟩ (fun hS => ?_)
            refine wpAnyH_take (i := 1) (v := .pointer (some ⟨g, 0, none⟩)) rfl (by kernel_rfl) (by kernel_rfl) (by kernel_rfl) (fun _ _ _ h => h) (Or.inl ⟨by rfl, fun w hSw => ?_⟩) hS ?_
            · obtain ⟨y0, yo⟩ := hSw
              obtain ⟨n0, n1, n2, n3, n4, n5⟩ := own6 yo
              go_simp
            simp only [Act.put, List.setIfInBounds_toArray, List.set_cons_zero, List.set_cons_succ]
            refine wpAnyH_take (i := 2) (v := .int .i64 (p : Int)) rfl (by kernel_rfl) (by kernel_rfl) (by kernel_rfl) (fun _ _ _ h => h) (Or.inl ⟨by rfl, fun w hSw => ?_⟩) hS ?_
            · obtain ⟨y0, yo⟩ := hSw
              obtain ⟨n0, n1, n2, n3, n4, n5⟩ := own6 yo
              go_simp
            simp only [Act.put, List.setIfInBounds_toArray, List.set_cons_zero, List.set_cons_succ]
            refine wpAnyH_take (i := 3) (v := .agg #[.slice m'.aA m'.a.length m'.ac, .slice m'.bA m'.b.length m'.bc, .int .i64 m'.i, .int .i64 m'.j, .slice m'.sA m'.f.length m'.sc, .slice m'.oA m'.o.length m'.oc]) rfl (by kernel_rfl) (by kernel_rfl) (by kernel_rfl) (fun _ _ _ h => h) (Or.inl ⟨by rfl, fun w hSw => ?_⟩) hS ?_
            · obtain ⟨y0, yo⟩ := hSw
              obtain ⟨n0, n1, n2, n3, n4, n5⟩ := own6 yo
              go_simp
            simp only [Act.put, List.setIfInBounds_toArray, List.set_cons_zero, List.set_cons_succ]
            refine wpAnyH_ready (rs := [0, 4]) (by kernel_rfl) (by simp) ?_
            refine AllReadyH.cons rfl (fun K hK => ?_) (AllReadyH.cons rfl (fun K hK => ?_) AllReadyH.nil)
            · go_simp
              refine hK.out _ _ hS (fun _ => ?_)
              clear hK K
              try simp only [Act.put, List.setIfInBounds_toArray, List.set_cons_zero, List.set_cons_succ]
              refine wpAnyH_ready (rs := [4]) (by kernel_rfl) (by simp) ?_
              refine AllReadyH.cons rfl (fun K hK => ?_) AllReadyH.nil
              go_simp
              refine y.out.mono ?_
              rintro _ w4 hEnd
              obtain ⟨b, rfl, a1, a2, a3, a4, a5, a6, a7, a8⟩ := HD3.out.ended hEnd
              have hS4 : w4.cell? ⟨b0, 0, none⟩ = some (.pointer (some ⟨g, 0, none⟩)) ∧ Own w4 w1.heap.size 63 m'.cells := ⟨by rw [HK.out.1]; exact a1.w0.at_ 0, a2.own HB3.out.2.1 (fun e => by have h1 := HB.out.1.low _ e; have h2 := HB.out.1.kept.size; have h3 := H6.out.2.2.2.2.2.2.1; omega)⟩
              have x54 : w4.cell? ⟨b5, 0, none⟩ = some (.slice dA Ds.length dc) := by rw [HK.out.2.2.2.2.2.1]; exact a1.w5.at_ 0
              have HE := Lib.hid (And.intro a1 (And.intro a2 (And.intro a3 (And.intro a4 (And.intro a5 (And.intro a6 (And.intro a7 a8)))))))
              clear hEnd a1 a2 a3 a4 a5 a6 a7 a8
              unfold Bt.val
              refine hK.out _ _ hS4 (fun _ => ?_)
              clear hK K
              try simp only [Act.put, List.setIfInBounds_toArray, List.set_cons_zero, List.set_cons_succ]
              refine wpAnyH_ready (rs := [5]) (by kernel_rfl) (by simp) ?_
              refine AllReadyH.cons rfl (fun K hK => ?_) AllReadyH.nil
              go_simp
              obtain ⟨w5, hw5, hb5, hs5, ho5⟩ := btbox w4 b
              rw [← hw5]
              have hS5 : w5.cell? ⟨b0, 0, none⟩ = some (.pointer (some ⟨g, 0, none⟩)) ∧ Own w5 w1.heap.size 63 m'.cells := ⟨by rw [HK.out.1]; exact (HE.out.1.past hb5).w0.at_ 0, hS4.2.past hb5 hS4.2.inside⟩
              have x55 : w5.cell? ⟨b5, 0, none⟩ = some (.slice dA Ds.length dc) := by rw [HK.out.2.2.2.2.2.1]; exact (HE.out.1.past hb5).w5.at_ 0
              have H5 := Lib.hid (And.intro hw5 (And.intro hb5 (And.intro hs5 ho5)))
              clear hw5 hb5 hs5 ho5
              refine hK.out _ _ hS5 (fun _ => ?_)
              clear hK K
              try simp only [Act.put, List.setIfInBounds_toArray, List.set_cons_zero, List.set_cons_succ]
              refine wpAnyH_ready (rs := [6]) (by kernel_rfl) (by simp) ?_
              refine AllReadyH.cons rfl (fun K hK => ?_) AllReadyH.nil
              refine step_append_anyS (size := 2) (cells := Bt.cells) (l := [b]) (A := some ⟨w4.heap.size, 0, none⟩) (B := w4.heap.size + 1) w5 rfl (.tmp 49) (.tmp 54) 121 61 rfl i0 _ 48 HU.out HI.out.1 HI.out.2.1 HI.out.2.2.1 HI.out.2.2.2 rfl (by decide) (fun _ => rfl) bt_one M (.slice dA Ds.length dc) Ds.length (Ds.flatMap Bt.cells) rfl (HE.out.1.past H5.out.2.1).row 1 rfl (by rw [H5.out.1]; exact bt_lies w4 b) (by have := HDL.out; show Ds.length + 1 ≤ maxLen; unfold maxLen; omega) (by have := HDL.out; show (Ds.length + 1) * 48 ≤ _; omega) (HE.out.1.past H5.out.2.1).hi ?_
              intro v' w6 hr6 hb6 hob6 hg6
              obtain ⟨dA', dc', rfl⟩ := slice_of_row hr6
              rw [blkS_own, blkS_own] at hob6
              rw [blkS_own] at hg6
              have k6 : KeptK w5 w6 (fun q => blkS dA = some q) := KeptK.of_grown hg6 (fun _ e => e)
              have hrM := HE.out.1.rowM
              have hMM := HE.out.1.lo
              have nb0 : ¬ blkS dA = some b0 := fun e => by have h1 := (hrM _ e).1; have h2 := HK.out.1; omega
              have nb5 : ¬ blkS dA = some b5 := fun e => by have h1 := (hrM _ e).1; have h2 := HK.out.2.2.2.2.2.1; omega
              have nbm : ¬ blkS dA = some w1.heap.size := fun e => by have h1 := (HB.out.1.rowM _ e).2; have h2 := H6.out.2.2.2.2.2.2.1; omega
              have hS6 : w6.cell? ⟨b0, 0, none⟩ = some (.pointer (some ⟨g, 0, none⟩)) ∧ Own w6 w1.heap.size 63 m'.cells := ⟨cell_keptK k6 nb0 hS5.1, k6.own hS5.2 nbm⟩
              have o5 : Own w6 b5 121 [.slice dA Ds.length dc] := by
                have h1 := (HE.out.1.past H5.out.2.1).w5
                rw [← HK.out.2.2.2.2.2.1] at h1
                exact k6.own h1 nb5
              have x56 : w6.cell? ⟨b5, 0, none⟩ = some (.slice dA Ds.length dc) := o5.at_ 0
              have f56 : w6.frozen? ⟨b5, 0, none⟩ = false := o5.open_ 0
              have HFIN := Lib.hid (HFN.out b w4 w5 w6 dA' dc' HE.out.1 HE.out.2.1 HE.out.2.2.1 HE.out.2.2.2.1 HE.out.2.2.2.2.1 HE.out.2.2.2.2.2.1 HE.out.2.2.2.2.2.2.1 HE.out.2.2.2.2.2.2.2 H5.out.2.1 H5.out.2.2.1 hr6 hob6 hg6)
              have HS7 := Lib.hid (show (w6.setCell ⟨b5, 0, none⟩ (.slice dA' (Ds.length + 1) dc')).cell? ⟨b0, 0, none⟩ = some (.pointer (some ⟨g, 0, none⟩)) ∧ Own (w6.setCell ⟨b5, 0, none⟩ (.slice dA' (Ds.length + 1) dc')) w1.heap.size 63 m'.cells from by
                have kk := (KeptK.refl w6 (fun q => q = b5)).set_ (o := 0) (.inl rfl) (.slice dA' (Ds.length + 1) dc')
                have hWX := HB.out.1.kept.size
                have hXw := H6.out.2.2.2.2.2.2.1
                have hb5 := HB.out.1.w5.inside
                have h5 := HK.out.2.2.2.2.2.1
                have h0 := HK.out.1
                exact ⟨cell_keptK kk (by show ¬ b0 = b5; omega) hS6.1, kk.own hS6.2 (by omega)⟩)
              clear hr6 hb6 hob6 hg6 k6 hrM hMM nb0 nb5 nbm o5
              refine hK.out _ _ hS6 (fun _ => ?_)
              clear hK K
              try simp only [Act.put, List.setIfInBounds_toArray, List.set_cons_zero, List.set_cons_succ]
              refine wpAnyH_ready (rs := [7]) (by kernel_rfl) (by simp) ?_
              refine AllReadyH.cons rfl (fun K hK => ?_) AllReadyH.nil
              go_simp
              refine hK.out _ _ HS7.out (fun _ => ?_)
              clear hK K
              refine wpAnyH_done (by kernel_rfl) ?_ _
              gi_wp2
              exact HFIN.out
            · go_simp
              refine y.out.mono ?_
              rintro _ w4 hEnd
              obtain ⟨b, rfl, a1, a2, a3, a4, a5, a6, a7, a8⟩ := HD3.out.ended hEnd
              have hS4 : w4.cell? ⟨b0, 0, none⟩ = some (.pointer (some ⟨g, 0, none⟩)) ∧ Own w4 w1.heap.size 63 m'.cells := ⟨by rw [HK.out.1]; exact a1.w0.at_ 0, a2.own HB3.out.2.1 (fun e => by have h1 := HB.out.1.low _ e; have h2 := HB.out.1.kept.size; have h3 := H6.out.2.2.2.2.2.2.1; omega)⟩
              have x54 : w4.cell? ⟨b5, 0, none⟩ = some (.slice dA Ds.length dc) := by rw [HK.out.2.2.2.2.2.1]; exact a1.w5.at_ 0
              have HE := Lib.hid (And.intro a1 (And.intro a2 (And.intro a3 (And.intro a4 (And.intro a5 (And.intro a6 (And.intro a7 a8)))))))
              clear hEnd a1 a2 a3 a4 a5 a6 a7 a8
              unfold Bt.val
              refine hK.out _ _ hS4 (fun _ => ?_)
              clear hK K
              try simp only [Act.put, List.setIfInBounds_toArray, List.set_cons_zero, List.set_cons_succ]
              refine wpAnyH_ready (rs := [0, 5]) (by kernel_rfl) (by simp) ?_
              refine AllReadyH.cons rfl (fun K hK => ?_) (AllReadyH.cons rfl (fun K hK => ?_) AllReadyH.nil)
              · go_simp
                refine hK.out _ _ hS4 (fun _ => ?_)
                clear hK K
                try simp only [Act.put, List.setIfInBounds_toArray, List.set_cons_zero, List.set_cons_succ]
                refine wpAnyH_ready (rs := [5]) (by kernel_rfl) (by simp) ?_
                refine AllReadyH.cons rfl (fun K hK => ?_) AllReadyH.nil
                go_simp
                obtain ⟨w5, hw5, hb5, hs5, ho5⟩ := btbox w4 b
                rw [← hw5]
                have hS5 : w5.cell? ⟨b0, 0, none⟩ = some (.pointer (some ⟨g, 0, none⟩)) ∧ Own w5 w1.heap.size 63 m'.cells := ⟨by rw [HK.out.1]; exact (HE.out.1.past hb5).w0.at_ 0, hS4.2.past hb5 hS4.2.inside⟩
                have x55 : w5.cell? ⟨b5, 0, none⟩ = some (.slice dA Ds.length dc) := by rw [HK.out.2.2.2.2.2.1]; exact (HE.out.1.past hb5).w5.at_ 0
                have H5 := Lib.hid (And.intro hw5 (And.intro hb5 (And.intro hs5 ho5)))
                clear hw5 hb5 hs5 ho5
                refine hK.out _ _ hS5 (fun _ => ?_)
                clear hK K
                try simp only [Act.put, List.setIfInBounds_toArray, List.set_cons_zero, List.set_cons_succ]
                refine wpAnyH_ready (rs := [6]) (by kernel_rfl) (by simp) ?_
                refine AllReadyH.cons rfl (fun K hK => ?_) AllReadyH.nil
                refine step_append_anyS (size := 2) (cells := Bt.cells) (l := [b]) (A := some ⟨w4.heap.size, 0, none⟩) (B := w4.heap.size + 1) w5 rfl (.tmp 49) (.tmp 54) 121 61 rfl i0 _ 48 HU.out HI.out.1 HI.out.2.1 HI.out.2.2.1 HI.out.2.2.2 rfl (by decide) (fun _ => rfl) bt_one M (.slice dA Ds.length dc) Ds.length (Ds.flatMap Bt.cells) rfl (HE.out.1.past H5.out.2.1).row 1 rfl (by rw [H5.out.1]; exact bt_lies w4 b) (by have := HDL.out; show Ds.length + 1 ≤ maxLen; unfold maxLen; omega) (by have := HDL.out; show (Ds.length + 1) * 48 ≤ _; omega) (HE.out.1.past H5.out.2.1).hi ?_
                intro v' w6 hr6 hb6 hob6 hg6
                obtain ⟨dA', dc', rfl⟩ := slice_of_row hr6
                rw [blkS_own, blkS_own] at hob6
                rw [blkS_own] at hg6
                have k6 : KeptK w5 w6 (fun q => blkS dA = some q) := KeptK.of_grown hg6 (fun _ e => e)
                have hrM := HE.out.1.rowM
                have hMM := HE.out.1.lo
                have nb0 : ¬ blkS dA = some b0 := fun e => by have h1 := (hrM _ e).1; have h2 := HK.out.1; omega
                have nb5 : ¬ blkS dA = some b5 := fun e => by have h1 := (hrM _ e).1; have h2 := HK.out.2.2.2.2.2.1; omega
                have nbm : ¬ blkS dA = some w1.heap.size := fun e => by have h1 := (HB.out.1.rowM _ e).2; have h2 := H6.out.2.2.2.2.2.2.1; omega
                have hS6 : w6.cell? ⟨b0, 0, none⟩ = some (.pointer (some ⟨g, 0, none⟩)) ∧ Own w6 w1.heap.size 63 m'.cells := ⟨cell_keptK k6 nb0 hS5.1, k6.own hS5.2 nbm⟩
                have o5 : Own w6 b5 121 [.slice dA Ds.length dc] := by
                  have h1 := (HE.out.1.past H5.out.2.1).w5
                  rw [← HK.out.2.2.2.2.2.1] at h1
                  exact k6.own h1 nb5
                have x56 : w6.cell? ⟨b5, 0, none⟩ = some (.slice dA Ds.length dc) := o5.at_ 0
                have f56 : w6.frozen? ⟨b5, 0, none⟩ = false := o5.open_ 0
                have HFIN := Lib.hid (HFN.out b w4 w5 w6 dA' dc' HE.out.1 HE.out.2.1 HE.out.2.2.1 HE.out.2.2.2.1 HE.out.2.2.2.2.1 HE.out.2.2.2.2.2.1 HE.out.2.2.2.2.2.2.1 HE.out.2.2.2.2.2.2.2 H5.out.2.1 H5.out.2.2.1 hr6 hob6 hg6)
                have HS7 := Lib.hid (show (w6.setCell ⟨b5, 0, none⟩ (.slice dA' (Ds.length + 1) dc')).cell? ⟨b0, 0, none⟩ = some (.pointer (some ⟨g, 0, none⟩)) ∧ Own (w6.setCell ⟨b5, 0, none⟩ (.slice dA' (Ds.length + 1) dc')) w1.heap.size 63 m'.cells from by
                  have kk := (KeptK.refl w6 (fun q => q = b5)).set_ (o := 0) (.inl rfl) (.slice dA' (Ds.length + 1) dc')
                  have hWX := HB.out.1.kept.size
                  have hXw := H6.out.2.2.2.2.2.2.1
                  have hb5 := HB.out.1.w5.inside
                  have h5 := HK.out.2.2.2.2.2.1
                  have h0 := HK.out.1
                  exact ⟨cell_keptK kk (by show ¬ b0 = b5; omega) hS6.1, kk.own hS6.2 (by omega)⟩)
                clear hr6 hb6 hob6 hg6 k6 hrM hMM nb0 nb5 nbm o5
                refine hK.out _ _ hS6 (fun _ => ?_)
                clear hK K
                try simp only [Act.put, List.setIfInBounds_toArray, List.set_cons_zero, List.set_cons_succ]
                refine wpAnyH_ready (rs := [7]) (by kernel_rfl) (by simp) ?_
                refine AllReadyH.cons rfl (fun K hK => ?_) AllReadyH.nil
                go_simp
                refine hK.out _ _ HS7.out (fun _ => ?_)
                clear hK K
                refine wpAnyH_done (by kernel_rfl) ?_ _
                gi_wp2
                exact HFIN.out
              · go_simp
                obtain ⟨w5, hw5, hb5, hs5, ho5⟩ := btbox w4 b
                rw [← hw5]
                have hS5 : w5.cell? ⟨b0, 0, none⟩ = some (.pointer (some ⟨g, 0, none⟩)) ∧ Own w5 w1.heap.size 63 m'.cells := ⟨by rw [HK.out.1]; exact (HE.out.1.past hb5).w0.at_ 0, hS4.2.past hb5 hS4.2.inside⟩
                have x55 : w5.cell? ⟨b5, 0, none⟩ = some (.slice dA Ds.length dc) := by rw [HK.out.2.2.2.2.2.1]; exact (HE.out.1.past hb5).w5.at_ 0
                have H5 := Lib.hid (And.intro hw5 (And.intro hb5 (And.intro hs5 ho5)))
                clear hw5 hb5 hs5 ho5
                refine hK.out _ _ hS5 (fun _ => ?_)
                clear hK K
                try simp only [Act.put, List.setIfInBounds_toArray, List.set_cons_zero, List.set_cons_succ]
                refine wpAnyH_ready (rs := [0]) (by kernel_rfl) (by simp) ?_
                refine AllReadyH.cons rfl (fun K hK => ?_) AllReadyH.nil
                go_simp
                refine hK.out _ _ hS5 (fun _ => ?_)
                clear hK K
                try simp only [Act.put, List.setIfInBounds_toArray, List.set_cons_zero, List.set_cons_succ]
                refine wpAnyH_ready (rs := [6]) (by kernel_rfl) (by simp) ?_
                refine AllReadyH.cons rfl (fun K hK => ?_) AllReadyH.nil
                refine step_append_anyS (size := 2) (cells := Bt.cells) (l := [b]) (A := some ⟨w4.heap.size, 0, none⟩) (B := w4.heap.size + 1) w5 rfl (.tmp 49) (.tmp 54) 121 61 rfl i0 _ 48 HU.out HI.out.1 HI.out.2.1 HI.out.2.2.1 HI.out.2.2.2 rfl (by decide) (fun _ => rfl) bt_one M (.slice dA Ds.length dc) Ds.length (Ds.flatMap Bt.cells) rfl (HE.out.1.past H5.out.2.1).row 1 rfl (by rw [H5.out.1]; exact bt_lies w4 b) (by have := HDL.out; show Ds.length + 1 ≤ maxLen; unfold maxLen; omega) (by have := HDL.out; show (Ds.length + 1) * 48 ≤ _; omega) (HE.out.1.past H5.out.2.1).hi ?_
                intro v' w6 hr6 hb6 hob6 hg6
                obtain ⟨dA', dc', rfl⟩ := slice_of_row hr6
                rw [blkS_own, blkS_own] at hob6
                rw [blkS_own] at hg6
                have k6 : KeptK w5 w6 (fun q => blkS dA = some q) := KeptK.of_grown hg6 (fun _ e => e)
                have hrM := HE.out.1.rowM
                have hMM := HE.out.1.lo
                have nb0 : ¬ blkS dA = some b0 := fun e => by have h1 := (hrM _ e).1; have h2 := HK.out.1; omega
                have nb5 : ¬ blkS dA = some b5 := fun e => by have h1 := (hrM _ e).1; have h2 := HK.out.2.2.2.2.2.1; omega
                have nbm : ¬ blkS dA = some w1.heap.size := fun e => by have h1 := (HB.out.1.rowM _ e).2; have h2 := H6.out.2.2.2.2.2.2.1; omega
                have hS6 : w6.cell? ⟨b0, 0, none⟩ = some (.pointer (some ⟨g, 0, none⟩)) ∧ Own w6 w1.heap.size 63 m'.cells := ⟨cell_keptK k6 nb0 hS5.1, k6.own hS5.2 nbm⟩
                have o5 : Own w6 b5 121 [.slice dA Ds.length dc] := by
                  have h1 := (HE.out.1.past H5.out.2.1).w5
                  rw [← HK.out.2.2.2.2.2.1] at h1
                  exact k6.own h1 nb5
                have x56 : w6.cell? ⟨b5, 0, none⟩ = some (.slice dA Ds.length dc) := o5.at_ 0
                have f56 : w6.frozen? ⟨b5, 0, none⟩ = false := o5.open_ 0
                have HFIN := Lib.hid (HFN.out b w4 w5 w6 dA' dc' HE.out.1 HE.out.2.1 HE.out.2.2.1 HE.out.2.2.2.1 HE.out.2.2.2.2.1 HE.out.2.2.2.2.2.1 HE.out.2.2.2.2.2.2.1 HE.out.2.2.2.2.2.2.2 H5.out.2.1 H5.out.2.2.1 hr6 hob6 hg6)
                have HS7 := Lib.hid (show (w6.setCell ⟨b5, 0, none⟩ (.slice dA' (Ds.length + 1) dc')).cell? ⟨b0, 0, none⟩ = some (.pointer (some ⟨g, 0, none⟩)) ∧ Own (w6.setCell ⟨b5, 0, none⟩ (.slice dA' (Ds.length + 1) dc')) w1.heap.size 63 m'.cells from by
                  have kk := (KeptK.refl w6 (fun q => q = b5)).set_ (o := 0) (.inl rfl) (.slice dA' (Ds.length + 1) dc')
                  have hWX := HB.out.1.kept.size
                  have hXw := H6.out.2.2.2.2.2.2.1
                  have hb5 := HB.out.1.w5.inside
                  have h5 := HK.out.2.2.2.2.2.1
                  have h0 := HK.out.1
                  exact ⟨cell_keptK kk (by show ¬ b0 = b5; omega) hS6.1, kk.own hS6.2 (by omega)⟩)
                clear hr6 hb6 hob6 hg6 k6 hrM hMM nb0 nb5 nbm o5
                refine hK.out _ _ hS6 (fun _ => ?_)
                clear hK K
                try simp only [Act.put, List.setIfInBounds_toArray, List.set_cons_zero, List.set_cons_succ]
                refine wpAnyH_ready (rs := [7]) (by kernel_rfl) (by simp) ?_
                refine AllReadyH.cons rfl (fun K hK => ?_) AllReadyH.nil
                go_simp
                refine hK.out _ _ HS7.out (fun _ => ?_)
                clear hK K
                refine wpAnyH_done (by kernel_rfl) ?_ _
                gi_wp2
                exact HFIN.out
    case done =>
      rintro D M X hD ⟨s1, Ds, c, dA, dc, h1, h2⟩ hk
      exact ⟨D, hD, hk, rfl, .inl ⟨.inl rfl, M, 0, s1, Ds, c, dA, dc, h1, h2, .inl rfl⟩⟩
    case stop =>
      rintro D M j X hD hh hk
      rcases hh with ⟨rfl, h1⟩ | ⟨rfl, p, s1, Ds, c, dA, dc, h1, h2, h3⟩
      · exact wpIn_ret ⟨D, hD, hk, rfl, .inr ⟨rfl, h1⟩⟩
      · exact wpIn_exit ⟨D, hD, hk, rfl, .inl ⟨.inr rfl, M, p, s1, Ds, c, dA, dc, h1, h2, .inr h3⟩⟩
  case after =>
    rintro e a X ⟨D, hD, hk, rfl, hh⟩
    rcases hh with ⟨he, M, p, s1, Ds, c, dA, dc, h1, h2, h3⟩ | ⟨rfl, h1⟩
    · refine inBlock_two he ?_
      have hDs : Ds.length ≤ 1048576 := by
        have e1 := h2.busy
        have e2 : busyN s.L ≤ s.L.length := List.length_filter_le ..
        omega
      have H1 := Lib.hid (h1.toP h2)
      have H2 := Lib.hid (And.intro h2 h3)
      have d5 : X.cell? ⟨b5, 0, none⟩ = some (.slice dA Ds.length dc) := by rw [HK.out.2.2.2.2.2.1]; exact h1.w5.at_ 0
      clear h1 h2 h3
      gi_wp2
      have hDX := (Array.getElem?_eq_some_iff.1 hk).1
      have HD := Lib.hid (And.intro hD hDX)
      gi_loopw [58] (fun v wr => ∃ (j : Nat) (sj : Sp), v = .int .i64 (j : Int) ∧ j ≤ Ds.length ∧ WkP W X base g s M Ds c dA dc s1.L j sj wr ∧ wr.heap[D]? = some (.deferred (some []))) (fun v _ => Ds.length - (intOf v).toNat)
      case atStart => exact ⟨0, s1, rfl, Nat.zero_le _, H1.out, hk⟩
      case round =>
        obtain ⟨j, sj, rfl, hj, hp, hkd⟩ := hrel
        by_cases hlt : j < Ds.length
        · obtain ⟨d, hd⟩ : ∃ d, Ds[j]? = some d := ⟨_, List.getElem?_eq_getElem hlt⟩
          obtain ⟨Gd, hGd, r0, r1⟩ := row_two (n := 0) hp.row hd
          have HG := Lib.hid hGd
          obtain ⟨V2, hV2, hb2, hs2, ho2⟩ := btbox wr d
          have hp2 := hp.past hb2
          have y := Lib.hid (put_any base g _ sj d V2 (hp2.may hwt H2.out.1.each hd) (Nat.le_refl _))
          have a0 : V2.cell? ⟨b0, 0, none⟩ = some (.pointer (some ⟨g, 0, none⟩)) := by rw [HK.out.1]; exact hp2.w0.at_ 0
          obtain ⟨e0, e1⟩ := own2 ho2
          have HP := Lib.hid (And.intro hp2 (And.intro hd (And.intro hlt ((hb2.block D (Array.getElem?_eq_some_iff.1 hkd).1).trans hkd))))
          have q0 : (0 : Int) ≤ (j : Int) := by omega
          have q1 : (j : Int) < (Ds.length : Int) := by omega
          have q2 : IntKind.i64.wrap ((j : Int) + 1) = ((j + 1 : Nat) : Int) := by rw [IntKind.wrap_i64]; omega
          unfold Bt.val at y
          rw [hGd]
          clear hp hp2 hd hb2 hs2 ho2 hkd hGd hk hD hDX
          subst hV2
          gi_wp2
          refine ⟨trivial, (callsIn_wide.2 y.out).mono ?_⟩
          rintro _ w9 ⟨E9, rfl, hk9, h9⟩
          obtain ⟨u0, u2, u3, u4, uk, us⟩ := HP.out.1.vars hk9
          have nD : ¬ SpS g sj.lA D := fun e => by
            have hsz := HK.out.2.2.2.2.2.2.2
            have hD0 := HD.out
            rcases us D e with e | e <;> omega
          have hd9 : w9.heap[D]? = some (.deferred (some [])) := (hk9.block D (Array.getElem?_eq_some_iff.1 HP.out.2.2.2).1 nD).trans HP.out.2.2.2
          clear y e0 e1 a0 r0 r1 us nD
          by_cases hE : E9 = 0
          · obtain ⟨s2, ho⟩ : ∃ s2, PutOut base g sj d.l 1 d.l.length _ w9 s2 := by
              rcases h9 with ⟨_, h⟩ | h
              · exact h
              · have := h.1; omega
            have HN := Lib.hid (And.intro (HP.out.1.next HP.out.2.1 hk9 ho) hd9)
            subst hE
            clear hk9 h9 u0 u2 u3 u4 uk hd9 ho
            gi_wp2
            go_roundw
            case rel => exact ⟨j + 1, s2, by first | rfl | rw [q2], HP.out.2.2.1, by have := HN.out.1; rw [HG.out] at this; exact this, HN.out.2⟩
            case measure => simp [intOf]; omega
          · have h10 : E9 = 10 := by
              rcases h9 with ⟨h, _⟩ | h
              · exact absurd h hE
              · exact h.1
            subst h10
            have f2 : w9.frozen? ⟨b2, 0, none⟩ = false := by rw [HK.out.2.2.1]; exact u2.open_ 0
            have f3 : w9.frozen? ⟨b3, 0, none⟩ = false := by rw [HK.out.2.2.2.1]; exact u3.open_ 0
            have c2 : w9.cell? ⟨b2, 0, none⟩ = some (.int .i64 0) := by rw [HK.out.2.2.1]; exact u2.at_ 0
            have c3 : w9.cell? ⟨b3, 0, none⟩ = some (.int .i64 0) := by rw [HK.out.2.2.2.1]; exact u3.at_ 0
            have HE := Lib.hid (And.intro u2 (And.intro u3 (And.intro uk hd9)))
            have hne : b3 ≠ b2 := by rw [HK.out.2.2.1, HK.out.2.2.2.1]; omega
            clear hk9 h9 u0 u2 u3 u4 uk hd9 hE
            have HR := Lib.hid (work_ret HK.out.2.2.1 HK.out.2.2.2.1 (by have := HK.out.2.2.2.2.2.2.2; have := HD.out.1; omega) HE.out.1 HE.out.2.1 HE.out.2.2.1 HE.out.2.2.2 (.int .i64 0) (.int .i64 10))
            gi_wp2
            obtain ⟨z1, z2, z3, z4⟩ := HR.out
            refine ⟨by simp, .inl ⟨_, _, rfl, run_takeDeferred z1, ?_⟩⟩
            exact ⟨.tuple #[.int .i64 0, .int .i64 10], by simp [results, Tryz.results23, go_sem, z2, z3], 0, 10, rfl, z4, .inr ⟨rfl, rfl⟩⟩
        · obtain rfl : j = Ds.length := by omega
          have c4 : wr.cell? ⟨b4, 0, none⟩ = some (.int .i64 (c : Int)) := by rw [HK.out.2.2.2.2.1]; exact hp.w4.at_ 0
          have f2 : wr.frozen? ⟨b2, 0, none⟩ = false := by rw [HK.out.2.2.1]; exact hp.w2.open_ 0
          have f3 : wr.frozen? ⟨b3, 0, none⟩ = false := by rw [HK.out.2.2.2.1]; exact hp.w3.open_ 0
          have c2 : wr.cell? ⟨b2, 0, none⟩ = some (.int .i64 0) := by rw [HK.out.2.2.1]; exact hp.w2.at_ 0
          have c3 : wr.cell? ⟨b3, 0, none⟩ = some (.int .i64 0) := by rw [HK.out.2.2.2.1]; exact hp.w3.at_ 0
          have hne : b3 ≠ b2 := by rw [HK.out.2.2.1, HK.out.2.2.2.1]; omega
          have HR := Lib.hid (work_ret HK.out.2.2.1 HK.out.2.2.2.1 (by have := HK.out.2.2.2.2.2.2.2; have := HD.out.1; omega) hp.w2 hp.w3 hp.kept hkd (.int .i64 (c : Int)) (.int .i64 0))
          have HF := Lib.hid (And.intro hp (And.intro (H2.out.1.done H2.out.2 hp.st) (hp.end_ HK.out.2.2.1 HK.out.2.2.2.1 (by have := HK.out.2.2.2.2.2.2.2; have := HD.out.1; omega) hkd (.int .i64 (c : Int)) (.int .i64 0))))
          clear hp hkd hk hD hDX
          gi_wp2
          obtain ⟨z1, z2, z3, z4⟩ := HR.out
          refine ⟨by simp, .inl ⟨_, _, rfl, run_takeDeferred z1, ?_⟩⟩
          exact ⟨.tuple #[.int .i64 (c : Int), .int .i64 0], by simp [results, Tryz.results23, go_sem, z2, z3], c, 0, rfl, z4, .inl ⟨rfl, sj, HF.out.2.2, HF.out.1.e1, HF.out.1.e2, HF.out.1.e3, HF.out.2.1⟩⟩
    · obtain ⟨z1, z2, z3⟩ := h1
      have hg2 := grownBy_putObj' X D (.deferred none)
      have hr2 : Bare X (some D) := fun r e => by cases e; exact ⟨_, hk, rfl⟩
      have k8 := HK.out.2.2.2.2.2.2.2
      have y2 : (X.putObj D (.deferred none)).cell? ⟨b2, 0, none⟩ = some (.int .i64 0) := by rw [HK.out.2.2.1]; exact (z2.turn hg2 hr2).at_ 0
      have y3 : (X.putObj D (.deferred none)).cell? ⟨b3, 0, none⟩ = some (.int .i64 10) := by rw [HK.out.2.2.2.1]; exact (z3.turn hg2 hr2).at_ 0
      have y4 := z1.turn (B' := W.heap.size) hg2 (fun r e => by cases e; omega) (Nat.le_refl _)
      refine ⟨by simp, .inl ⟨_, _, rfl, run_takeDeferred hk, ?_⟩⟩
      exact ⟨.tuple #[.int .i64 0, .int .i64 10], by simp [results, Tryz.results23, go_sem, y2, y3], 0, 10, rfl, y4, .inr ⟨rfl, rfl⟩⟩
end Go.Proofs.YtenjlhlighkenaaGreat
namespace Go.Proofs.YtenjlhlighkenaaGreat
open Go Go.RowKit

set_option maxRecDepth 100000 in
set_option maxHeartbeats 12800000 in
theorem work_sp (s : Sp) (fuel : Int) (w : World) (hs : SpIn w w.heap.size s) (ok : SpOk s) (hw : wtS s.L ≤ 274877906944) (hf1 : -9223372036854775808 ≤ fuel) (hf2 : fuel ≤ 9223372036854775807) :
    Calls Tryz.prog 8 #[s.val, .int .i64 fuel] w (WorkedS s fuel w) := by
  obtain ⟨V, hV, hvb, hvs, hvo, hvz⟩ := sp_box2 w s
  have hin := hs.keep hvb
  have y1 := Lib.hid (scheck_any s V hin ok)
  have H := Lib.hid (And.intro hs (And.intro ok (And.intro hw (And.intro hvb (And.intro hvo (And.intro hvz (And.intro hf1 hf2)))))))
  obtain ⟨d0, d1⟩ := own2 hvo
  have HP := Lib.hid (show ∀ x w' (s' : Sp) (c : Nat) (E : Int), x = .returned (.tuple #[s'.val, .int .i64 (c : Int), .int .i64 E]) → (¬ SpGood s.f s.L ∧ E = 8 ∧ c = 0 ∧ s' = Sp.nil ∨ SpGood s.f s.L ∧ s'.f = s.f ∧ (E = 0 ∧ WkFin s.f s.L fuel s'.L c ∨ E = 10 ∧ c = 0 ∧ s'.L.map Lv.pl = s.L.map Lv.pl)) → SpIn w' w'.heap.size s' → SpOk s' → SpLo w.heap.size s' → Below w.heap.size w w' → WorkedS s fuel w x w' from fun x w' s' c E h1 h2 h3 h4 h5 h6 => ⟨s', c, E, h1, h2, h3, h4, h5, h6⟩)
  have hsv : s.val = .agg #[.slice s.sA s.f.length s.sc, .slice s.lA s.L.length s.lc] := rfl
  rw [hsv] at y1 ⊢
  clear hs ok hw hvb hvs hvo hvz hin hf1 hf2
  go_enter Tryz.func8, Tryz.ntmps8
  go_upto_region 1 with fail
  rw [← hV]
  clear hV
  go_wp2_with fail
  refine y1.out.mono ?_
  rintro _ w1 ⟨n, rfl, hn, b1⟩
  have hv1 := H.out.2.2.2.2.1.past b1 H.out.2.2.2.2.1.inside
  have hz1 := H.out.2.2.2.2.2.1.past b1 H.out.2.2.2.2.2.1.inside
  have H1 := Lib.hid (And.intro hn (And.intro (H.out.2.2.2.1.trans (b1.mono H.out.2.2.2.1.size)) (And.intro hv1 (And.intro hz1 hz1.inside))))
  clear hn b1 d0 d1 y1
  by_cases h0 : n = 0
  case neg =>
    have t1 : (n != 0) = true := bne_iff_ne.2 h0
    have HN := Lib.hid (show ¬ SpGood s.f s.L ∧ n = 8 from by
      rcases H1.out.1 with ⟨_, h⟩ | h
      · exact absurd h h0
      · exact h)
    obtain ⟨z0, z1⟩ := own2 hz1
    have f0 := hz1.open_ 0
    have f1 := hz1.open_ 1
    have hX := (hz1.set_ 0 (.slice none 0 0)).set_ 1 (.slice none 0 0)
    obtain ⟨x0, x1⟩ := own2 hX
    have HB := Lib.hid (below_two H1.out.2.1 (Nat.le_succ _) (P := w.heap.size + 1) (.slice none 0 0) (.slice none 0 0))
    clear hv1 hz1 hX h0
    go_wp2_with fail
    exact bodyPost_ret (v := .tuple #[.agg #[.slice none 0 0, .slice none 0 0], .int .i64 0, .int .i64 n]) (by simp [results, Tryz.results8, go_sem, x0, x1]) rfl (HP.out _ _ Sp.nil 0 n rfl (.inl ⟨HN.out.1, HN.out.2, rfl, rfl⟩) (sp_nil_in _ _) sp_nil_ok (sp_nil_lo _) HB.out)
  subst h0
  have hgood : SpGood s.f s.L := by
    rcases H1.out.1 with ⟨h, _⟩ | ⟨_, h⟩
    · exact h
    · exact absurd h (by decide)
  have hin1 := H.out.1.keep H1.out.2.1
  have hwt : wtS s.L ≤ 274877906944 := H.out.2.2.1
  have y2 := Lib.hid (copyS_any s w1 hin1 H.out.2.1 hgood hwt)
  have HG := Lib.hid hgood
  obtain ⟨d0, d1⟩ := own2 hv1
  rw [hsv] at y2
  clear hv1 hz1 hgood hin1 hwt
  go_wp2_with fail
  refine y2.out.mono ?_
  rintro _ w2 ⟨s1, rfl, hc, b2⟩
  rw [show s1.val = .agg #[.slice s1.sA s1.f.length s1.sc, .slice s1.lA s1.L.length s1.lc] from rfl]
  obtain ⟨V3, hV3⟩ : ∃ V3, V3 = w2.alloc (.cells #[.slice s1.sA s1.f.length s1.sc, .slice s1.lA s1.L.length s1.lc] 71) := ⟨_, rfl⟩
  obtain ⟨hwk, b3⟩ := wk_of_copy (base := w1.heap.size) hc (Nat.le_refl _) b2.size V3 hV3
  have b23 := belows b2 b3
  have b03 := belows H1.out.2.1 b23
  have HC := Lib.hid (And.intro hc.f hc.L)
  have H3 := Lib.hid (And.intro hwk (And.intro b03 (And.intro (H1.out.2.2.1.past b23 H1.out.2.2.1.inside) (And.intro (H1.out.2.2.2.1.past b23 H1.out.2.2.2.1.inside) (Nat.le_trans H1.out.2.2.2.2 b2.size)))))
  have hgood1 : SpGood s1.f s1.L := by rw [HC.out.1]; exact pl_good HC.out.2.symm HG.out
  have y3 := Lib.hid (workS_any w1.heap.size w2.heap.size s1 fuel V3 hwk hgood1 (by rw [(pl_parts HC.out.2).2.2.1]; exact H.out.2.2.1) H.out.2.2.2.2.2.2.1 H.out.2.2.2.2.2.2.2)
  clear hc hwk b2 b3 b23 b03 d0 d1 y2 hgood1
  go_upto_region 5 with fail
  rw [← hV3]
  clear hV3
  go_wp2_with fail
  refine y3.out.mono ?_
  rintro _ w5 ⟨c, E2, rfl, hk5, h5⟩
  have hlt2 : ∀ k, SpS w2.heap.size s1.lA k → w1.heap.size ≤ k := fun k hk => (H3.out.1.lt k hk).1
  have b05 : Below w.heap.size w w5 := H3.out.2.1.trans (hk5.below (fun k hk => Nat.le_trans H1.out.2.1.size (hlt2 k hk)) (H3.out.2.1.size))
  have o25 := hk5.own H3.out.2.2.1 (fun hs => by have h1 := hlt2 _ hs; have h2 := H1.out.2.2.2.2; omega)
  have oz5 := hk5.own H3.out.2.2.2.1 (fun hs => by have h1 := hlt2 _ hs; have h2 := H1.out.2.2.2.2; omega)
  have HB5 := Lib.hid (And.intro b05 (And.intro o25 oz5))
  by_cases hE2 : E2 = 0
  · have t2 : (E2 != 0) = false := by rw [hE2]; rfl
    obtain ⟨s', hwk2, q1, q2, q3, hfin⟩ : ∃ s', Wk w5 w1.heap.size w2.heap.size s' ∧ s'.sA = s1.sA ∧ s'.sc = s1.sc ∧ s'.f = s1.f ∧ WkFin s1.f s1.L fuel s'.L c := by
      rcases h5 with ⟨_, h⟩ | h
      · exact h
      · have := h.1; omega
    obtain ⟨g0, g1⟩ := own2 hwk2.own
    obtain ⟨z0, z1⟩ := own2 oz5
    have f0 := oz5.open_ 0
    have f1 := oz5.open_ 1
    have hX := (oz5.set_ 0 (.slice s'.sA s'.f.length s'.sc)).set_ 1 (.slice s'.lA s'.L.length s'.lc)
    obtain ⟨x0, x1⟩ := own2 hX
    have hlo := hwk2.lo_
    have HX := Lib.hid (And.intro (sp_kept hwk2.spin (hlo.mono H1.out.2.2.2.2) (kept_two (P := w.heap.size + 1) (.slice s'.sA s'.f.length s'.sc) (.slice s'.lA s'.L.length s'.lc))) (And.intro hwk2.ok (And.intro (hlo.mono H1.out.2.1.size) (And.intro (below_two b05 (Nat.le_succ w.heap.size) (.slice s'.sA s'.f.length s'.sc) (.slice s'.lA s'.L.length s'.lc)) (And.intro (q3.trans HC.out.1) (by
      have h1 := hfin.swap HC.out.2
      rw [HC.out.1] at h1
      exact h1 : WkFin s.f s.L fuel s'.L c))))))
    subst hE2
    clear hk5 h5 hlt2 b05 o25 oz5 hwk2 hX hlo y3 q1 q2 q3 hfin
    go_wp2_with fail
    exact bodyPost_ret (v := .tuple #[.agg #[.slice s'.sA s'.f.length s'.sc, .slice s'.lA s'.L.length s'.lc], .int .i64 (c : Int), .int .i64 0]) (by simp [results, Tryz.results8, go_sem, x0, x1]) rfl (HP.out _ _ s' c 0 rfl (.inr ⟨HG.out, HX.out.2.2.2.2.1, .inl ⟨rfl, HX.out.2.2.2.2.2⟩⟩) HX.out.1 HX.out.2.1 HX.out.2.2.1 HX.out.2.2.2.1)
  · have t2 : (E2 != 0) = true := bne_iff_ne.2 hE2
    have HNE := Lib.hid (show E2 = 10 from by
      rcases h5 with ⟨h, _⟩ | h
      · exact absurd h hE2
      · exact h.1)
    clear hk5 h5 hlt2 b05 o25 oz5 hE2 y3
    have hin6 := H.out.1.keep HB5.out.1
    have hwt6 : wtS s.L ≤ 274877906944 := H.out.2.2.1
    have y6 := Lib.hid (copyS_any s w5 hin6 H.out.2.1 HG.out hwt6)
    obtain ⟨d0, d1⟩ := own2 HB5.out.2.1
    rw [hsv] at y6
    clear hin6 hwt6
    go_wp2_with fail
    refine y6.out.mono ?_
    rintro _ w6 ⟨s3, rfl, hc3, b6⟩
    have oz := HB5.out.2.2.past b6 HB5.out.2.2.inside
    obtain ⟨z0, z1⟩ := own2 oz
    have f0 := oz.open_ 0
    have f1 := oz.open_ 1
    have hX := (oz.set_ 0 (.slice s3.sA s3.f.length s3.sc)).set_ 1 (.slice s3.lA s3.L.length s3.lc)
    obtain ⟨x0, x1⟩ := own2 hX
    have hP1 : w.heap.size + 1 < w5.heap.size := HB5.out.2.2.inside
    have HX := Lib.hid (And.intro (sp_kept hc3.in_ (hc3.lo.mono hP1) (kept_two (P := w.heap.size + 1) (.slice s3.sA s3.f.length s3.sc) (.slice s3.lA s3.L.length s3.lc))) (And.intro hc3.ok (And.intro (hc3.lo.mono HB5.out.1.size) (And.intro (below_two (belows HB5.out.1 b6) (Nat.le_succ w.heap.size) (.slice s3.sA s3.f.length s3.sc) (.slice s3.lA s3.L.length s3.lc)) (And.intro hc3.f hc3.L)))))
    rw [show s3.val = .agg #[.slice s3.sA s3.f.length s3.sc, .slice s3.lA s3.L.length s3.lc] from rfl]
    clear hc3 b6 oz hX d0 d1 y6
    go_wp2_with fail
    exact bodyPost_ret (v := .tuple #[.agg #[.slice s3.sA s3.f.length s3.sc, .slice s3.lA s3.L.length s3.lc], .int .i64 0, .int .i64 E2]) (by simp [results, Tryz.results8, go_sem, x0, x1]) rfl (HP.out _ _ s3 0 E2 rfl (.inr ⟨HG.out, HX.out.2.2.2.2.1, .inr ⟨HNE.out, rfl, HX.out.2.2.2.2.2⟩⟩) HX.out.1 HX.out.2.1 HX.out.2.2.1 HX.out.2.2.2.1)
end Go.Proofs.YtenjlhlighkenaaGreat
namespace Go.Proofs.YtenjlhlighkenaaGreat
open Go Go.RowKit Go.ChangeShapes Go.WideShapes Go.ChangeAt Go.Deep

section
variable {H : Type} {enc : TypeId × Value → H} {P : Program} {w : World} {base : Nat} {spare : Nat → Bool} {held : Bool}
end
end Go.Proofs.YtenjlhlighkenaaGreat
namespace Go.Proofs.YtenjlhlighkenaaGreat
open Go
variable {H : Type}
theorem bulk_pos (d : DataW H) : 1 ≤ Rows.uptoBulk d := by
  cases d with
  | lit l => cases l <;> simp [Rows.uptoBulk]
  | nil => simp [Rows.uptoBulk]
  | ptr d => simp [Rows.uptoBulk]
  | slice es sp => simp [Rows.uptoBulk]
  | agg ps => simp [Rows.uptoBulk]
  | iface t d => simp [Rows.uptoBulk]
  | map es => simp [Rows.uptoBulk]
  | held h => simp [Rows.uptoBulk]
end Go.Proofs.YtenjlhlighkenaaGreat
namespace Go.Proofs.YtenjlhlighkenaaGreat
open Go Go.RowKit Go.ChangeShapes Go.WideShapes Go.ChangeAt Go.Deep

section
variable {H : Type} {enc : TypeId × Value → H} {P : Program} {w : World} {base : Nat} {spare : Nat → Bool} {held : Bool}
theorem lies_gen {α : Type} {size : Nat} {cells : α → List Value} (hcl : ∀ x, 0 < (cells x).length) {len : Nat} {a : Addr} {f : Nat → α} (hp : 0 < len) (hf : ∀ i, i < len → ∀ (j : Nat) (u : Value), (cells (f i))[j]? = some u → w.cell? ((a.add (i * size)).add j) = some u) :
    Lies size cells w w.heap.size (some a) ((List.range len).map f) := fun _ => by
  have hz : ((a.add (0 * size)).add 0) = a := by unfold Addr.add; simp
  obtain ⟨v0, h0⟩ : ∃ v0, w.cell? a = some v0 := by
    have := hf 0 hp 0 _ (List.getElem?_eq_getElem (hcl (f 0)))
    rw [hz] at this
    exact ⟨_, this⟩
  have hspot : a.spot = none := by
    cases hs : a.spot with
    | none => rfl
    | some s =>
      unfold World.cell? at h0
      rw [hs] at h0
      split at h0 <;> simp at h0
  obtain ⟨b, o, sp⟩ := a
  simp only at hspot
  subst hspot
  have hadd : ∀ k j, ((⟨b, o, none⟩ : Addr).add k).add j = ⟨b, o + k + j, none⟩ := fun k j => by unfold Addr.add; split <;> split <;> simp_all
  refine ⟨b, o, rfl, World.block_lt_of_cell? w _ h0, fun i x hit j u hj => ?_⟩
  have hil : i < len := by have := (List.getElem?_eq_some_iff.1 hit).1; simpa using this
  have hti : f i = x := by simpa [hil] using hit
  subst hti
  have := hf i hil j u hj
  rwa [hadd] at this
theorem bulk_sum : ∀ es : List (DataW H × List MemPlace), (es.map (fun z => Rows.uptoBulk z.1)).sum = Rows.uptoBulkAll (es.map (·.1))
  | [] => by simp [Rows.uptoBulkAll]
  | x :: es => by simp only [List.map_cons, List.sum_cons, Rows.uptoBulkAll]; rw [bulk_sum es]
theorem mem_le_sum : ∀ {bs : List Nat} {b : Nat}, b ∈ bs → b ≤ bs.sum
  | [], _, h => by cases h
  | x :: bs, b, h => by
    rw [List.sum_cons]
    rcases List.mem_cons.1 h with rfl | h
    · omega
    · have := mem_le_sum h; omega
theorem len_le_sum : ∀ {bs : List Nat}, (∀ b ∈ bs, 1 ≤ b) → bs.length ≤ bs.sum
  | [], _ => Nat.le_refl _
  | x :: bs, h => by
    have h1 := h x (by simp)
    have h2 := len_le_sum (bs := bs) fun b hb => h b (by simp [hb])
    rw [List.sum_cons, List.length_cons]
    omega
theorem sum_pair {α : Type} {g : α → Nat} : ∀ (l : List α) (bs : List Nat), bs.length = l.length → (∀ (i : Nat) (a : α), l[i]? = some a → ∃ b, bs[i]? = some b ∧ g a ≤ b) → (l.map g).sum ≤ bs.sum
  | [], _, _, _ => Nat.zero_le _
  | x :: l, [], h, _ => by simp at h
  | x :: l, b :: bs, h, hp => by
    obtain ⟨b', h1, h2⟩ := hp 0 x rfl
    obtain rfl : b = b' := by simpa using h1
    have := sum_pair l bs (by simpa using h) fun i a hi => by
      obtain ⟨b2, h3, h4⟩ := hp (i + 1) a (by simpa using hi)
      exact ⟨b2, by simpa using h3, h4⟩
    simp only [List.map_cons, List.sum_cons]
    omega
theorem open_list_bulk {α : Type} [Inhabited α] {size : Nat} {cells : α → List Value} {OK : α → Nat → Prop} {t e : TypeId} {fuel : Nat} (ht : P.underlying t = some (.slice e)) (hc : P.cellsOf e = size) (hcl : ∀ x, 0 < (cells x).length)
    (dec : ∀ {n : Nat} {cs : List Value} {x : DataW H × List MemPlace}, n < fuel → DataW.trod enc P w base spare held n e cs = some x → ∃ a, cs = cells a ∧ OK a (Rows.uptoBulk x.1))
    {cs : List Value} {x : DataW H × List MemPlace} (hf : DataW.trod enc P w base spare held fuel t cs = some x) :
    ∃ (A : Option Addr) (c : Nat) (l : List α) (bs : List Nat), cs = [.slice A l.length c] ∧ l.length ≤ c ∧ c ≤ maxLen ∧ Lies size cells w w.heap.size A l ∧ bs.length = l.length ∧ bs.sum + 1 ≤ Rows.uptoBulk x.1 ∧ (∀ b ∈ bs, 1 ≤ b) ∧
      ∀ (i : Nat) (a : α), l[i]? = some a → ∃ b, bs[i]? = some b ∧ OK a b := by
  rcases DataW.trod_slice ht hf with ⟨h1, h2⟩ | ⟨a, len, cap, elems, rest, n, hfu, h1, h2, hb, hl, hm, hlen, hel, hsp, hns⟩
  · subst h1 h2
    exact ⟨none, 0, [], [], rfl, Nat.le_refl _, Nat.zero_le _, Lies.nil_, rfl, by simp [Rows.uptoBulk], fun b h => (by cases h), fun i a h => (by simp at h)⟩
  · rw [hc] at hel
    have hT : ∀ i, i < len → ∃ y : α, (∃ b, (elems.map (fun z => Rows.uptoBulk z.1))[i]? = some b ∧ OK y b) ∧ ∀ (j : Nat) (u : Value), (cells y)[j]? = some u → w.cell? ((a.add (i * size)).add j) = some u := fun i hi => by
      have h1 := hel i hi
      rw [List.getElem?_eq_getElem (by omega)] at h1
      obtain ⟨cs', h2, h3⟩ := Option.bind_eq_some_iff.1 h1
      obtain ⟨y, rfl, hy⟩ := dec (by omega) h3
      obtain ⟨_, hle2, hat⟩ := World.cells?_some h2
      refine ⟨y, ⟨_, by rw [List.getElem?_map, List.getElem?_eq_getElem (by omega)]; rfl, hy⟩, fun j u hj => ?_⟩
      rw [hat j (by have := (List.getElem?_eq_some_iff.1 hj).1; omega)]
      exact hj
    obtain ⟨f, hf'⟩ := choose_lt hT
    have hle : ((List.range len).map f).length = len := by simp
    refine ⟨some a, cap, (List.range len).map f, elems.map (fun z => Rows.uptoBulk z.1), by rw [hle]; exact h1, by rw [hle]; exact hl, hm, ?_, by rw [hle, List.length_map, hlen], ?_, ?_, ?_⟩
    · by_cases hp : 0 < len
      · exact lies_gen hcl hp fun i hi => (hf' i hi).2
      · exact fun h => by rw [hle] at h; omega
    · rw [h2]
      simp only [Rows.uptoBulk]
      rw [bulk_sum]
      omega
    · intro b hb
      obtain ⟨z, _, rfl⟩ := List.mem_map.1 hb
      exact bulk_pos _
    · intro i y hi
      have hil : i < len := by have := (List.getElem?_eq_some_iff.1 hi).1; simpa using this
      have hti : f i = y := by simpa [hil] using hi
      subst hti
      exact (hf' i hil).1
end
end Go.Proofs.YtenjlhlighkenaaGreat
namespace Go.Proofs.YtenjlhlighkenaaGreat
open Go Go.RowKit

def RowsAt (w : World) (B : Nat) (A : Option Addr) (L : List (List Vl)) : Prop :=
  0 < L.length → ∃ b o, A = some ⟨b, o, none⟩ ∧ b < B ∧ ∀ (i : Nat) (l : List Vl), L[i]? = some l → ∃ A' c', w.cell? ⟨b, o + i, none⟩ = some (.slice A' l.length c') ∧ Vals w B A' l
section
variable {w w' : World} {B B' : Nat} {A : Option Addr} {L : List (List Vl)}
theorem RowsAt.past (h : RowsAt w B A L) (hb : Below B' w w') (hB : B ≤ B') : RowsAt w' B A L := fun hn => by
  obtain ⟨b, o, e, hlt, hc⟩ := h hn
  refine ⟨b, o, e, hlt, fun i l hi => ?_⟩
  obtain ⟨A', c', h1, h2⟩ := hc i l hi
  exact ⟨A', c', (hb.cell (p := ⟨b, o + i, none⟩) (show b < B' by omega)).trans h1, h2.past hb hB⟩
theorem RowsAt.wide (h : RowsAt w B A L) (hB : B ≤ B') : RowsAt w B' A L := fun hn => by
  obtain ⟨b, o, e, hlt, hc⟩ := h hn
  refine ⟨b, o, e, by omega, fun i l hi => ?_⟩
  obtain ⟨A', c', h1, h2⟩ := hc i l hi
  exact ⟨A', c', h1, h2.wide hB⟩
end
def lens (L : List (List Vl)) : Nat := (L.map List.length).sum
end Go.Proofs.YtenjlhlighkenaaGreat
namespace Go.Proofs.YtenjlhlighkenaaGreat
open Go Go.RowKit Go.ChangeShapes Go.WideShapes Go.ChangeAt Go.Deep

set_option maxRecDepth 100000
section
variable {H : Type} {enc : TypeId × Value → H} {w : World} {base : Nat} {spare : Nat → Bool} {held : Bool}
set_option maxRecDepth 100000 in
theorem trod_val {fuel : Nat} {cs : List Value} {x : DataW H × List MemPlace} (h : DataW.trod enc Tryz.prog w base spare held fuel 104 cs = some x) : ∃ v : Vl, cs = v.cells ∧ VOk v := by
  obtain ⟨xs, n, _, _, hlen, hxs, hf⟩ := DataW.trod_struct Tryz.underlying104 h
  have hc : Tryz.prog.cellsOf 104 = 3 := by kernel_rfl
  have hcb : Tryz.prog.cellsOf 4 = 1 := by kernel_rfl
  have hci : Tryz.prog.cellsOf 2 = 1 := by kernel_rfl
  have hcs : Tryz.prog.cellsOf 9 = 1 := by kernel_rfl
  rw [hc] at hlen
  match cs, hlen with
  | [c0, c1, c2], _ =>
    have h0 := hf 0 _ rfl
    have h1 := hf 1 _ rfl
    have h2 := hf 2 _ rfl
    match xs, hxs with
    | [y0, y1, y2], _ =>
      simp only [hcb, hci, hcs, List.drop_zero, List.take_succ_cons, List.take_zero, List.drop_succ_cons, List.getElem?_cons_zero, List.getElem?_cons_succ] at h0 h1 h2
      obtain ⟨n0, e0, _⟩ := DataW.trod_bool Tryz.underlying4 h0
      obtain ⟨n1, e1, _, w1⟩ := DataW.trod_int Tryz.underlying2 h1
      obtain ⟨n2, e2, _, w2⟩ := DataW.trod_string Tryz.underlying9 h2
      obtain rfl := (List.cons.inj e0).1
      obtain rfl := (List.cons.inj e1).1
      obtain rfl := (List.cons.inj e2).1
      exact ⟨⟨n0, n1, n2⟩, rfl, w2, wf_i64 w1⟩
theorem open_rowC {fuel : Nat} {cs : List Value} {x : DataW H × List MemPlace} (h : DataW.trod enc Tryz.prog w base spare held fuel 55 cs = some x) :
    ∃ (A : Option Addr) (c : Nat) (l : List Vl), cs = [.slice A l.length c] ∧ Vals w w.heap.size A l ∧ (∀ v ∈ l, VOk v) ∧ l.length ≤ Rows.uptoBulk x.1 := by
  obtain ⟨A, c, l, bs, e, h1, h2, h3, h4, h5, h6, h7⟩ := open_list_bulk (size := 3) (cells := Vl.cells) (OK := fun v _ => VOk v) Tryz.underlying55 (by kernel_rfl) (fun _ => by simp [Vl.cells]) (fun {n cs x} _ ht => trod_val ht) h
  have := len_le_sum h6
  refine ⟨A, c, l, e, vals_of_lies h3, fun v hv => ?_, by omega⟩
  obtain ⟨i, hi⟩ := List.getElem?_of_mem hv
  exact (h7 i v hi).elim fun _ h => h.2
def UIs (w : World) (u : Up) (b : Nat) : Prop := UIn w w.heap.size u ∧ (b ≤ 1048576 → UOk u)
set_option maxRecDepth 100000 in
theorem trod_up {fuel : Nat} {cs : List Value} {x : DataW H × List MemPlace} (h : DataW.trod enc Tryz.prog w base spare held fuel 57 cs = some x) : ∃ u : Up, cs = u.cells ∧ UIs w u (Rows.uptoBulk x.1) := by
  obtain ⟨xs, n, hfu, hx, hlen, hxs, hf⟩ := DataW.trod_struct Tryz.underlying57 h
  have hc : Tryz.prog.cellsOf 57 = 6 := by kernel_rfl
  have hc0 : Tryz.prog.cellsOf 55 = 1 := by kernel_rfl
  have hc1 : Tryz.prog.cellsOf 26 = 3 := by kernel_rfl
  have hc2 : Tryz.prog.cellsOf 2 = 1 := by kernel_rfl
  rw [hc] at hlen
  match cs, hlen with
  | [c0, c1, c2, c3, c4, c5], _ =>
    have h0 := hf 0 _ rfl
    have h1 := hf 1 _ rfl
    have h2 := hf 2 _ rfl
    have h3 := hf 3 _ rfl
    match xs, hxs with
    | [y0, y1, y2, y3], _ =>
      simp only [hc0, hc1, hc2, List.drop_zero, List.take_succ_cons, List.take_zero, List.drop_succ_cons, List.getElem?_cons_zero, List.getElem?_cons_succ] at h0 h1 h2 h3
      obtain ⟨A0, k0, l0, e0, i0, o0, m0⟩ := open_rowC h0
      obtain ⟨A1, k1, l1, e1, i1, o1, m1⟩ := open_rowC h1
      obtain ⟨t, e2⟩ := trod_time h2
      obtain ⟨d, e3, _, w3⟩ := DataW.trod_int Tryz.underlying2 h3
      have hM : Rows.uptoBulk x.1 = Rows.uptoBulk y0.1 + (Rows.uptoBulk y1.1 + (Rows.uptoBulk y2.1 + (Rows.uptoBulk y3.1 + 0))) + 1 := by
        rw [hx]
        simp only [List.map_cons, List.map_nil, Rows.uptoBulk, Rows.uptoBulkAll]
      obtain rfl := (List.cons.inj e0).1
      obtain rfl := (List.cons.inj e1).1
      obtain rfl := (List.cons.inj e3).1
      simp only [Tm.cells, List.cons.injEq, and_true] at e2
      obtain ⟨rfl, rfl, rfl⟩ := e2
      refine ⟨⟨A0, k0, l0, A1, k1, l1, t, d⟩, rfl, ⟨i0, i1⟩, fun hb => ⟨?_, ?_, o0, o1, wf_i64 w3⟩⟩
      · show l0.length ≤ _; omega
      · show l1.length ≤ _; omega
theorem open_upsC {fuel : Nat} {cs : List Value} {x : DataW H × List MemPlace} (h : DataW.trod enc Tryz.prog w base spare held fuel 32 cs = some x) :
    ∃ s : Rw Up, cs = s.cells ∧ s.l.length ≤ s.c ∧ s.c ≤ maxLen ∧ Ups w w.heap.size s.A s.l ∧ (Rows.uptoBulk x.1 ≤ 1048576 → ∀ u ∈ s.l, UOk u) ∧ s.l.length + 1 ≤ Rows.uptoBulk x.1 := by
  obtain ⟨A, c, l, bs, e, h1, h2, h3, h4, h5, h6, h7⟩ := open_list_bulk (size := 6) (cells := Up.cells) (OK := UIs w) Tryz.underlying32 (by kernel_rfl) (fun _ => by simp [Up.cells]) (fun {n cs x} _ ht => trod_up ht) h
  have := len_le_sum h6
  refine ⟨⟨A, c, l⟩, e, h1, h2, ⟨h3, fun u hu => ?_⟩, fun hb u hu => ?_, by show l.length + 1 ≤ _; omega⟩
  · obtain ⟨i, hi⟩ := List.getElem?_of_mem hu
    exact (h7 i u hi).elim fun _ h => h.2.1
  · obtain ⟨i, hi⟩ := List.getElem?_of_mem hu
    obtain ⟨b, hb1, hb2⟩ := h7 i u hi
    have := mem_le_sum (List.mem_of_getElem? hb1)
    exact hb2.2 (by omega)
end
end Go.Proofs.YtenjlhlighkenaaGreat
namespace Go.Proofs.YtenjlhlighkenaaGreat
open Go Go.RowKit Go.ChangeShapes Go.WideShapes Go.ChangeAt Go.Deep

set_option maxRecDepth 100000
section
variable {H : Type} {enc : TypeId × Value → H} {w : World} {base : Nat} {spare : Nat → Bool} {held : Bool}
end
end Go.Proofs.YtenjlhlighkenaaGreat
namespace Go.Proofs.YtenjlhlighkenaaGreat
open Go Go.RowKit Go.ChangeShapes Go.WideShapes Go.ChangeAt Go.Deep

def UOkK (u : Up) : Prop := UOk u ∧ u.key.length ≤ 1099511627776 ∧ u.row.length ≤ 1099511627776
set_option maxRecDepth 100000
section
variable {H : Type} {enc : TypeId × Value → H} {w : World} {base : Nat} {spare : Nat → Bool} {held : Bool}
def UIsK (w : World) (u : Up) (b : Nat) : Prop := UIn w w.heap.size u ∧ (b ≤ 1048576 → UOkK u)
end
end Go.Proofs.YtenjlhlighkenaaGreat
