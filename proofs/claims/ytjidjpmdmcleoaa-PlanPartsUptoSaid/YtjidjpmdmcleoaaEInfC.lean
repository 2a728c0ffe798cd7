/- The type of an expression that holds others. -/
import Derived.Test.YtjidjpmdmcleoaaEInfA
import Derived.Handy
namespace Go.Proofs.Ytjidjpmdmcleoaa
open Go Go.RowKit

theorem infoTy : (Try.prog.info? 30).map (fun i => (i.zero, i.size, i.bytes)) = some (some (.int .u8 0), 1, 1) := by kernel_rfl
theorem tys_two {w : World} {N : Nat} (a b : Int) (hN : w.heap.size = N) : Tys (w.alloc (.cells #[.int .u8 a, .int .u8 b] 30)) (w.alloc (.cells #[.int .u8 a, .int .u8 b] 30)).heap.size (some ⟨N, 0, none⟩) [a, b] := fun _ => by
  subst hN
  have ho := Own.made w 30 [.int .u8 a, .int .u8 b]
  refine ⟨_, _, rfl, by simp, fun i x hx => ?_⟩
  match i, hx with
  | 0, hx => obtain rfl : a = x := by simpa using hx
             exact ho.at_ 0
  | 1, hx => obtain rfl : b = x := by simpa using hx
             exact ho.at_ 1
theorem own_snocT {w : World} {base n : Nat} {e : TypeId} {v : Value} {l : List Int} {t : Int} (h : w.ownsRow base e 1 v (n + 1) (l.map cellT ++ [.int .u8 t])) (hn : l.length = n) : w.ownsRow base e 1 v (l ++ [t]).length ((l ++ [t]).map cellT) := by
  subst hn
  simpa [cellT] using h
theorem kid_is {e : Lx} {k : Nat} (h : k < e.kids.length) : e.kids[k]? = some (kid e k) := by
  unfold kid
  rw [List.getD_eq_getElem?_getD, List.getElem?_eq_getElem h]
  rfl
theorem not_block {w : World} {base n : Nat} {e : TypeId} {size : Nat} {v : Value} {xs : List Value} {g : Nat} (h : w.ownsRow base e size v n xs) (hg : g < base) : v.ownBlock = none ∨ v.ownBlock ≠ some g := by
  cases hv : v.ownBlock with
  | none => exact .inl rfl
  | some b => exact .inr fun hh => by have := (h.lt b hv).1; cases hh; omega
set_option maxRecDepth 100000 in
set_option maxHeartbeats 6400000 in
theorem infer_node (sch : List Int) (A : Option Addr) (c n : Nat) (hE : InfC sch A c n) (e : Lx) (hop : e.op ≠ 1 ∧ e.op ≠ 2) (u : Int) (g : Nat) (w : World) (ht : Te (n + 1) e w g) (hr : TyIn sch A w g) (ho : Own w g 66 (evL u A sch.length c)) :
    Calls Try.prog 25 #[.pointer (some ⟨g, 0, none⟩), e.val] w fun x w' => x = .returned (.int .u8 (inf sch (n + 1) e u).1) ∧ Upd w w' g 66 (evL (inf sch (n + 1) e u).2 A sch.length c) := by
  have hg := ho.inside
  have hnode := ht.node.1
  have hk3 : e.kids.length ≤ 3 := by have := kidsOf_le e.op; omega
  obtain ⟨W, hW, hB, hU, hs⟩ := Bt.made ht hr ho
  obtain ⟨c0, c1, c2, c3, c4, c5⟩ := hB.six
  obtain ⟨i0, hi, hz0, hz1, hz2⟩ := info_parts infoTy
  have hUn := Try.underlying34
  have hinfo := And.intro hUn (And.intro hi (And.intro hz0 (And.intro hz1 hz2)))
  have HI := Lib.hid hinfo
  have HB := Lib.hid hB
  have HU := Lib.hid hU
  have Hs := Lib.hid hs
  have hE := Lib.hid hE
  have hpos : 0 < e.kids.length := by
    obtain ⟨o1, o2⟩ := hop
    have hh := hnode
    unfold kidsOf at hh
    rw [if_neg (by omega)] at hh
    repeat' split at hh
    all_goals omega
  obtain ⟨b, o, hA, _, _⟩ := hB.te.at_ hpos
  rw [hA] at hW c5
  have HA := Lib.hid hA
  have HN := Lib.hid hnode
  have t1 : (e.op == 1) = false := by simpa using hop.1
  have t2 : (e.op == 2) = false := by simpa using hop.2
  clear ht hr ho hB hU hs hi hz0 hz1 hz2 hUn hinfo hA hnode hpos
  by_cases h7 : e.op = 7
  case pos =>
    have hq : inf sch (n + 1) e u = (1, sameU (infK (inf sch n) e.kids u).2 (infK (inf sch n) e.kids u).1) := by
      conv => lhs; unfold inf
      rw [if_neg hop.1, if_neg hop.2, if_pos (by omega)]
    rw [hq]
    have t7 : (e.op == 7) = true := by rw [h7]; rfl
    have t8 : (e.op == 8) = false := by rw [h7]; rfl
    have H7 := Lib.hid h7
    clear hq h7
    unfold Lx.val
    rw [HA.out]
    go_enter Try.func25, Try.ntmps25
    go_upto_region 1 with fail
    rw [← hW]
    clear hW
    go_wp2_with fail
    go_loopw [5, 45] (fun v i wr => ∃ k : Nat, i = .int .i64 (k : Int) ∧ k ≤ e.kids.length ∧ wr.ownsRow (w.heap.size + 1) 30 1 v (infK (inf sch n) (e.kids.take k) u).1.length ((infK (inf sch n) (e.kids.take k) u).1.map cellT) ∧ Upd w wr g 66 (evL (infK (inf sch n) (e.kids.take k) u).2 A sch.length c) ∧ Bt sch A n e g w.heap.size wr)
      (fun _ i _ => e.kids.length - (intOf i).toNat)
    case atStart => exact ⟨0, rfl, by omega, World.ownsRow_nil _ _ _ _, HU.out, HB.out⟩
    case round =>
      obtain ⟨k, rfl, hk, hown, hu, hb⟩ := hrel
      by_cases hlt : k < e.kids.length
      · obtain ⟨b', o', hA, hbg, hx⟩ := hb.te.at_ hlt
        rw [HA.out] at hA
        simp only [Option.some.injEq, Addr.mk.injEq, and_true] at hA
        obtain ⟨rfl, rfl⟩ := hA
        obtain ⟨x0, x1, x2, x3, x4, x5⟩ := hx.six
        have c5' := hb.six.2.2.2.2.2
        have hnx := infK_next (f := inf sch n) (u := u) (kid_is hlt)
        have hln : (infK (inf sch n) (e.kids.take k) u).1.length = k := by rw [infK_len, List.length_take]; omega
        rw [hln] at hown
        rw [HA.out] at c5'
        obtain ⟨V, hV, fb, hsz, fx⟩ := lxbox wr (kid e k)
        have hgw := hu.own.inside
        have hcall := Lib.hid (hE.out (kid e k) (infK (inf sch n) (e.kids.take k) u).2 g V ((hb.te.sub hlt).past (fb.mono (by omega))) (hb.row.past (fb.mono (by omega))) (hu.own.past fb hgw))
        have HH := Lib.hid (And.intro hown (And.intro (hu.quiet fb) (And.intro (hb.past (fb.mono (by have := hb.box.inside; omega))) (And.intro hnx hln))))
        have HV := Lib.hid (And.intro hV hsz)
        unfold Lx.val at hcall
        have q0 : (0 : Int) ≤ (k : Int) := by omega
        have q1 : (k : Int) < (e.kids.length : Int) := by omega
        clear hown hu hb hx hnx hln fb fx hsz
        go_wp2_with fail
        rw [← hV]
        clear hV
        refine hcall.out.mono ?_
        rintro _ w2 ⟨rfl, u2⟩
        have ho2 : w2.ownsRow (w.heap.size + 1) 30 1 _ k _ := (HV.out.1 ▸ (HH.out.1.alloc _) : V.ownsRow (w.heap.size + 1) 30 1 _ k _).kept u2.grow (not_block HH.out.1 (by omega))
        have H2 := Lib.hid (And.intro ho2 (And.intro (HH.out.2.1.trans u2) (HH.out.2.2.1.next u2)))
        have hsz2 := u2.grow.size
        have hszw := (HH.out.2.1.trans u2).grow.size
        have hbx := (HH.out.2.2.1.next u2).box.inside
        clear ho2 u2
        have hUn := HI.out.1
        have hi := HI.out.2.1
        have hz0 := HI.out.2.2.1
        have hz1 := HI.out.2.2.2.1
        have hz2 := HI.out.2.2.2.2
        go_wp2_with (at_builtin; refine wpList_push _ rfl _ _ 34 rfl (w.heap.size + 1) 30 i0 _ 1 1 hUn hi hz0 hz1 hz2 rfl (by decide) _ _ _ rfl H2.out.1 #[.int .u8 (inf sch n (kid e k) (infK (inf sch n) (e.kids.take k) u).2).1] rfl rfl ?k1 ?k2 ?k3 ?k4 ?_)
        case k1 => rfl
        case k2 => unfold maxLen; omega
        case k3 => omega
        case k4 => omega
        intro v' w' ho' hb' _ _
        have H3 := Lib.hid (And.intro ho' hb')
        clear ho' hb' hUn hi hz0 hz1 hz2
        go_wp2_with fail
        go_roundw
        case rel =>
          refine ⟨k + 1, by go_num, by omega, ?_, ?_, H2.out.2.2.past H3.out.2⟩
          · rw [HH.out.2.2.2.1]
            exact own_snocT H3.out.1 HH.out.2.2.2.2
          · rw [HH.out.2.2.2.1]
            exact H2.out.2.1.pushed H3.out.2 (by omega) (by omega)
        case measure => simp [intOf]; omega
      · have hk2 : k = e.kids.length := by omega
        subst hk2
        rw [List.take_length] at hown hu
        have hL := infK_len (inf sch n) e.kids u
        have c0' := hb.six.1
        obtain ⟨A5, cc, rfl, hcap, hmx, hty, hnew⟩ := tys_of_own rfl hown
        have hgw := hu.own.inside
        have hsame := Lib.hid (same_any A sch.length c (infK (inf sch n) e.kids u).2 A5 cc (infK (inf sch n) e.kids u).1 g wr hty (fun b o h => by have := (hnew b o none h).1; omega) (by omega) hu.own)
        have HH := Lib.hid hu
        clear hu hty hown hb hnew hL hcap hmx
        go_wp2_with fail
        refine hsame.out.mono ?_
        rintro _ w2 ⟨rfl, u2⟩
        have U2 := Lib.hid (HH.out.trans u2)
        clear u2
        go_wp2_with fail
        go_ret
        exact ⟨rfl, U2.out⟩
  by_cases h8 : e.op = 8
  case pos =>
    have hq : inf sch (n + 1) e u = (1, sameU (infK (inf sch n) e.kids u).2 (infK (inf sch n) e.kids u).1) := by
      conv => lhs; unfold inf
      rw [if_neg hop.1, if_neg hop.2, if_pos (by omega)]
    rw [hq]
    have t7 : (e.op == 7) = false := by rw [h8]; rfl
    have t8 : (e.op == 8) = true := by rw [h8]; rfl
    have H7 := Lib.hid h8
    clear hq h8
    unfold Lx.val
    rw [HA.out]
    go_enter Try.func25, Try.ntmps25
    go_upto_region 1 with fail
    rw [← hW]
    clear hW
    go_wp2_with fail
    go_loopw [5, 45] (fun v i wr => ∃ k : Nat, i = .int .i64 (k : Int) ∧ k ≤ e.kids.length ∧ wr.ownsRow (w.heap.size + 1) 30 1 v (infK (inf sch n) (e.kids.take k) u).1.length ((infK (inf sch n) (e.kids.take k) u).1.map cellT) ∧ Upd w wr g 66 (evL (infK (inf sch n) (e.kids.take k) u).2 A sch.length c) ∧ Bt sch A n e g w.heap.size wr)
      (fun _ i _ => e.kids.length - (intOf i).toNat)
    case atStart => exact ⟨0, rfl, by omega, World.ownsRow_nil _ _ _ _, HU.out, HB.out⟩
    case round =>
      obtain ⟨k, rfl, hk, hown, hu, hb⟩ := hrel
      by_cases hlt : k < e.kids.length
      · obtain ⟨b', o', hA, hbg, hx⟩ := hb.te.at_ hlt
        rw [HA.out] at hA
        simp only [Option.some.injEq, Addr.mk.injEq, and_true] at hA
        obtain ⟨rfl, rfl⟩ := hA
        obtain ⟨x0, x1, x2, x3, x4, x5⟩ := hx.six
        have c5' := hb.six.2.2.2.2.2
        have hnx := infK_next (f := inf sch n) (u := u) (kid_is hlt)
        have hln : (infK (inf sch n) (e.kids.take k) u).1.length = k := by rw [infK_len, List.length_take]; omega
        rw [hln] at hown
        rw [HA.out] at c5'
        obtain ⟨V, hV, fb, hsz, fx⟩ := lxbox wr (kid e k)
        have hgw := hu.own.inside
        have hcall := Lib.hid (hE.out (kid e k) (infK (inf sch n) (e.kids.take k) u).2 g V ((hb.te.sub hlt).past (fb.mono (by omega))) (hb.row.past (fb.mono (by omega))) (hu.own.past fb hgw))
        have HH := Lib.hid (And.intro hown (And.intro (hu.quiet fb) (And.intro (hb.past (fb.mono (by have := hb.box.inside; omega))) (And.intro hnx hln))))
        have HV := Lib.hid (And.intro hV hsz)
        unfold Lx.val at hcall
        have q0 : (0 : Int) ≤ (k : Int) := by omega
        have q1 : (k : Int) < (e.kids.length : Int) := by omega
        clear hown hu hb hx hnx hln fb fx hsz
        go_wp2_with fail
        rw [← hV]
        clear hV
        refine hcall.out.mono ?_
        rintro _ w2 ⟨rfl, u2⟩
        have ho2 : w2.ownsRow (w.heap.size + 1) 30 1 _ k _ := (HV.out.1 ▸ (HH.out.1.alloc _) : V.ownsRow (w.heap.size + 1) 30 1 _ k _).kept u2.grow (not_block HH.out.1 (by omega))
        have H2 := Lib.hid (And.intro ho2 (And.intro (HH.out.2.1.trans u2) (HH.out.2.2.1.next u2)))
        have hsz2 := u2.grow.size
        have hszw := (HH.out.2.1.trans u2).grow.size
        have hbx := (HH.out.2.2.1.next u2).box.inside
        clear ho2 u2
        have hUn := HI.out.1
        have hi := HI.out.2.1
        have hz0 := HI.out.2.2.1
        have hz1 := HI.out.2.2.2.1
        have hz2 := HI.out.2.2.2.2
        go_wp2_with (at_builtin; refine wpList_push _ rfl _ _ 34 rfl (w.heap.size + 1) 30 i0 _ 1 1 hUn hi hz0 hz1 hz2 rfl (by decide) _ _ _ rfl H2.out.1 #[.int .u8 (inf sch n (kid e k) (infK (inf sch n) (e.kids.take k) u).2).1] rfl rfl ?k1 ?k2 ?k3 ?k4 ?_)
        case k1 => rfl
        case k2 => unfold maxLen; omega
        case k3 => omega
        case k4 => omega
        intro v' w' ho' hb' _ _
        have H3 := Lib.hid (And.intro ho' hb')
        clear ho' hb' hUn hi hz0 hz1 hz2
        go_wp2_with fail
        go_roundw
        case rel =>
          refine ⟨k + 1, by go_num, by omega, ?_, ?_, H2.out.2.2.past H3.out.2⟩
          · rw [HH.out.2.2.2.1]
            exact own_snocT H3.out.1 HH.out.2.2.2.2
          · rw [HH.out.2.2.2.1]
            exact H2.out.2.1.pushed H3.out.2 (by omega) (by omega)
        case measure => simp [intOf]; omega
      · have hk2 : k = e.kids.length := by omega
        subst hk2
        rw [List.take_length] at hown hu
        have hL := infK_len (inf sch n) e.kids u
        have c0' := hb.six.1
        obtain ⟨A5, cc, rfl, hcap, hmx, hty, hnew⟩ := tys_of_own rfl hown
        have hgw := hu.own.inside
        have hsame := Lib.hid (same_any A sch.length c (infK (inf sch n) e.kids u).2 A5 cc (infK (inf sch n) e.kids u).1 g wr hty (fun b o h => by have := (hnew b o none h).1; omega) (by omega) hu.own)
        have HH := Lib.hid hu
        clear hu hty hown hb hnew hL hcap hmx
        go_wp2_with fail
        refine hsame.out.mono ?_
        rintro _ w2 ⟨rfl, u2⟩
        have U2 := Lib.hid (HH.out.trans u2)
        clear u2
        go_wp2_with fail
        go_ret
        exact ⟨rfl, U2.out⟩
  by_cases h12 : e.op = 12
  case pos =>
    have h3 : e.kids.length = 3 := by have hnode := HN.out; rw [h12] at hnode; unfold kidsOf at hnode; simp at hnode; omega
    have hq : inf sch (n + 1) e u = ((infK (inf sch n) e.kids u).1.getD 1 0, sameU (sameU (infK (inf sch n) e.kids u).2 [1, (infK (inf sch n) e.kids u).1.getD 0 0]) ((infK (inf sch n) e.kids u).1.drop 1)) := by
      conv => lhs; unfold inf
      rw [if_neg hop.1, if_neg hop.2, if_neg (by omega), if_pos h12]
    rw [hq]
    have t7 : (e.op == 7) = false := by rw [h12]; rfl
    have t8 : (e.op == 8) = false := by rw [h12]; rfl
    have t12 : (e.op == 12) = true := by rw [h12]; rfl
    have H12 := Lib.hid h12
    have H3 := Lib.hid h3
    clear hq h12 h3
    unfold Lx.val
    rw [HA.out]
    go_enter Try.func25, Try.ntmps25
    go_upto_region 1 with fail
    rw [← hW]
    clear hW
    go_wp2_with fail
    go_loopw [5, 45] (fun v i wr => ∃ k : Nat, i = .int .i64 (k : Int) ∧ k ≤ e.kids.length ∧ wr.ownsRow (w.heap.size + 1) 30 1 v (infK (inf sch n) (e.kids.take k) u).1.length ((infK (inf sch n) (e.kids.take k) u).1.map cellT) ∧ Upd w wr g 66 (evL (infK (inf sch n) (e.kids.take k) u).2 A sch.length c) ∧ Bt sch A n e g w.heap.size wr)
      (fun _ i _ => e.kids.length - (intOf i).toNat)
    case atStart => exact ⟨0, rfl, by omega, World.ownsRow_nil _ _ _ _, HU.out, HB.out⟩
    case round =>
      obtain ⟨k, rfl, hk, hown, hu, hb⟩ := hrel
      by_cases hlt : k < e.kids.length
      · obtain ⟨b', o', hA, hbg, hx⟩ := hb.te.at_ hlt
        rw [HA.out] at hA
        simp only [Option.some.injEq, Addr.mk.injEq, and_true] at hA
        obtain ⟨rfl, rfl⟩ := hA
        obtain ⟨x0, x1, x2, x3, x4, x5⟩ := hx.six
        have c5' := hb.six.2.2.2.2.2
        have hnx := infK_next (f := inf sch n) (u := u) (kid_is hlt)
        have hln : (infK (inf sch n) (e.kids.take k) u).1.length = k := by rw [infK_len, List.length_take]; omega
        rw [hln] at hown
        rw [HA.out] at c5'
        obtain ⟨V, hV, fb, hsz, fx⟩ := lxbox wr (kid e k)
        have hgw := hu.own.inside
        have hcall := Lib.hid (hE.out (kid e k) (infK (inf sch n) (e.kids.take k) u).2 g V ((hb.te.sub hlt).past (fb.mono (by omega))) (hb.row.past (fb.mono (by omega))) (hu.own.past fb hgw))
        have HH := Lib.hid (And.intro hown (And.intro (hu.quiet fb) (And.intro (hb.past (fb.mono (by have := hb.box.inside; omega))) (And.intro hnx hln))))
        have HV := Lib.hid (And.intro hV hsz)
        unfold Lx.val at hcall
        have q0 : (0 : Int) ≤ (k : Int) := by omega
        have q1 : (k : Int) < (e.kids.length : Int) := by omega
        clear hown hu hb hx hnx hln fb fx hsz
        go_wp2_with fail
        rw [← hV]
        clear hV
        refine hcall.out.mono ?_
        rintro _ w2 ⟨rfl, u2⟩
        have ho2 : w2.ownsRow (w.heap.size + 1) 30 1 _ k _ := (HV.out.1 ▸ (HH.out.1.alloc _) : V.ownsRow (w.heap.size + 1) 30 1 _ k _).kept u2.grow (not_block HH.out.1 (by omega))
        have H2 := Lib.hid (And.intro ho2 (And.intro (HH.out.2.1.trans u2) (HH.out.2.2.1.next u2)))
        have hsz2 := u2.grow.size
        have hszw := (HH.out.2.1.trans u2).grow.size
        have hbx := (HH.out.2.2.1.next u2).box.inside
        clear ho2 u2
        have hUn := HI.out.1
        have hi := HI.out.2.1
        have hz0 := HI.out.2.2.1
        have hz1 := HI.out.2.2.2.1
        have hz2 := HI.out.2.2.2.2
        go_wp2_with (at_builtin; refine wpList_push _ rfl _ _ 34 rfl (w.heap.size + 1) 30 i0 _ 1 1 hUn hi hz0 hz1 hz2 rfl (by decide) _ _ _ rfl H2.out.1 #[.int .u8 (inf sch n (kid e k) (infK (inf sch n) (e.kids.take k) u).2).1] rfl rfl ?k1 ?k2 ?k3 ?k4 ?_)
        case k1 => rfl
        case k2 => unfold maxLen; omega
        case k3 => omega
        case k4 => omega
        intro v' w' ho' hb' _ _
        have H3 := Lib.hid (And.intro ho' hb')
        clear ho' hb' hUn hi hz0 hz1 hz2
        go_wp2_with fail
        go_roundw
        case rel =>
          refine ⟨k + 1, by go_num, by omega, ?_, ?_, H2.out.2.2.past H3.out.2⟩
          · rw [HH.out.2.2.2.1]
            exact own_snocT H3.out.1 HH.out.2.2.2.2
          · rw [HH.out.2.2.2.1]
            exact H2.out.2.1.pushed H3.out.2 (by omega) (by omega)
        case measure => simp [intOf]; omega
      · have hk2 : k = e.kids.length := by omega
        subst hk2
        rw [List.take_length] at hown hu
        have hL := infK_len (inf sch n) e.kids u
        have c0' := hb.six.1
        obtain ⟨A5, cc, rfl, hcap, hmx, hty, hnew⟩ := tys_of_own rfl hown
        have hgw := hu.own.inside
        have HH := Lib.hid (And.intro hu (And.intro hty (fun b o s h => (hnew b o s h).1)))
        obtain ⟨bb, oo, rfl, hbb, hcells⟩ := hty (by have := H3.out; rw [hL]; omega)
        obtain ⟨hbase, rfl⟩ := hnew bb oo none rfl
        clear hu hty hown hb hnew
        obtain ⟨L, hLe⟩ : ∃ L, (infK (inf sch n) e.kids u).1 = L := ⟨_, rfl⟩
        rw [hLe] at hL HH hcells hcap
        obtain ⟨t0, ta, tb, rfl⟩ : ∃ x y z, L = [x, y, z] := by
          have h3 := H3.out
          match L, hL with
          | [x, y, z], _ => exact ⟨x, y, z, rfl⟩
          | [], h => simp at h; omega
          | [_], h => simp at h; omega
          | [_, _], h => simp at h; omega
          | _ :: _ :: _ :: _ :: _, h => simp at h; omega
        obtain ⟨u1, hu1⟩ : ∃ u1, (infK (inf sch n) e.kids u).2 = u1 := ⟨_, rfl⟩
        rw [hu1] at HH
        have HE := Lib.hid (And.intro hLe hu1)
        clear hu1
        rw [hLe]
        clear hLe
        have l0 := hcells 0 t0 rfl
        have l1 := hcells 1 ta rfl
        rw [Nat.zero_add] at l0 l1
        have hcc : 3 ≤ cc := hcap
        have hcne : ¬ cc = 1 := by omega
        have r1 : (1 : Int) ≤ (cc : Int) := by omega
        have hs1 := fun W (h : Upd w W g 66 (evL u1 A sch.length c)) => Lib.hid (same_any A sch.length c u1 (some ⟨W.heap.size, 0, none⟩) 2 [1, t0] g (W.alloc (.cells #[.int .u8 1, .int .u8 t0] 30)) (tys_two 1 t0 rfl) (fun b o h' => by cases h'; have := h.grow.size; omega) (by unfold maxLen; simp) (h.more _).own)
        clear hcap hmx hcells hL
        go_wp2_with fail
        refine (hs1 _ HH.out.1).out.mono ?_
        rintro _ w2 ⟨rfl, u2⟩
        have hu2 := (HH.out.1.more (.cells #[.int .u8 1, .int .u8 t0] 30)).trans u2
        have hgr := u2.grow
        have hty2 : Tys w2 w2.heap.size (some ⟨bb, 1, none⟩) [ta, tb] := fun _ => by
          obtain ⟨b', o', e', hlt', hc'⟩ := HH.out.2.1 (by simp)
          simp only [Option.some.injEq, Addr.mk.injEq, and_true] at e'
          obtain ⟨rfl, rfl⟩ := e'
          refine ⟨bb, 1, rfl, by have := hgr.size; simp at this; omega, fun i t hi => ?_⟩
          have hlt2 : bb < (wr.alloc (.cells #[.int .u8 1, .int .u8 t0] 30)).heap.size := by simp; omega
          rw [(grown_olds hgr).1 bb (1 + i) hlt2 (by omega), Below.cell (p := ⟨bb, 1 + i, none⟩) ((Below.refl wr.heap.size wr).alloc (Nat.le_refl _) _) hbb]
          have := hc' (i + 1) t (by simpa using hi)
          rwa [show 0 + (i + 1) = 1 + i by omega] at this
        have hsame := fun cq => Lib.hid (same_any A sch.length c _ (some ⟨bb, 1, none⟩) cq [ta, tb] g w2 hty2 (fun b o h' => by cases h'; omega) (by unfold maxLen; simp) hu2.own)
        have l1' : w2.cell? ⟨bb, 1, none⟩ = some (.int .u8 ta) := by
          obtain ⟨b', o', e', hlt', hc'⟩ := hty2 (by simp)
          simp only [Option.some.injEq, Addr.mk.injEq, and_true] at e'
          obtain ⟨rfl, rfl⟩ := e'
          exact hc' 0 ta rfl
        have l1'' := l1'
        have U2 := Lib.hid (And.intro hu2 hty2)
        have hbb2 : bb < w2.heap.size := by have := hgr.size; simp at this; omega
        clear u2 hu2 hgr hty2 l0 l1
        go_wp2_with fail
        refine (hsame _).out.mono ?_
        rintro _ w3 ⟨rfl, u3⟩
        have l2 := ((grown_olds u3.grow).1 bb 1 hbb2 (by omega)).trans l1''
        have U3 := Lib.hid (U2.out.1.trans u3)
        clear u3 l1'
        go_wp2_with fail
        go_ret
        exact ret_u8s (by rw [HE.out.1]; rfl) (by rw [HE.out.1, HE.out.2]; rfl) U3.out
  have hq : inf sch (n + 1) e u = (1, sameU (infK (inf sch n) e.kids u).2 ((infK (inf sch n) e.kids u).1 ++ [1])) := by
    conv => lhs; unfold inf
    rw [if_neg hop.1, if_neg hop.2, if_neg (by omega), if_neg h12]
  rw [hq]
  have t7 : (e.op == 7) = false := by simpa using h7
  have t8 : (e.op == 8) = false := by simpa using h8
  have t12 : (e.op == 12) = false := by simpa using h12
  clear hq
  unfold Lx.val
  rw [HA.out]
  go_enter Try.func25, Try.ntmps25
  go_upto_region 1 with fail
  rw [← hW]
  clear hW
  go_wp2_with fail
  go_loopw [5, 45] (fun v i wr => ∃ k : Nat, i = .int .i64 (k : Int) ∧ k ≤ e.kids.length ∧ wr.ownsRow (w.heap.size + 1) 30 1 v (infK (inf sch n) (e.kids.take k) u).1.length ((infK (inf sch n) (e.kids.take k) u).1.map cellT) ∧ Upd w wr g 66 (evL (infK (inf sch n) (e.kids.take k) u).2 A sch.length c) ∧ Bt sch A n e g w.heap.size wr)
    (fun _ i _ => e.kids.length - (intOf i).toNat)
  case atStart => exact ⟨0, rfl, by omega, World.ownsRow_nil _ _ _ _, HU.out, HB.out⟩
  case round =>
    obtain ⟨k, rfl, hk, hown, hu, hb⟩ := hrel
    by_cases hlt : k < e.kids.length
    · obtain ⟨b', o', hA, hbg, hx⟩ := hb.te.at_ hlt
      rw [HA.out] at hA
      simp only [Option.some.injEq, Addr.mk.injEq, and_true] at hA
      obtain ⟨rfl, rfl⟩ := hA
      obtain ⟨x0, x1, x2, x3, x4, x5⟩ := hx.six
      have c5' := hb.six.2.2.2.2.2
      have hnx := infK_next (f := inf sch n) (u := u) (kid_is hlt)
      have hln : (infK (inf sch n) (e.kids.take k) u).1.length = k := by rw [infK_len, List.length_take]; omega
      rw [hln] at hown
      rw [HA.out] at c5'
      obtain ⟨V, hV, fb, hsz, fx⟩ := lxbox wr (kid e k)
      have hgw := hu.own.inside
      have hcall := Lib.hid (hE.out (kid e k) (infK (inf sch n) (e.kids.take k) u).2 g V ((hb.te.sub hlt).past (fb.mono (by omega))) (hb.row.past (fb.mono (by omega))) (hu.own.past fb hgw))
      have HH := Lib.hid (And.intro hown (And.intro (hu.quiet fb) (And.intro (hb.past (fb.mono (by have := hb.box.inside; omega))) (And.intro hnx hln))))
      have HV := Lib.hid (And.intro hV hsz)
      unfold Lx.val at hcall
      have q0 : (0 : Int) ≤ (k : Int) := by omega
      have q1 : (k : Int) < (e.kids.length : Int) := by omega
      clear hown hu hb hx hnx hln fb fx hsz
      go_wp2_with fail
      rw [← hV]
      clear hV
      refine hcall.out.mono ?_
      rintro _ w2 ⟨rfl, u2⟩
      have ho2 : w2.ownsRow (w.heap.size + 1) 30 1 _ k _ := (HV.out.1 ▸ (HH.out.1.alloc _) : V.ownsRow (w.heap.size + 1) 30 1 _ k _).kept u2.grow (not_block HH.out.1 (by omega))
      have H2 := Lib.hid (And.intro ho2 (And.intro (HH.out.2.1.trans u2) (HH.out.2.2.1.next u2)))
      have hsz2 := u2.grow.size
      have hszw := (HH.out.2.1.trans u2).grow.size
      have hbx := (HH.out.2.2.1.next u2).box.inside
      clear ho2 u2
      have hUn := HI.out.1
      have hi := HI.out.2.1
      have hz0 := HI.out.2.2.1
      have hz1 := HI.out.2.2.2.1
      have hz2 := HI.out.2.2.2.2
      go_wp2_with (at_builtin; refine wpList_push _ rfl _ _ 34 rfl (w.heap.size + 1) 30 i0 _ 1 1 hUn hi hz0 hz1 hz2 rfl (by decide) _ _ _ rfl H2.out.1 #[.int .u8 (inf sch n (kid e k) (infK (inf sch n) (e.kids.take k) u).2).1] rfl rfl ?k1 ?k2 ?k3 ?k4 ?_)
      case k1 => rfl
      case k2 => unfold maxLen; omega
      case k3 => omega
      case k4 => omega
      intro v' w' ho' hb' _ _
      have H3 := Lib.hid (And.intro ho' hb')
      clear ho' hb' hUn hi hz0 hz1 hz2
      go_wp2_with fail
      go_roundw
      case rel =>
        refine ⟨k + 1, by go_num, by omega, ?_, ?_, H2.out.2.2.past H3.out.2⟩
        · rw [HH.out.2.2.2.1]
          exact own_snocT H3.out.1 HH.out.2.2.2.2
        · rw [HH.out.2.2.2.1]
          exact H2.out.2.1.pushed H3.out.2 (by omega) (by omega)
      case measure => simp [intOf]; omega
    · have hk2 : k = e.kids.length := by omega
      subst hk2
      rw [List.take_length] at hown hu
      have hL := infK_len (inf sch n) e.kids u
      have c0' := hb.six.1
      obtain ⟨A5, cc, rfl, hcap, hmx, hty, hnew⟩ := tys_of_own rfl hown
      have hgw := hu.own.inside
      have H2 := Lib.hid (And.intro hown hu)
      have hszw := hu.grow.size
      have hbx := hb.box.inside
      clear hown hu hb hty hnew
      have hUn := HI.out.1
      have hi := HI.out.2.1
      have hz0 := HI.out.2.2.1
      have hz1 := HI.out.2.2.2.1
      have hz2 := HI.out.2.2.2.2
      have HL := Lib.hid hL
      clear hL hcap hmx
      go_wp2_with (at_builtin; refine wpList_push _ rfl _ _ 34 rfl (w.heap.size + 1) 30 i0 _ 1 1 hUn hi hz0 hz1 hz2 rfl (by decide) _ _ _ rfl H2.out.1 #[.int .u8 1] rfl rfl ?k1 ?k2 ?k3 ?k4 ?_)
      case k1 => rfl
      case k2 => (have := HL.out; unfold maxLen; omega)
      case k3 => (have := HL.out; omega)
      case k4 => omega
      intro v' w' ho' hb' _ _
      have ho3 := own_snocT ho' rfl
      have hu3 := H2.out.2.pushed hb' (by omega) (by omega)
      obtain ⟨A6, c6, rfl, _, _, hty, hnew⟩ := tys_of_own rfl ho3
      have hl4 : ((infK (inf sch n) e.kids u).1 ++ [1]).length ≤ maxLen := by rw [List.length_append, HL.out]; unfold maxLen; simp; omega
      have hsame := Lib.hid (same_any A sch.length c (infK (inf sch n) e.kids u).2 A6 c6 ((infK (inf sch n) e.kids u).1 ++ [1]) g w' hty (fun b o h => by have := (hnew b o none h).1; omega) hl4 hu3.own)
      simp only [List.length_append, List.length_cons, List.length_nil, Nat.zero_add] at hsame
      have HH := Lib.hid hu3
      clear hu3 hty hnew ho3 ho' hb' hUn hi hz0 hz1 hz2 hl4
      go_wp2_with fail
      refine hsame.out.mono ?_
      rintro _ w2 ⟨rfl, u2⟩
      have U2 := Lib.hid (HH.out.trans u2)
      clear u2
      go_wp2_with fail
      go_ret
      exact ⟨rfl, U2.out⟩
theorem infer_any (sch : List Int) (A : Option Addr) (c : Nat) : ∀ n, InfC sch A c n
  | 0 => fun e u g w ht _ _ => by have := ht.gd; cases this
  | n + 1 => fun e u g w ht hr ho => by
    by_cases h : e.op = 1 ∨ e.op = 2
    · exact infer_leaf sch A c n e h u g w ht hr ho
    · exact infer_node sch A c n (infer_any sch A c n) e ⟨fun h1 => h (.inl h1), fun h2 => h (.inr h2)⟩ u g w ht hr ho
end Go.Proofs.Ytjidjpmdmcleoaa
