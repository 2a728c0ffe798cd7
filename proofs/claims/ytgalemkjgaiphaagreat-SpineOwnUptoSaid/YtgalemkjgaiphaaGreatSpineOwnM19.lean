/- Part 19 of the texts on which SpineOwn rests: facts and contracts. -/
import Derived.Test.YtgalemkjgaiphaaGreatSpineOwnM18
namespace Go.Proofs.YtgalemkjgaiphaaGreat
open Go Go.RowKit

def SpoilD (W : World) (B : Nat) (A : Option Addr) (n : Nat) : Prop := 0 < n → ∃ b o, A = some (⟨b, o, none⟩ : Addr) ∧ B ≤ b ∧ ∀ i, i < n → (∃ x : Int, W.cell? ⟨b, o + i * 6 + 5, none⟩ = some (.int .i64 x)) ∧ W.frozen? ⟨b, o + i * 6 + 5, none⟩ = false
theorem SpoilD.past {B n : Nat} {V W : World} {A : Option Addr} (h : SpoilD V B A n) (k : IntsOnly B V W) : SpoilD W B A n := fun hp => by
  obtain ⟨b, o, e, hb, hc⟩ := h hp
  refine ⟨b, o, e, hb, fun i hi => ?_⟩
  obtain ⟨⟨x, hx⟩, hf⟩ := hc i hi
  exact ⟨k.int hx, (k.open_ _).trans hf⟩
theorem spoil_diffs {W : World} {B : Nat} {A : Option Addr} {l : List Up} (h : Ups W W.heap.size A l) (ho : OpnC W B A l.length) : SpoilD W B A l.length := fun hp => by
  obtain ⟨b, o, e, _, hc⟩ := lies_up h.head hp
  refine ⟨b, o, e, (ho hp b o e).1, fun i hi => ?_⟩
  obtain ⟨_, _, _, _, _, c5⟩ := (hc i _ (List.getElem?_eq_getElem hi)).six
  exact ⟨⟨_, c5⟩, (ho hp).free e _⟩
structure SpoilV (W : World) (B b o : Nat) (l : Lv) : Prop where
  cls : ∃ x : Int, W.cell? ⟨b, o, none⟩ = some (.int .i64 x)
  free : W.frozen? ⟨b, o, none⟩ = false
  ups : W.cell? ⟨b, o + 3, none⟩ = some (.slice l.b.uA l.b.l.length l.b.uc)
  each_ : SpoilD W B l.b.uA l.b.l.length
theorem SpoilV.past {B b o : Nat} {V W : World} {l : Lv} (h : SpoilV V B b o l) (k : IntsOnly B V W) : SpoilV W B b o l := by
  obtain ⟨x, hx⟩ := h.cls
  exact ⟨k.int hx, (k.open_ _).trans h.free, k.slice h.ups, h.each_.past k⟩
def SpoilS (W : World) (B : Nat) (A : Option Addr) (L : List Lv) : Prop := 0 < L.length → ∃ b o, A = some (⟨b, o, none⟩ : Addr) ∧ B ≤ b ∧ ∀ i l, L[i]? = some l → SpoilV W B b (o + i * 10) l
theorem spoil_sp {W : World} {B : Nat} {s : Sp} (h : SpIn W W.heap.size s) (ho : OpnSp W B s) : SpoilS W B s.lA s.L := fun hp => by
  obtain ⟨b, o, e, _, hc⟩ := lies_lv h.lev.head hp
  refine ⟨b, o, e, (ho.1 hp b o e).1, fun i l hl => ?_⟩
  have hm := List.mem_of_getElem? hl
  exact ⟨⟨l.cls, hc i l hl 0 _ rfl⟩, (ho.1 hp).free e _, hc i l hl 3 _ rfl, spoil_diffs (h.lev.each_ l hm).b.ups (ho.2 l hm)⟩
set_option maxRecDepth 100000 in
set_option maxHeartbeats 25600000 in
theorem sown_walk (s : Sp) (A : Option Addr) (c : Nat) (l : List Up) (w : World) (hs : SpIn w w.heap.size s) (ok : SpOk s) (h8 : ∀ x ∈ s.L, LvSh x) (hw : wtS s.L ≤ 1048576) (hl : Ups w w.heap.size A l) (okl : ∀ u ∈ l, UOk u) (hn : l.length ≤ 1048576) :
    Calls Tryz.prog 4 #[s.val, .slice A l.length c] w fun e w' => e = .returned (.bool true) ∧ Below w.heap.size w w' := by
  obtain ⟨V, hV, hvb, hvs, hvo⟩ := spbox w s
  have H := Lib.hid (And.intro hs (And.intro ok (And.intro h8 (And.intro hw (And.intro hl (And.intro okl hn))))))
  have HW := Lib.hid hvb
  have HB := Lib.hid hvo
  have hsv : s.val = .agg #[.slice s.sA s.f.length s.sc, .slice s.lA s.L.length s.lc] := rfl
  have hpw := parts_wt s.L
  rw [hsv]
  clear hs ok h8 hl okl hvb hvs hvo
  go_enter Tryz.func4, Tryz.ntmps4
  go_upto_region 1 with fail
  rw [← hV]
  clear hV
  go_wp2_with fail
  refine (slives_true V).mono ?_
  rintro _ w1 ⟨rfl, b1⟩
  have ho1 := HB.out.past b1 HB.out.inside
  have hb1 := belows HW.out b1
  have y2 := Lib.hid (rcopyS_any s w1 (H.out.1.keep hb1) H.out.2.1.sm H.out.2.2.1)
  rw [hsv] at y2
  obtain ⟨d0, d1⟩ := own2 ho1
  have H1 := Lib.hid (And.intro hb1 ho1)
  clear b1 ho1 hb1
  go_wp2_with fail
  refine y2.out.mono ?_
  rintro _ w2 ⟨g, rfl, gf, gL, gi, gs, _, b2⟩
  obtain ⟨V2, hV2, bb2, hs2, ho2⟩ := spbox w2 g
  rw [show g.val = .agg #[.slice g.sA g.f.length g.sc, .slice g.lA g.L.length g.lc] from rfl]
  have hb12 := belows b2 bb2
  have HG := Lib.hid (And.intro gf (And.intro gL (And.intro (gi.keep bb2) (And.intro gs ho2))))
  have hb2 := belows H1.out.1 hb12
  have ho0 := H1.out.2.past hb12 H1.out.2.inside
  obtain ⟨V3, hV3, bb3, hul⟩ := one_list V2 A c l (H.out.2.2.2.2.1.keep hb2)
  have hb3 := belows hb2 bb3
  have y3 := Lib.hid (insert_spO s (some ⟨V2.heap.size, 0, none⟩) 1 [⟨A, c, l⟩] V3 (H.out.1.keep hb3) H.out.2.1 hul (fun r hr => by rw [List.mem_singleton.1 hr]; exact H.out.2.2.2.2.2.1) (by simp [flatR]; omega) (by simp))
  rw [hsv] at y3
  have H3 := Lib.hid (And.intro hb3 (And.intro (ho0.past bb3 ho0.inside) (And.intro bb3 (Nat.lt_of_lt_of_le ho0.inside bb3.size))))
  have HQ := Lib.hid (show w2.heap.size < V2.heap.size from ho2.inside)
  obtain ⟨e0, e1⟩ := own2 ho0
  clear gf gL gi gs b2 bb2 hs2 ho2 hb12 hb2 ho0 bb3 hb3 hul d0 d1 y2
  go_upto_region 4 with fail
  rw [← hV2]
  clear hV2
  go_wp2_with fail
  rw [← hV3]
  clear hV3
  refine y3.out.mono ?_
  rintro _ w4 ⟨a, E, rfl, _, ia, oa, la, b4, pa⟩
  obtain ⟨V4, hV4, bb4, hs4, ho4⟩ := spbox w4 a
  rw [show a.val = .agg #[.slice a.sA a.f.length a.sc, .slice a.lA a.L.length a.lc] from rfl]
  have hb34 := belows b4 bb4
  have HS := Lib.hid (spoil_sp (ia.keep bb4) (pa.past bb4))
  have HA := Lib.hid (And.intro ho4 (And.intro hb34 (And.intro (belows H3.out.1 hb34) (H3.out.2.1.past hb34 H3.out.2.1.inside))))
  have han := oa.n
  have HOA := Lib.hid oa
  obtain ⟨d0, d1⟩ := own2 ho4
  clear ia oa la b4 pa bb4 hs4 ho4 hb34 e0 e1 y3
  go_upto_region 5 with fail
  rw [← hV4]
  clear hV4
  go_wp2_with fail
  go_loopw [28] (fun v28 wr => ∃ k : Nat, v28 = .int .i64 (k : Int) ∧ k ≤ a.L.length ∧ IntsOnly V3.heap.size V4 wr)
    (fun v28 _ => a.L.length - (intOf v28).toNat)
  case atStart => exact ⟨0, rfl, by omega, IntsOnly.refl _ _⟩
  case round =>
    obtain ⟨k, rfl, hk, hI⟩ := hrel
    by_cases hlt : k < a.L.length
    · obtain ⟨x, hx⟩ : ∃ x, a.L[k]? = some x := ⟨_, List.getElem?_eq_getElem hlt⟩
      obtain ⟨b, o, hA, hB, hat⟩ := HS.out (by omega)
      have hxn := (HOA.out.each_ x (List.mem_of_getElem? hx)).b.l.n
      have sv := (hat k x hx).past hI
      obtain ⟨n, hd⟩ := sv.cls
      have hfree := sv.free
      have hJ2 := hI.set hd hB 0
      have HX := Lib.hid (And.intro (hat k x hx) hB)
      have a1 := hI.slice (HA.out.1.at_ 1)
      have a2 := hJ2.slice (HA.out.1.at_ 1)
      rw [hA] at a1 a2
      have HJ := Lib.hid hJ2
      have q0 : (0 : Int) ≤ (k : Int) := by omega
      have q1 : (k : Int) < (a.L.length : Int) := by omega
      have r3 := (HX.out.1.past hJ2).ups
      obtain ⟨W2, hW2⟩ : ∃ W2, W2 = wr.setCell ⟨b, o + k * 10, none⟩ (.int .i64 0) := ⟨_, rfl⟩
      rw [← hW2] at HJ a2 r3
      clear sv hI hJ2 hat hx d0 d1
      go_upto_region 9 with fail
      rw [← hW2]
      clear hW2 hd hfree a1
      go_wp2_with fail
      go_loopw [44] (fun v44 wr => ∃ j : Nat, v44 = .int .i64 (j : Int) ∧ j ≤ x.b.l.length ∧ IntsOnly V3.heap.size V4 wr)
        (fun v44 _ => x.b.l.length - (intOf v44).toNat)
      case atStart => exact ⟨0, rfl, by omega, HJ.out⟩
      case round =>
        obtain ⟨j, rfl, hj, hQ⟩ := hrel
        by_cases hlj : j < x.b.l.length
        · have sv := HX.out.1.past hQ
          have r3 := sv.ups
          obtain ⟨ub, uo, huA, huB, hvals⟩ := sv.each_ (by omega)
          obtain ⟨⟨y, hy⟩, hyf⟩ := hvals j hlj
          have hQ2 := Lib.hid (hQ.set hy huB 0)
          have a1 := hQ.slice (HA.out.1.at_ 1)
          rw [hA] at a1
          rw [huA] at r3
          have q4 : (0 : Int) ≤ (j : Int) := by omega
          have q5 : (j : Int) < (x.b.l.length : Int) := by omega
          clear sv hvals hQ huA
          go_wp2_with fail
          go_roundw
          case rel => exact ⟨j + 1, by go_num, by omega, hQ2.out⟩
          case measure => simp [intOf]; omega
        · have hjn : j = x.b.l.length := by omega
          subst hjn
          have hn1 : ¬ ((x.b.l.length : Int) < (x.b.l.length : Int)) := by omega
          have HQ2 := Lib.hid hQ
          clear hQ
          go_wp2_with fail
          go_roundw
          case rel => exact ⟨k + 1, by go_num, by omega, HQ2.out⟩
          case measure => simp [intOf]; omega
    · have hkn : k = a.L.length := by omega
      subst hkn
      have hn1 : ¬ ((a.L.length : Int) < (a.L.length : Int)) := by omega
      have hb4 := HA.out.2.2.1.trans (hI.below.mono (Nat.le_trans H3.out.1.size (Nat.le_refl _)))
      have hbV : Below V3.heap.size V3 wr := HA.out.2.1.trans hI.below
      have hob := H3.out.2.1.past hbV H3.out.2.1.inside
      have y5 := Lib.hid (all_anyO s wr (H.out.1.keep hb4) H.out.2.1 (by omega))
      rw [hsv] at y5
      have H4 := Lib.hid (And.intro hb4 (And.intro hbV hob))
      obtain ⟨e0, e1⟩ := own2 hob
      clear hI hb4 hbV hob d0 d1
      go_wp2_with fail
      refine y5.out.mono ?_
      rintro _ w5 ⟨b, e, rfl, _, ib, ob, lb, b5, pb⟩
      obtain ⟨n5, hn5⟩ : ∃ n, n = wr.heap.size := ⟨_, rfl⟩
      rw [← hn5] at pb
      have HN5 := Lib.hid hn5
      have HS5 := Lib.hid (spoil_list ib.ups pb)
      have hbn := ob.l.n
      have hbo := Lib.hid ob.l.ok
      have hb5 := belows H4.out.2.1 b5
      have H5 := Lib.hid (And.intro (belows H4.out.1 b5) (And.intro hb5 b5.size))
      clear ib ob lb b5 pb hb5 e0 e1 y5 hn5
      go_wp2_with fail
      go_loopw [66] (fun v66 wq => ∃ j : Nat, v66 = .int .i64 (j : Int) ∧ j ≤ b.l.length ∧ IntsOnly n5 w5 wq)
        (fun v66 _ => b.l.length - (intOf v66).toNat)
      case atStart => exact ⟨0, rfl, by omega, IntsOnly.refl _ _⟩
      case round =>
        obtain ⟨j, rfl, hj, hJ⟩ := hrel
        by_cases hlj : j < b.l.length
        · obtain ⟨u, hu⟩ : ∃ u, b.l[j]? = some u := ⟨_, List.getElem?_eq_getElem hlj⟩
          obtain ⟨ub, uo, huA, huB, hat⟩ := HS5.out (by omega)
          have su := (hat j u hu).past hJ
          have hr := su.row
          have HU := Lib.hid (hat j u hu)
          have hun := (hbo.out u (List.mem_of_getElem? hu)).rn
          have HJ := Lib.hid hJ
          have q2 : (0 : Int) ≤ (j : Int) := by omega
          have q3 : (j : Int) < (b.l.length : Int) := by omega
          rw [huA]
          clear su hJ hat hu
          go_wp2_with fail
          go_loopw [75] (fun v75 wq => ∃ i : Nat, v75 = .int .i64 (i : Int) ∧ i ≤ u.row.length ∧ IntsOnly n5 w5 wq)
            (fun v75 _ => u.row.length - (intOf v75).toNat)
          case atStart => exact ⟨0, rfl, by omega, HJ.out⟩
          case round =>
            obtain ⟨i, rfl, hi, hQ⟩ := hrel
            by_cases hli : i < u.row.length
            · have su := HU.out.past hQ
              have hr := su.row
              obtain ⟨rb, ro, hrA, hrB, hvals⟩ := su.vals (by omega)
              obtain ⟨⟨y, hy⟩, hyf⟩ := hvals i hli
              have hQ2 := Lib.hid (hQ.set hy hrB (wrap64 (y + 5)))
              have q4 : (0 : Int) ≤ (i : Int) := by omega
              have q5 : (i : Int) < (u.row.length : Int) := by omega
              rw [hrA] at hr
              clear su hvals hQ hrA
              go_wp2_with fail
              go_roundw
              case rel => exact ⟨i + 1, by go_num, by omega, hQ2.out⟩
              case measure => simp [intOf]; omega
            · have hin : i = u.row.length := by omega
              subst hin
              have hn2 : ¬ ((u.row.length : Int) < (u.row.length : Int)) := by omega
              have HQ2 := Lib.hid hQ
              clear hQ
              go_wp2_with fail
              go_roundw
              case rel => exact ⟨j + 1, by go_num, by omega, HQ2.out⟩
              case measure => simp [intOf]; omega
        · have hjn : j = b.l.length := by omega
          subst hjn
          have hn2 : ¬ ((b.l.length : Int) < (b.l.length : Int)) := by omega
          have hb7 := H5.out.1.trans (hJ.below.mono (by rw [HN5.out]; exact H4.out.1.size))
          have hbV7 : Below V3.heap.size V3 _ := H5.out.2.1.trans (hJ.below.mono (by rw [HN5.out]; exact H4.out.2.1.size))
          have hob := H3.out.2.1.past hbV7 H3.out.2.1.inside
          have hb2V := belows H3.out.2.2.1 hbV7
          have hog := HG.out.2.2.2.2.past hb2V HG.out.2.2.2.2.inside
          have y7 := Lib.hid (rsameS_yes s g _ (H.out.1.keep hb7) H.out.2.1.sm (HG.out.2.2.1.keep hb2V) HG.out.2.2.2.1 HG.out.1.symm HG.out.2.1.symm)
          rw [hsv, show g.val = .agg #[.slice g.sA g.f.length g.sc, .slice g.lA g.L.length g.lc] from rfl] at y7
          obtain ⟨e0, e1⟩ := own2 hob
          obtain ⟨f0, f1⟩ := own2 hog
          have H7 := Lib.hid hb7
          clear hJ hb7 hbV7 hob hb2V hog
          go_wp2_with fail
          refine y7.out.mono ?_
          rintro _ w8 ⟨rfl, b8⟩
          have H8 := Lib.hid (belows H7.out b8)
          clear b8 y7 e0 e1 f0 f1
          go_wp2_with fail
          go_ret
          exact ⟨rfl, H8.out⟩
theorem sown_law (s : Sp) (A : Option Addr) (c : Nat) (l : List Up) (w : World) (hs : SpIn w w.heap.size s) (ok : SpOk s ∧ ∀ x ∈ s.L, LvSh x) (hw : wtS s.L ≤ 1048576) (hl : Ups w w.heap.size A l) (okl : ∀ u ∈ l, UOk u) (_ : l.length ≤ c) (_ : c ≤ maxLen) (hn : l.length ≤ 1048576) :
    Calls Tryz.prog 4 #[s.val, .slice A l.length c] w fun e w' => e = .returned (.bool true) ∧ Below w.heap.size w w' := sown_walk s A c l w hs ok.1 ok.2 hw hl okl hn
end Go.Proofs.YtgalemkjgaiphaaGreat
