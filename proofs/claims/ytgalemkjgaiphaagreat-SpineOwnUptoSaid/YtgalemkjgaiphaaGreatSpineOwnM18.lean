/- Part 18 of the texts on which SpineOwn rests: facts and contracts. -/
import Derived.Test.YtgalemkjgaiphaaGreatSpineOwnM17
namespace Go.Proofs.YtgalemkjgaiphaaGreat
open Go Go.RowKit

theorem cnt_busy (L : List Lv) : cntS L = L.length + busyN L := by
  induction L with
  | nil => rfl
  | cons l L ih =>
    rw [cntS_cons, busyN_cons, ih, List.length_cons]
    unfold cntL
    cases l.busy
    · simp; omega
    · simp; omega
theorem busy_take {L : List Lv} {k : Nat} {l : Lv} (h : L[k]? = some l) : busyN (L.take (k + 1)) = busyN (L.take k) + if l.busy = true then 1 else 0 := by
  rw [List.take_add_one, h, busyN_app]
  show _ + busyN [l] = _
  rw [busyN_cons]
  rfl
theorem parts_take {L : List Lv} {k : Nat} {l : Lv} (h : L[k]? = some l) : (partsS (L.take (k + 1))).length = (partsS (L.take k)).length + (flatR (partsR l)).length := by
  rw [List.take_add_one, h, partsS_app, List.length_append, partsR_flat]
  show _ + (partsS [l]).length = _
  rw [partsS_cons, List.length_append]
  rfl
theorem parts_take_le (L : List Lv) (k : Nat) : (partsS (L.take k)).length ≤ (partsS L).length := by
  have e : partsS L = partsS (L.take k) ++ partsS (L.drop k) := by rw [← partsS_app, List.take_append_drop]
  rw [e, List.length_append]
  omega
def SizeS (s : Sp) (w : World) (x : Ending) (w' : World) : Prop :=
  ∃ n k e : Int, x = .returned (.tuple #[.int .i64 n, .int .i64 k, .int .i64 e]) ∧ ((¬ SpGood s.f s.L ∧ n = 0 ∧ k = 0 ∧ e = 8) ∨ (SpGood s.f s.L ∧ n = (cntS s.L : Int) ∧ k = ((partsS s.L).length : Int) ∧ e = 0)) ∧ Below w.heap.size w w'
set_option maxRecDepth 100000 in
set_option maxHeartbeats 6400000 in
theorem size_any (s : Sp) (w : World) (hs : SpIn w w.heap.size s) (os : SpOk s) (hn : (partsS s.L).length ≤ 1099511627776) :
    Calls Tryz.prog 34 #[s.val] w (SizeS s w) := by
  obtain ⟨V, hV, hvb, hvs, hvo⟩ := spbox w s
  have hin := hs.keep hvb
  have y1 := Lib.hid (scheck_any s V hin os)
  have H := Lib.hid (And.intro hin (And.intro os (And.intro hvb hvo)))
  have hnL := os.n
  obtain ⟨d0, d1⟩ := own2 hvo
  rw [show s.val = .agg #[.slice s.sA s.f.length s.sc, .slice s.lA s.L.length s.lc] from rfl] at y1 ⊢
  have hX := Lib.hid (fun W (hb : Below V.heap.size V W) => own2 (hvo.past hb hvo.inside))
  have HP := Lib.hid (show ∀ (n k e : Int) w', ((¬ SpGood s.f s.L ∧ n = 0 ∧ k = 0 ∧ e = 8) ∨ (SpGood s.f s.L ∧ n = (cntS s.L : Int) ∧ k = ((partsS s.L).length : Int) ∧ e = 0)) → Below w.heap.size w w' → SizeS s w (.returned (.tuple #[.int .i64 n, .int .i64 k, .int .i64 e])) w' from fun n k e w' h1 h2 => ⟨n, k, e, rfl, h1, h2⟩)
  clear hs os hvb hvs hvo hin
  go_enter Tryz.func34, Tryz.ntmps34
  go_upto_region 1 with fail
  rw [← hV]
  clear hV
  go_wp2_with fail
  refine y1.out.mono ?_
  rintro _ w1 ⟨e, rfl, he, b1⟩
  have H1 := Lib.hid b1
  obtain ⟨d0, d1⟩ := hX.out w1 b1
  by_cases h0 : e = 0
  case neg =>
    have hg : ¬ SpGood s.f s.L ∧ e = 8 := by
      rcases he with ⟨_, h⟩ | h
      · exact absurd h h0
      · exact h
    have t1 : (e != 0) = true := bne_iff_ne.2 h0
    have HG := Lib.hid hg
    clear he b1 hg h0
    go_wp2_with fail
    exact bodyPost_ret (v := .tuple #[.int .i64 0, .int .i64 0, .int .i64 e]) (by simp [results, Tryz.results34, go_sem]) rfl (HP.out 0 0 e _ (.inl ⟨HG.out.1, rfl, rfl, HG.out.2⟩) (belows H.out.2.2.1 H1.out))
  have hg : SpGood s.f s.L := by
    rcases he with ⟨h, _⟩ | ⟨_, h⟩
    · exact h
    · omega
  have HG := Lib.hid hg
  have t1 : (e != 0) = false := by simp [h0]
  clear he b1 hg h0 y1
  go_wp2_with fail
  go_loopw [6, 7, 23] (fun n u i wr => ∃ k : Nat, i = .int .i64 (k : Int) ∧ k ≤ s.L.length ∧ n = .int .i64 ((s.L.length + busyN (s.L.take k) : Nat) : Int) ∧ u = .int .i64 ((partsS (s.L.take k)).length : Int) ∧ Below V.heap.size V wr)
    (fun _ _ i _ => s.L.length - (intOf i).toNat)
  case atStart => exact ⟨0, rfl, by omega, rfl, rfl, H1.out⟩
  case round =>
    obtain ⟨k, rfl, hk, rfl, rfl, hb⟩ := hrel
    obtain ⟨d0, d1⟩ := hX.out wr hb
    by_cases hlt : k < s.L.length
    · obtain ⟨l, hl⟩ : ∃ l, s.L[k]? = some l := ⟨_, List.getElem?_eq_getElem hlt⟩
      obtain ⟨b, o, hA, hB, hc⟩ := lies_lv H.out.1.lev.head (by omega)
      obtain ⟨c0, c1, c2, c3, c4, c5, c6, c7, c8, c9⟩ := lv_ten fun j u hj => (hb.cell (p := ⟨b, o + k * 10 + j, none⟩) hB).trans (hc k l hl j u hj)
      have hlm := List.mem_of_getElem? hl
      have hli := ((H.out.1.lev.each_ l hlm).past hb (Nat.le_refl _)).wide hb.size
      have hlo := H.out.2.1.each_ l hlm
      obtain ⟨V5, hV5, hb5, hs5, ho5⟩ := lvbox wr l
      obtain ⟨e0, e1, e2, e3, e4, e5, e6, e7, e8, e9⟩ := own10 ho5
      have u1 := Lib.hid (parts_anyS l s.f V5 (hli.keep hb5) hlo (HG.out.each l hlm) (HG.out.pos l hlm))
      rw [show l.val = .agg #[.int .i64 l.cls, .bool l.busy, .slice l.b.sA l.b.f.length l.b.sc, .slice l.b.uA l.b.l.length l.b.uc, .slice l.m.aA l.m.a.length l.m.ac, .slice l.m.bA l.m.b.length l.m.bc, .int .i64 l.m.i, .int .i64 l.m.j, .slice l.m.sA l.m.f.length l.m.sc, .slice l.m.oA l.m.o.length l.m.oc] from rfl] at u1
      have hbt := busy_take hl
      have hpt := parts_take hl
      have hple := parts_take_le s.L (k + 1)
      have hpp := partsR_pos l
      have hpl := partsR_len l
      have hbn : busyN (s.L.take k) ≤ 1048576 := by
        have := List.length_filter_le (fun l : Lv => l.busy) (s.L.take k)
        rw [List.length_take] at this
        unfold busyN
        omega
      have hpn : (partsS (s.L.take k)).length + (flatR (partsR l)).length ≤ 1099511627776 := by omega
      have HA := Lib.hid hA
      have q0 : (0 : Int) ≤ (k : Int) := by omega
      have q1 : (k : Int) < (s.L.length : Int) := by omega
      clear hlm hli hlo hl hc hple
      generalize (partsS (s.L.take k)).length = pk at *
      generalize busyN (s.L.take k) = bk at *
      cases hbu : l.busy
      · rw [hbu] at hV5 c1 e1 u1 hbt
        have HK := Lib.hid (And.intro hb (And.intro hb5 (And.intro hbt hpt)))
        clear hb hb5 hbu hbt hpt
        go_upto_region 8 with fail
        rw [← hV5]
        clear hV5
        go_wp2_with fail
        refine u1.out.mono ?_
        rintro _ w2 ⟨G, rfl, hul, hG, hb1⟩
        have hb2 := belows HK.out.1 (belows HK.out.2.1 hb1)
        have HU := Lib.hid (And.intro hul hb2)
        clear hul hG hb1 hb2
        clear u1 e0 e1 e2 e3 e4 e5 e6 e7 e8 e9 c0 c1 c2 c3 c4 c5 c6 c7 c8 c9 d0 d1
        go_wp2_with fail
        go_loopw [7, 34] (fun u i wi => ∃ j : Nat, i = .int .i64 (j : Int) ∧ j ≤ (partsR l).length ∧ u = .int .i64 ((pk + (flatR ((partsR l).take j)).length : Nat) : Int) ∧ Below w2.heap.size w2 wi)
          (fun _ i _ => (partsR l).length - (intOf i).toNat)
        case atStart => exact ⟨0, rfl, by omega, rfl, Below.refl _ _⟩
        case round =>
          obtain ⟨j, rfl, hj, rfl, hb2⟩ := hrel
          by_cases hlt2 : j < (partsR l).length
          · obtain ⟨r, hr⟩ : ∃ r, (partsR l)[j]? = some r := ⟨_, List.getElem?_eq_getElem hlt2⟩
            obtain ⟨g', o', e', hgi, hgc⟩ := HU.out.1.head (by omega)
            simp only [Option.some.injEq, Addr.mk.injEq, and_true] at e'
            obtain ⟨rfl, rfl⟩ := e'
            have z0 := (hb2.cell (p := ⟨G, 0 + j * 1 + 0, none⟩) hgi).trans (hgc j r hr 0 _ rfl)
            rw [show 0 + j * 1 + 0 = j by omega] at z0
            have hsn := flatR_one hr
            have hon := flatR_len hr (Nat.le_refl _)
            have q2 : (0 : Int) ≤ (j : Int) := by omega
            have q3 : (j : Int) < ((partsR l).length : Int) := by omega
            have H3 := Lib.hid (And.intro hb2 hsn)
            clear hr hb2 hsn hgi hgc
            generalize (flatR ((partsR l).take j)).length = fj at *
            go_wp2_with fail
            go_roundw
            case rel => exact ⟨j + 1, by go_num, by omega, by rw [H3.out.2]; go_num, H3.out.1⟩
            case measure => simp [intOf]; omega
          · have hj2 : j = (partsR l).length := by omega
            subst hj2
            rw [List.take_length]
            have H3 := Lib.hid (belows HU.out.2 hb2)
            clear hb2
            go_wp2_with fail
            clear hA
            rw [← HA.out]
            go_roundw
            case rel => exact ⟨k + 1, by go_num, by omega, by rw [HK.out.2.2.1]; go_num, by rw [HK.out.2.2.2], H3.out⟩
            case measure => simp [intOf]; omega
      · rw [hbu] at hV5 c1 e1 u1 hbt
        have HK := Lib.hid (And.intro hb (And.intro hb5 (And.intro hbt hpt)))
        clear hb hb5 hbu hbt hpt
        go_upto_region 8 with fail
        rw [← hV5]
        clear hV5
        go_wp2_with fail
        refine u1.out.mono ?_
        rintro _ w2 ⟨G, rfl, hul, hG, hb1⟩
        have hb2 := belows HK.out.1 (belows HK.out.2.1 hb1)
        have HU := Lib.hid (And.intro hul hb2)
        clear hul hG hb1 hb2
        clear u1 e0 e1 e2 e3 e4 e5 e6 e7 e8 e9 c0 c1 c2 c3 c4 c5 c6 c7 c8 c9 d0 d1
        go_wp2_with fail
        go_loopw [7, 34] (fun u i wi => ∃ j : Nat, i = .int .i64 (j : Int) ∧ j ≤ (partsR l).length ∧ u = .int .i64 ((pk + (flatR ((partsR l).take j)).length : Nat) : Int) ∧ Below w2.heap.size w2 wi)
          (fun _ i _ => (partsR l).length - (intOf i).toNat)
        case atStart => exact ⟨0, rfl, by omega, rfl, Below.refl _ _⟩
        case round =>
          obtain ⟨j, rfl, hj, rfl, hb2⟩ := hrel
          by_cases hlt2 : j < (partsR l).length
          · obtain ⟨r, hr⟩ : ∃ r, (partsR l)[j]? = some r := ⟨_, List.getElem?_eq_getElem hlt2⟩
            obtain ⟨g', o', e', hgi, hgc⟩ := HU.out.1.head (by omega)
            simp only [Option.some.injEq, Addr.mk.injEq, and_true] at e'
            obtain ⟨rfl, rfl⟩ := e'
            have z0 := (hb2.cell (p := ⟨G, 0 + j * 1 + 0, none⟩) hgi).trans (hgc j r hr 0 _ rfl)
            rw [show 0 + j * 1 + 0 = j by omega] at z0
            have hsn := flatR_one hr
            have hon := flatR_len hr (Nat.le_refl _)
            have q2 : (0 : Int) ≤ (j : Int) := by omega
            have q3 : (j : Int) < ((partsR l).length : Int) := by omega
            have H3 := Lib.hid (And.intro hb2 hsn)
            clear hr hb2 hsn hgi hgc
            generalize (flatR ((partsR l).take j)).length = fj at *
            go_wp2_with fail
            go_roundw
            case rel => exact ⟨j + 1, by go_num, by omega, by rw [H3.out.2]; go_num, H3.out.1⟩
            case measure => simp [intOf]; omega
          · have hj2 : j = (partsR l).length := by omega
            subst hj2
            rw [List.take_length]
            have H3 := Lib.hid (belows HU.out.2 hb2)
            clear hb2
            go_wp2_with fail
            clear hA
            rw [← HA.out]
            go_roundw
            case rel => exact ⟨k + 1, by go_num, by omega, by rw [HK.out.2.2.1]; go_num, by rw [HK.out.2.2.2], H3.out⟩
            case measure => simp [intOf]; omega
    · have hk2 : k = s.L.length := by omega
      subst hk2
      rw [List.take_length]
      have H2 := Lib.hid (belows H.out.2.2.1 hb)
      clear hb
      go_wp2_with fail
      exact bodyPost_ret (v := .tuple #[.int .i64 ((s.L.length + busyN s.L : Nat) : Int), .int .i64 ((partsS s.L).length : Int), .int .i64 0]) (by simp [results, Tryz.results34, go_sem]) rfl (HP.out _ _ 0 _ (.inr ⟨HG.out, by rw [cnt_busy], rfl, rfl⟩) H2.out)
end Go.Proofs.YtgalemkjgaiphaaGreat
namespace Go.Proofs.YtgalemkjgaiphaaGreat
open Go Go.RowKit

def bk (n : Int) : Uk := ⟨[], [vnum n], ⟨0, 0, 0⟩⟩
theorem bfront_nil : FrontOk [] := by
  have h1 := frontTo_len (sortT []) (sortT []).length (Nat.le_refl _)
  have h2 : (sortT []).length = 0 := by simp [sortT]
  exact ⟨by rfl, List.eq_nil_of_length_eq_zero (by unfold frontL; omega)⟩
end Go.Proofs.YtgalemkjgaiphaaGreat
namespace Go.Proofs.YtgalemkjgaiphaaGreat
open Go Go.RowKit

theorem cls_ge {n k : Nat} (h : k < clsN n) : 2 ^ k ≤ n := by
  rcases Nat.lt_or_ge n (2 ^ k) with h1 | h1
  · have := cls_pow h1; omega
  · exact h1
theorem lv_wt {f : List Tm} {l : Lv} (g : LvGood f l) (hp : 1 ≤ l.cls) : 1 ≤ wtL l ∧ (l.busy = true → 2 ≤ wtL l) ∧ (2 ≤ l.cls → 2 ≤ wtL l) ∧ (2 ≤ l.cls → l.busy = true → 4 ≤ wtL l) ∧ (3 ≤ l.cls → 4 ≤ wtL l) := by
  cases hb : l.busy
  · obtain ⟨_, _, h3, _⟩ := g.idle hb
    have e : wtL l = l.b.l.length := by unfold wtL; rw [hb]; simp
    rw [e]
    have g1 : 0 < clsN l.b.l.length → 1 ≤ l.b.l.length := fun h => by simpa using cls_ge h
    have g2 : 1 < clsN l.b.l.length → 2 ≤ l.b.l.length := fun h => by simpa using cls_ge h
    have g3 : 2 < clsN l.b.l.length → 4 ≤ l.b.l.length := fun h => by simpa using cls_ge h
    refine ⟨g1 (by omega), fun h => (by cases h), fun h => g2 (by omega), fun _ h => (by cases h), fun h => g3 (by omega)⟩
  · obtain ⟨_, _, _, h3, h4, _⟩ := g.busy hb
    have e : l.m.a.length + l.m.b.length ≤ wtL l := by unfold wtL; rw [if_pos hb]; omega
    have g1 : 0 < clsN l.m.a.length → 1 ≤ l.m.a.length := fun h => by simpa using cls_ge h
    have g2 : 1 < clsN l.m.a.length → 2 ≤ l.m.a.length := fun h => by simpa using cls_ge h
    have g3 : 2 < clsN l.m.a.length → 4 ≤ l.m.a.length := fun h => by simpa using cls_ge h
    have k1 : 0 < clsN l.m.b.length → 1 ≤ l.m.b.length := fun h => by simpa using cls_ge h
    have k2 : 1 < clsN l.m.b.length → 2 ≤ l.m.b.length := fun h => by simpa using cls_ge h
    have a1 := g1 (by omega)
    have b1 := k1 (by omega)
    refine ⟨by omega, fun _ => by omega, fun h => by have := g2 (by omega); omega, fun h _ => by have := g2 (by omega); have := k2 (by omega); omega, fun h => by have := g3 (by omega); omega⟩
theorem parts_wt (L : List Lv) : (partsS L).length ≤ wtS L := by
  induction L with
  | nil => exact Nat.zero_le _
  | cons l L ih =>
    have e : wtS (l :: L) = wtL l + wtS L := by unfold wtS; rw [List.map_cons, List.sum_cons]
    rw [partsS_cons, List.length_append, e]
    have : (partsL l).length ≤ wtL l := by
      unfold partsL wtL
      split
      · omega
      · exact Nat.le_refl _
    omega
theorem wt_cons' (l : Lv) (L : List Lv) : wtS (l :: L) = wtL l + wtS L := by unfold wtS; rw [List.map_cons, List.sum_cons]
theorem busy_wt {f : List Tm} : ∀ (L : List Lv), (∀ l ∈ L, 1 ≤ l.cls) → (∀ l ∈ L, LvGood f l) → 2 * busyN L ≤ wtS L
  | [], _, _ => Nat.zero_le _
  | l :: L, h1, h2 => by
    have ih := busy_wt L (fun x hx => h1 x (List.mem_cons_of_mem _ hx)) (fun x hx => h2 x (List.mem_cons_of_mem _ hx))
    have hw := lv_wt (h2 l List.mem_cons_self) (h1 l List.mem_cons_self)
    rw [busyN_cons, wt_cons']
    split
    · next hb => have := hw.2.1 hb; omega
    · omega
theorem one_level {f : List Tm} {L : List Lv} {l : Lv} (g : SpGood f L) (hw : wtS L ≤ 2) (hl : l ∈ L) (hb : l.busy = true) : L = [l] := by
  have h2 := (lv_wt (g.each l hl) (g.pos l hl)).2.1 hb
  match L, g, hw, hl with
  | x :: M, g, hw, hl =>
    rw [wt_cons'] at hw
    rcases List.mem_cons.1 hl with rfl | hm
    · match M, g, hw with
      | [], _, _ => rfl
      | y :: N, g, hw =>
        have := (lv_wt (g.each y (by simp)) (g.pos y (by simp))).1
        rw [wt_cons'] at hw
        omega
    · have h3 := wt_le hm
      have := (lv_wt (g.each x (by simp)) (g.pos x (by simp))).1
      omega
theorem cls_12 : clsN 1 = 1 ∧ clsN 2 = 2 := ⟨by rfl, by rfl⟩
theorem st_three {L : List Lv} (g : SpGood [] L) (hw : wtS L ≤ 3) (hp : 3 ≤ (partsS L).length) (fr : AllFr [] L) (has : HasB L 1) : ∃ x y, L = [x, y] ∧ x.cls = 2 ∧ x.busy = false ∧ y.busy = false := by
  match L, g, hw, hp, fr, has with
  | [], _, _, hp, _, _ => simp [partsS] at hp
  | [x], g, hw, hp, fr, has =>
    exfalso
    have hx := lv_wt (g.each x (by simp)) (g.pos x (by simp))
    rw [wt_cons'] at hw
    have e : (partsS [x]).length = (partsL x).length := by rw [partsS_cons, List.length_append]; rfl
    rw [e] at hp
    cases hb : x.busy
    · obtain ⟨l, hl, h⟩ := has
      obtain rfl : l = x := by simpa using hl
      have e2 : partsL l = l.b.l := by unfold partsL; rw [hb]; simp
      rw [e2] at hp
      rcases h with ⟨_, h⟩ | ⟨h, _⟩
      · omega
      · rw [hb] at h; cases h
    · obtain ⟨f1, f2, f3, _⟩ := fr x (by simp) hb
      have e2 : (partsL x).length = x.m.a.length + x.m.b.length := by unfold partsL partsM; rw [if_pos hb, f1, f2, f3]; simp
      obtain ⟨_, _, _, h3, h4, _⟩ := (g.each x (by simp)).busy hb
      have e3 : x.m.a.length + x.m.b.length ≤ wtL x := by unfold wtL; rw [if_pos hb]; omega
      have h5 : clsN x.m.a.length = clsN x.m.b.length := by omega
      have h6 := g.pos x (by simp)
      have z1 := (cls_zero (n := x.m.a.length)).2
      have z2 := (cls_zero (n := x.m.b.length)).2
      have hab : x.m.a.length = 1 ∧ x.m.b.length = 2 ∨ x.m.a.length = 2 ∧ x.m.b.length = 1 := by
        have : x.m.a.length ≠ 0 := fun h => by have := z1 h; omega
        have : x.m.b.length ≠ 0 := fun h => by have := z2 h; omega
        omega
      rcases hab with ⟨h7, h8⟩ | ⟨h7, h8⟩
      · rw [h7, h8, cls_12.1, cls_12.2] at h5; omega
      · rw [h7, h8, cls_12.1, cls_12.2] at h5; omega
  | [x, y], g, hw, hp, fr, has =>
    have hx := lv_wt (g.each x (by simp)) (g.pos x (by simp))
    have hy := lv_wt (g.each y (by simp)) (g.pos y (by simp))
    have hyp := g.pos y (by simp)
    have hf := (List.pairwise_cons.1 g.fall).1 y (by simp)
    rw [wt_cons', wt_cons'] at hw
    have h0 := hx.2.2.1 (by omega)
    have h1 := hy.1
    refine ⟨x, y, rfl, ?_, ?_, ?_⟩
    · by_cases h3 : 3 ≤ x.cls
      · have := hx.2.2.2.2 h3; omega
      · omega
    · cases hb : x.busy
      · rfl
      · have := hx.2.2.2.1 (by omega) hb; omega
    · cases hb : y.busy
      · rfl
      · have := hy.2.1 hb; omega
  | x :: y :: z :: M, g, hw, hp, fr, has =>
    exfalso
    have hzp := g.pos z (by simp)
    have hf := (List.pairwise_cons.1 g.fall).1 y (by simp)
    have hf2 := (List.pairwise_cons.1 (List.pairwise_cons.1 g.fall).2).1 z (by simp)
    have hx := (lv_wt (g.each x (by simp)) (g.pos x (by simp))).2.2.2.2 (by omega)
    rw [wt_cons'] at hw
    omega
def tk (k : Nat) : List Up := [lu 0 0 1 0, lu 0 1 1 0, lu 0 2 1 0].take k
theorem tk_E {k : Nat} (h : k ≤ 3) : consE [advL [] (tk k)] = 0 := by
  match k, h with
  | 0, _ => exact (by kernel_rfl : consE [advL [] (tk 0)] = 0)
  | 1, _ => exact (by kernel_rfl : consE [advL [] (tk 1)] = 0)
  | 2, _ => exact (by kernel_rfl : consE [advL [] (tk 2)] = 0)
  | 3, _ => exact (by kernel_rfl : consE [advL [] (tk 3)] = 0)
theorem tx_E {k : Nat} (G : Nat) (h : k < 3) : consE [advL [] [lu G (k : Int) 1 0]] = 0 ∧ (consL [advL [] [lu G (k : Int) 1 0]]).length = 1 ∧ (tk k ++ [lu G (k : Int) 1 0]).map Up.p = (tk (k + 1)).map Up.p ∧ chkUs (tk (k + 1)) = 0 := by
  match k, h with
  | 0, _ => exact ⟨by kernel_rfl, by kernel_rfl, by kernel_rfl, by kernel_rfl⟩
  | 1, _ => exact ⟨by kernel_rfl, by kernel_rfl, by kernel_rfl, by kernel_rfl⟩
  | 2, _ => exact ⟨by kernel_rfl, by kernel_rfl, by kernel_rfl, by kernel_rfl⟩
theorem tk_L : (consL [advL [] (tk 3)]).length = 3 := by kernel_rfl
def bk2 (n : Int) : Uk := ⟨[], [vnum n], ⟨2, 0, 0⟩⟩
theorem tk_L2 : consL [advL [⟨2, 0, 0⟩] (tk 3)] = [(bk2 0, (1 : Int)), (bk2 1, 1), (bk2 2, 1)] ∧ consE [advL [⟨2, 0, 0⟩] (tk 3)] = 0 := ⟨by kernel_rfl, by kernel_rfl⟩
structure St (k : Nat) (s : Sp) : Prop where
  f : s.f = []
  good : SpGood [] s.L
  eq : EqS [] (partsS s.L) (tk k)
  wt : wtS s.L ≤ k
  fr : AllFr [] s.L
  has : 0 < k → HasB s.L 1
theorem st_zero : St 0 Sp.nil := ⟨rfl, ⟨bfront_nil, fun _ h => (by cases h), List.Pairwise.nil, fun _ h => (by cases h)⟩, EqS.refl (by rfl), Nat.le_refl _, fun _ h => (by cases h), fun h => by omega⟩
theorem st_next {k G : Nat} {s s' : Sp} {E : Int} (h : St k s) (hk : k < 3) (hr : ¬ SpGood s.f s.L ∧ E = 8 ∧ s' = Sp.nil ∨ SpGood s.f s.L ∧ s'.f = s.f ∧ (E = 0 ∧ consE [advL s.f [lu G (k : Int) 1 0]] = 0 ∧ PutTo s.f s.L s'.L [lu G (k : Int) 1 0] 1 1 ∧ HasI s s' [lu G (k : Int) 1 0] ∨ E ≠ 0 ∧ s'.L.map Lv.pl = s.L.map Lv.pl ∧ WhyI s [lu G (k : Int) 1 0])) : E = 0 ∧ St (k + 1) s' := by
  have hb := busy_wt s.L h.good.pos h.good.each
  have hwt := h.wt
  have tx := tx_E G hk
  rcases hr with ⟨h1, _⟩ | ⟨_, h2, h3⟩
  · exact absurd (by rw [h.f]; exact h.good) h1
  rw [h.f] at h2 h3
  rcases h3 with ⟨e, _, hp, hi⟩ | ⟨_, _, hw⟩
  · refine ⟨e, h2, hp.good, hp.eq.trans ((h.eq.app (EqS.refl ?_)).trans (EqS.of_p ?_ tx.2.2.1)), ?_, ?_, fun _ => ?_⟩
    · exact (chkUs_parts hp.eq.r).2
    · rw [chkUs_p tx.2.2.1]; exact tx.2.2.2
    · have := hp.wt; omega
    · have := hi.2; rw [h.f] at this; exact this h.fr
    · have h5 := hi.1 (by omega)
      rw [h.f] at h5
      have h6 := h5 (fun h0 => by have := tx.2.1; rw [h0] at this; cases this)
      rw [tx.2.1] at h6
      exact h6
  · exfalso
    rcases hw with hw | ⟨hw, hl⟩
    · rw [h.f] at hw
      exact hw ((if_pos bfront_nil).trans tx.1)
    · obtain ⟨l, hl1, hl2, hl3⟩ := hl (by omega)
      obtain ⟨l0, hm, hpl⟩ := List.mem_map.1 hl1
      have e := LvEq.of hpl
      have hb0 : l0.busy = true := by rw [e.busy]; exact hl2
      have hL := one_level h.good (by omega) hm hb0
      have hfr := h.fr l0 hm hb0
      have hpp := (pl_parts (L := [l0]) (K := [l]) (by rw [List.map_cons, List.map_cons, hpl])).1
      have e1 : partsS [l0] = partsM l0.m := by rw [partsS_cons]; unfold partsL; rw [if_pos hb0]; exact List.append_nil _
      have e2 : partsS [l] = partsM l.m := by rw [partsS_cons]; unfold partsL; rw [if_pos hl2]; exact List.append_nil _
      rw [← e.f, hfr.2.2.2] at hl3
      have heq := h.eq
      rw [hL] at heq
      rw [e1] at hpp heq
      rw [e2] at hpp
      have h7 := ((EqS.of_p (f := []) heq.l hpp).cons (fun _ hx => (by cases hx))).2
      have h8 := (heq.cons (fun _ hx => (by cases hx))).2
      rw [← h7, h8, tk_E (by omega)] at hl3
      exact absurd hl3 (by decide)
end Go.Proofs.YtgalemkjgaiphaaGreat
namespace Go.Proofs.YtgalemkjgaiphaaGreat
open Go Go.RowKit Go.ChangeShapes Go.WideShapes Go.ChangeAt Go.Deep

set_option maxRecDepth 100000
section
variable {H : Type} {enc : TypeId × Value → H} {w : World} {base : Nat} {spare : Nat → Bool} {held : Bool}
set_option maxRecDepth 100000 in
theorem trod_batchS {fuel : Nat} {cs : List Value} {x : DataW H × List MemPlace} (h : DataW.trod enc Tryz.prog w base spare held fuel 39 cs = some x) : ∃ b : Bt, cs = b.cells ∧ BtIn w w.heap.size b ∧ (Rows.uptoBulk x.1 ≤ 1048576 → BtOk b ∧ ∀ u ∈ b.l, u.key.length ≤ 1099511627776 ∧ u.row.length ≤ 1099511627776) ∧ b.l.length ≤ Rows.uptoBulk x.1 ∧ b.l.length ≤ b.uc ∧ b.uc ≤ maxLen := by
  obtain ⟨xs, n, _, hx, hlen, hxs, hf⟩ := DataW.trod_struct Tryz.underlying39 h
  have hc : Tryz.prog.cellsOf 39 = 2 := by kernel_rfl
  have hc0 : Tryz.prog.cellsOf 22 = 1 := by kernel_rfl
  have hc1 : Tryz.prog.cellsOf 37 = 1 := by kernel_rfl
  rw [hc] at hlen
  match cs, hlen with
  | [c0, c1], _ =>
    have h0 := hf 0 _ rfl
    have h1 := hf 1 _ rfl
    match xs, hxs with
    | [y0, y1], _ =>
      simp only [hc0, hc1, List.drop_zero, List.take_succ_cons, List.take_zero, List.drop_succ_cons, List.getElem?_cons_zero, List.getElem?_cons_succ] at h0 h1
      obtain ⟨A0, k0, l0, e0, g0, m0, i0, n0⟩ := open_timesC h0
      obtain ⟨⟨A1, k1, l1⟩, e1, g1, m1, i1, o1, n1⟩ := open_upsK h1
      obtain rfl := (List.cons.inj e0).1
      obtain rfl := (List.cons.inj e1).1
      have hM : Rows.uptoBulk x.1 = Rows.uptoBulk y0.1 + (Rows.uptoBulk y1.1 + 0) + 1 := by
        rw [hx]
        simp only [List.map_cons, List.map_nil, Rows.uptoBulk, Rows.uptoBulkAll]
      have n1 : l1.length + 1 ≤ Rows.uptoBulk y1.1 := n1
      exact ⟨⟨A0, k0, l0, A1, k1, l1⟩, rfl, ⟨i0, i1⟩, fun hb => ⟨⟨⟨by show l0.length ≤ _; omega, g0, m0⟩, ⟨by show l1.length ≤ _; omega, fun u hu => (o1 (by omega) u hu).1⟩⟩, fun u hu => (o1 (by omega) u hu).2⟩, by show l1.length ≤ _; omega, g1, m1⟩
theorem trod_mergerS {fuel : Nat} {cs : List Value} {x : DataW H × List MemPlace} (h : DataW.trod enc Tryz.prog w base spare held fuel 41 cs = some x) : ∃ m : Mg, cs = m.cells ∧ MgIn w w.heap.size m ∧ (Rows.uptoBulk x.1 ≤ 1048576 → MgOk m ∧ ∀ u, u ∈ m.a ∨ u ∈ m.b ∨ u ∈ m.o → u.key.length ≤ 1099511627776 ∧ u.row.length ≤ 1099511627776) ∧ m.a.length + m.b.length + m.o.length ≤ Rows.uptoBulk x.1 ∧ McOk m ∧ m.o.length ≤ m.oc ∧ m.oc ≤ maxLen := by
  obtain ⟨xs, n, _, hx, hlen, hxs, hf⟩ := DataW.trod_struct Tryz.underlying41 h
  have hc : Tryz.prog.cellsOf 41 = 6 := by kernel_rfl
  have hc0 : Tryz.prog.cellsOf 22 = 1 := by kernel_rfl
  have hc1 : Tryz.prog.cellsOf 37 = 1 := by kernel_rfl
  have hc2 : Tryz.prog.cellsOf 3 = 1 := by kernel_rfl
  rw [hc] at hlen
  match cs, hlen with
  | [c0, c1, c2, c3, c4, c5], _ =>
    have h0 := hf 0 _ rfl
    have h1 := hf 1 _ rfl
    have h2 := hf 2 _ rfl
    have h3 := hf 3 _ rfl
    have h4 := hf 4 _ rfl
    have h5 := hf 5 _ rfl
    match xs, hxs with
    | [y0, y1, y2, y3, y4, y5], _ =>
      simp only [hc0, hc1, hc2, List.drop_zero, List.take_succ_cons, List.take_zero, List.drop_succ_cons, List.getElem?_cons_zero, List.getElem?_cons_succ] at h0 h1 h2 h3 h4 h5
      obtain ⟨⟨A0, k0, l0⟩, e0, g0, m0, i0, o0, n0⟩ := open_upsK h0
      obtain ⟨⟨A1, k1, l1⟩, e1, g1, m1, i1, o1, n1⟩ := open_upsK h1
      obtain ⟨n2, e2, _, w2⟩ := DataW.trod_int Tryz.underlying3 h2
      obtain ⟨n3, e3, _, w3⟩ := DataW.trod_int Tryz.underlying3 h3
      obtain ⟨A4, k4, l4, e4, g4, m4, i4, n4⟩ := open_timesC h4
      obtain ⟨⟨A5, k5, l5⟩, e5, g5, m5, i5, o5, n5⟩ := open_upsK h5
      obtain rfl := (List.cons.inj e0).1
      obtain rfl := (List.cons.inj e1).1
      obtain rfl := (List.cons.inj e2).1
      obtain rfl := (List.cons.inj e3).1
      obtain rfl := (List.cons.inj e4).1
      obtain rfl := (List.cons.inj e5).1
      have hM : Rows.uptoBulk x.1 = Rows.uptoBulk y0.1 + (Rows.uptoBulk y1.1 + (Rows.uptoBulk y2.1 + (Rows.uptoBulk y3.1 + (Rows.uptoBulk y4.1 + (Rows.uptoBulk y5.1 + 0))))) + 1 := by
        rw [hx]
        simp only [List.map_cons, List.map_nil, Rows.uptoBulk, Rows.uptoBulkAll]
      have n0 : l0.length + 1 ≤ Rows.uptoBulk y0.1 := n0
      have n1 : l1.length + 1 ≤ Rows.uptoBulk y1.1 := n1
      have n5 : l5.length + 1 ≤ Rows.uptoBulk y5.1 := n5
      refine ⟨⟨A0, k0, l0, A1, k1, l1, n2, n3, A4, k4, l4, A5, k5, l5⟩, rfl, ⟨i0, i1, i4, i5⟩, fun hb => ⟨⟨⟨?_, fun u hu => (o0 (by omega) u hu).1⟩, ⟨?_, fun u hu => (o1 (by omega) u hu).1⟩, ⟨?_, g4, m4⟩, ⟨?_, fun u hu => (o5 (by omega) u hu).1⟩, wf_i64 w2, wf_i64 w3⟩, fun u hu => ?_⟩, ?_, ⟨g0, m0, g1, m1⟩, g5, m5⟩
      · show l0.length ≤ _; omega
      · show l1.length ≤ _; omega
      · show l4.length ≤ _; omega
      · show l5.length ≤ _; omega
      · rcases hu with hu | hu | hu
        · exact (o0 (by omega) u hu).2
        · exact (o1 (by omega) u hu).2
        · exact (o5 (by omega) u hu).2
      · show l0.length + l1.length + l5.length ≤ _; omega
structure LvSh (l : Lv) : Prop where
  b : ∀ u ∈ l.b.l, u.key.length ≤ 1099511627776 ∧ u.row.length ≤ 1099511627776
  m : ∀ u, u ∈ l.m.a ∨ u ∈ l.m.b ∨ u ∈ l.m.o → u.key.length ≤ 1099511627776 ∧ u.row.length ≤ 1099511627776
  le : l.b.l.length ≤ l.b.uc
  uc : l.b.uc ≤ maxLen
  ole : l.m.o.length ≤ l.m.oc
  oc : l.m.oc ≤ maxLen
def LvIs (w : World) (l : Lv) (b : Nat) : Prop := LvIn w w.heap.size l ∧ (b ≤ 1048576 → LvOk l ∧ LvSh l) ∧ wtL l ≤ b
set_option maxRecDepth 100000 in
theorem trod_lvS {fuel : Nat} {cs : List Value} {x : DataW H × List MemPlace} (h : DataW.trod enc Tryz.prog w base spare held fuel 43 cs = some x) : ∃ l : Lv, cs = l.cells ∧ LvIs w l (Rows.uptoBulk x.1) := by
  obtain ⟨xs, n, _, hx, hlen, hxs, hf⟩ := DataW.trod_struct Tryz.underlying43 h
  have hc : Tryz.prog.cellsOf 43 = 10 := by kernel_rfl
  have hc0 : Tryz.prog.cellsOf 3 = 1 := by kernel_rfl
  have hc1 : Tryz.prog.cellsOf 4 = 1 := by kernel_rfl
  have hc2 : Tryz.prog.cellsOf 39 = 2 := by kernel_rfl
  have hc3 : Tryz.prog.cellsOf 41 = 6 := by kernel_rfl
  rw [hc] at hlen
  match cs, hlen with
  | [c0, c1, c2, c3, c4, c5, c6, c7, c8, c9], _ =>
    have h0 := hf 0 _ rfl
    have h1 := hf 1 _ rfl
    have h2 := hf 2 _ rfl
    have h3 := hf 3 _ rfl
    match xs, hxs with
    | [y0, y1, y2, y3], _ =>
      simp only [hc0, hc1, hc2, hc3, List.drop_zero, List.take_succ_cons, List.take_zero, List.drop_succ_cons, List.getElem?_cons_zero, List.getElem?_cons_succ] at h0 h1 h2 h3
      obtain ⟨n0, e0, _, w0⟩ := DataW.trod_int Tryz.underlying3 h0
      obtain ⟨n1, e1, _⟩ := DataW.trod_bool Tryz.underlying4 h1
      obtain ⟨b, e2, i2, o2, l2, r2, m2⟩ := trod_batchS h2
      obtain ⟨m, e3, i3, o3, l3, r3, r4, r5⟩ := trod_mergerS h3
      obtain rfl := (List.cons.inj e0).1
      obtain rfl := (List.cons.inj e1).1
      have hM : Rows.uptoBulk x.1 = Rows.uptoBulk y0.1 + (Rows.uptoBulk y1.1 + (Rows.uptoBulk y2.1 + (Rows.uptoBulk y3.1 + 0))) + 1 := by
        rw [hx]
        simp only [List.map_cons, List.map_nil, Rows.uptoBulk, Rows.uptoBulkAll]
      refine ⟨⟨n0, n1, b, m⟩, ?_, ⟨i2, i3⟩, fun hb => ⟨⟨wf_i64 w0, (o2 (by omega)).1, (o3 (by omega)).1, r3⟩, ⟨(o2 (by omega)).2, (o3 (by omega)).2, r2, m2, r4, r5⟩⟩, ?_⟩
      · have e2 : [c2, c3] = b.cells := e2
        have e3 : [c4, c5, c6, c7, c8, c9] = m.cells := e3
        show _ = _ :: _ :: (b.cells ++ m.cells)
        rw [← e2, ← e3]
        rfl
      · have h4 : wtL ⟨n0, n1, b, m⟩ ≤ b.l.length + (m.a.length + m.b.length + m.o.length) := by
          unfold wtL partsM
          simp only [List.length_append, List.length_drop]
          split <;> omega
        omega
theorem wt_sum : ∀ (L : List Lv) (bs : List Nat), bs.length = L.length → (∀ (i : Nat) (l : Lv), L[i]? = some l → ∃ b, bs[i]? = some b ∧ wtL l ≤ b) → wtS L ≤ bs.sum
  | [], _, _, _ => Nat.zero_le _
  | l :: L, [], h, _ => by cases h
  | l :: L, b :: bs, h, hs => by
    rw [wt_cons', List.sum_cons]
    obtain ⟨b', e, hb⟩ := hs 0 l rfl
    obtain rfl : b = b' := Option.some.inj e
    have := wt_sum L bs (by simpa using h) (fun i x hx => hs (i + 1) x hx)
    omega
set_option maxRecDepth 100000 in
theorem trod_spS {fuel : Nat} {cs : List Value} {x : DataW H × List MemPlace} (h : DataW.trod enc Tryz.prog w base spare held fuel 25 cs = some x) : ∃ s : Sp, cs = s.cells ∧ SpIn w w.heap.size s ∧ (Rows.uptoBulk x.1 ≤ 1048576 → SpOk s ∧ ∀ l ∈ s.L, LvSh l) ∧ wtS s.L ≤ Rows.uptoBulk x.1 ∧ s.L.length ≤ Rows.uptoBulk x.1 := by
  obtain ⟨xs, n, _, hx, hlen, hxs, hf⟩ := DataW.trod_struct Tryz.underlying25 h
  have hc : Tryz.prog.cellsOf 25 = 2 := by kernel_rfl
  have hc0 : Tryz.prog.cellsOf 22 = 1 := by kernel_rfl
  have hc1 : Tryz.prog.cellsOf 23 = 1 := by kernel_rfl
  rw [hc] at hlen
  match cs, hlen with
  | [c0, c1], _ =>
    have h0 := hf 0 _ rfl
    have h1 := hf 1 _ rfl
    match xs, hxs with
    | [y0, y1], _ =>
      simp only [hc0, hc1, List.drop_zero, List.take_succ_cons, List.take_zero, List.drop_succ_cons, List.getElem?_cons_zero, List.getElem?_cons_succ] at h0 h1
      obtain ⟨A0, k0, l0, e0, g0, m0, i0, n0⟩ := open_timesC h0
      obtain ⟨A, c, l, bs, e, g1, m1, g3, g4, g5, g6, g7⟩ := open_list_bulk (size := 10) (cells := Lv.cells) (OK := LvIs w) Tryz.underlying23 (by kernel_rfl) (fun _ => by simp [Lv.cells]) (fun {n cs x} _ ht => trod_lvS ht) h1
      obtain rfl := (List.cons.inj e0).1
      obtain rfl := (List.cons.inj e).1
      have hM : Rows.uptoBulk x.1 = Rows.uptoBulk y0.1 + (Rows.uptoBulk y1.1 + 0) + 1 := by
        rw [hx]
        simp only [List.map_cons, List.map_nil, Rows.uptoBulk, Rows.uptoBulkAll]
      have hlb := len_le_sum g6
      have hws := wt_sum l bs g4 (fun i a ha => (g7 i a ha).imp fun b h => ⟨h.1, h.2.2.2⟩)
      have hel : ∀ a ∈ l, ∃ b, b ≤ bs.sum ∧ LvIs w a b := fun a ha => by
        obtain ⟨i, hi⟩ := List.getElem?_of_mem ha
        obtain ⟨b, hb1, hb2⟩ := g7 i a hi
        exact ⟨b, mem_le_sum (List.mem_of_getElem? hb1), hb2⟩
      refine ⟨⟨A0, k0, l0, A, c, l⟩, rfl, ⟨i0, ⟨g3, fun a ha => ?_⟩⟩, fun hb => ⟨⟨⟨?_, g0, m0⟩, ?_, g1, m1, fun a ha => ?_⟩, fun a ha => ?_⟩, ?_, ?_⟩
      · obtain ⟨_, _, h⟩ := hel a ha
        exact h.1
      · show l0.length ≤ _; omega
      · show l.length ≤ _; omega
      · obtain ⟨b, hb1, h⟩ := hel a ha
        exact (h.2.1 (by omega)).1
      · obtain ⟨b, hb1, h⟩ := hel a ha
        exact (h.2.1 (by omega)).2
      · show wtS l ≤ _; omega
      · show l.length ≤ _; omega
theorem open_spine {v : Value} {d : DataW H} {p : List MemPlace} {r : Reach} {b0 : Nat} (hv : Value.okWide Tryz.prog w r b0 25 v) (h : DataW.Trod enc Tryz.prog w base spare held 25 v d p) : ∃ s : Sp, v = s.val ∧ SpIn w w.heap.size s ∧ (Rows.uptoBulk d ≤ 1048576 → SpOk s ∧ ∀ l ∈ s.L, LvSh l) ∧ wtS s.L ≤ Rows.uptoBulk d ∧ s.L.length ≤ Rows.uptoBulk d := by
  obtain ⟨cs, rfl, hsz⟩ := okWide_struct Tryz.underlying25 hv
  obtain ⟨fuel, hf⟩ := h
  obtain ⟨e, he, hok⟩ := trod_spS hf
  refine ⟨e, ?_, hok⟩
  obtain ⟨l⟩ := cs
  simp only [Value.cells] at he
  unfold Sp.val
  rw [show l = e.cells from by simpa using he]
  rfl
end
end Go.Proofs.YtgalemkjgaiphaaGreat
namespace Go.Proofs.YtgalemkjgaiphaaGreat
open Go Go.RowKit

structure RcSt (P R0 : Nat) (L : List Lv) (k : Nat) (M : List Lv) (As : Option Addr) (fn cs : Nat) (A2 : Option Addr) (c2 : Nat) (w1 wr : World) : Prop where
  len : M.length = k
  pl : M.map Lv.pl = (L.take k).map Lv.pl
  own : Own wr P 25 [.slice As fn cs, .slice A2 M.length c2]
  row : wr.ownsRow R0 43 10 (.slice A2 M.length c2) M.length (M.flatMap Lv.cells)
  each_ : ∀ l ∈ M, LvIn wr wr.heap.size l ∧ (BtOk l.b ∧ MgOk l.m) ∧ LvLo R0 l ∧ OfL (fun b => b = P ∨ blkS A2 = some b) l
  below : Below P w1 wr
  hP : P < R0
section
variable {P R0 k fn cs c2 c' : Nat} {L M : List Lv} {As A2 A' : Option Addr} {w1 wr X w9 : World} {l l' : Lv}
theorem RcSt.past (h : RcSt P R0 L k M As fn cs A2 c2 w1 wr) (hb : Below wr.heap.size wr X) : RcSt P R0 L k M As fn cs A2 c2 w1 X :=
  ⟨h.len, h.pl, h.own.past hb h.own.inside, own_below h.row hb, fun l hl => ⟨(h.each_ l hl).1.keep hb, (h.each_ l hl).2⟩, h.below.trans (hb.mono (Nat.le_of_lt h.own.inside)), h.hP⟩
theorem RcSt.push (h : RcSt P R0 L k M As fn cs A2 c2 w1 wr) (hl : L[k]? = some l) (hpl : l'.pl = l.pl) (hin : LvIn wr wr.heap.size l') (ok : BtOk l'.b ∧ MgOk l'.m) (lo : LvLo R0 l') (of : OfL (fun b => b = P ∨ blkS A2 = some b) l')
    (ho : w9.ownsRow R0 43 10 (.slice A' (M ++ [l']).length c') (M ++ [l']).length ((M ++ [l']).flatMap Lv.cells)) (hg : wr.grownBy w9 (Value.slice A2 M.length c2).ownBlock) (hv : (Value.slice A' (M ++ [l']).length c').ownBlock = (Value.slice A2 M.length c2).ownBlock ∨ (Value.slice A' (M ++ [l']).length c').ownBlock = some wr.heap.size) :
    RcSt P R0 L (k + 1) (M ++ [l']) As fn cs A' c' w1 (w9.setCell ⟨P, 1, none⟩ (.slice A' (M ++ [l']).length c')) := by
  rw [blkS_own] at hg hv
  rw [blkS_own] at hv
  have hPi := h.own.inside
  have hP := h.hP
  have hrow : ∀ b, blkS A2 = some b → R0 ≤ b ∧ b < wr.heap.size := fun b e => h.row.lt b (by rw [blkS_own]; exact e)
  have kg : KeptK wr w9 (fun b => blkS A2 = some b) := KeptK.of_grown hg (fun _ e => e)
  have kX : KeptK wr (w9.setCell ⟨P, 1, none⟩ (.slice A' (M ++ [l']).length c')) (fun b => b = P ∨ blkS A2 = some b) := (kg.more (fun _ e => .inr e)).set_ (.inl (.inl rfl)) _
  have hS : ∀ {x : Lv}, LvIn wr wr.heap.size x → OfL (fun b => b = P ∨ blkS A2 = some b) x → OfL (fun b => b = P ∨ blkS A' = some b) x := fun hi ho => (ho.or (lv_in hi)).less fun b hb => by
    rcases hb with hb | hb
    · exact .inl (.inl hb)
    · rcases hv with e | e
      · exact .inl (.inr (by rw [← e]; exact hb))
      · rw [e] at hb
        injection hb with hb
        exact .inr (by omega)
  refine ⟨by rw [List.length_append, h.len]; rfl, ?_, (kg.own h.own (fun e => by have := hrow _ e; omega)).set_ 1 _, ((KeptK.refl w9 (fun b => b = P)).set_ (.inl rfl) _).row ho (fun b e hb => by have := (ho.lt b e).1; omega), fun x hx => ?_, h.below.trans (kX.below (fun b hb => ?_) (Nat.le_of_lt hPi)), hP⟩
  · rw [List.map_append, h.pl, List.take_add_one, hl, List.map_append]
    show _ ++ [l'.pl] = _ ++ [l.pl]
    rw [hpl]
  · rcases List.mem_append.1 hx with hx | hx
    · obtain ⟨a, b, c, d⟩ := h.each_ x hx
      exact ⟨lv_kept a d kX, b, c, hS a d⟩
    · obtain rfl : x = l' := by simpa using hx
      exact ⟨lv_kept hin of kX, ok, lo, hS hin of⟩
  · rcases hb with rfl | hb
    · exact Nat.le_refl _
    · have := hrow b hb; omega
end
def RCopiedS (s : Sp) (w : World) (x : Ending) (w' : World) : Prop := ∃ s' : Sp, x = .returned s'.val ∧ s'.f = s.f ∧ s'.L.map Lv.pl = s.L.map Lv.pl ∧ SpIn w' w'.heap.size s' ∧ SpSm s' ∧ SpLo w.heap.size s' ∧ Below w.heap.size w w'
set_option maxRecDepth 100000 in
set_option maxHeartbeats 12800000 in
theorem rcopyS_any (s : Sp) (w : World) (hs : SpIn w w.heap.size s) (ok : SpSm s) (h8 : ∀ l ∈ s.L, LvSh l) :
    Calls Tryz.prog 5 #[s.val] w (RCopiedS s w) := by
  obtain ⟨i0, hi, hz0, hz1, hz2⟩ := info_parts infoLv
  have HI := Lib.hid (And.intro Tryz.underlying23 (And.intro hi (And.intro hz0 (And.intro hz1 hz2))))
  obtain ⟨V, hV, hvb, hvs, hvo, hvz⟩ := sp_box2 w s
  have hin := hs.keep hvb
  have hr0 := Lib.hid (show (V.alloc (.cells #[] 48)).ownsRow V.heap.size 48 3 (.slice (some ⟨V.heap.size, 0, none⟩) 0 0) 0 [] from World.ownsRow_made V #[] 0 (Nat.le_refl _) (Nat.zero_le _) rfl)
  have hal : Below V.heap.size V (V.alloc (.cells #[] 48)) := (Below.refl _ _).alloc (Nat.le_refl _) _
  have hft := Lib.hid (hin.since.past hal (Nat.le_refl _))
  have hfn := ok.f.n
  have hLn := ok.n
  have H := Lib.hid (And.intro hvb (And.intro hvo (And.intro hvz (And.intro hal (And.intro ok (And.intro hvs (And.intro hs h8)))))))
  obtain ⟨d0, d1⟩ := own2 (hvo.past hal hvo.inside)
  rw [show s.val = .agg #[.slice s.sA s.f.length s.sc, .slice s.lA s.L.length s.lc] from rfl]
  have HP := Lib.hid (show ∀ x w' (s' : Sp), x = .returned s'.val → s'.f = s.f → s'.L.map Lv.pl = s.L.map Lv.pl → SpIn w' w'.heap.size s' → SpSm s' → SpLo w.heap.size s' → Below w.heap.size w w' → RCopiedS s w x w' from fun x w' s' h1 h2 h3 h4 h5 h6 h7 => ⟨s', h1, h2, h3, h4, h5, h6, h7⟩)
  clear hs ok hvb hvs hvo hvz hin h8 hal hi hz0 hz1 hz2
  go_enter Tryz.func5, Tryz.ntmps5
  go_upto_region 1 with fail
  rw [← hV]
  clear hV
  go_wp2_with (at_builtin; refine wpList_append_tm _ rfl _ _ rfl V.heap.size _ _ _ rfl hr0.out V.heap.size s.sA s.sc s.f rfl hft.out ?m1 ?m2 ?m3)
  case m1 => omega
  case m2 => simp
  intro v1 w1 ho1 hb1
  have hlt1 := ho1.lt
  obtain ⟨As, cs, rfl, hcs, hms, h1⟩ := times_of_own (l := s.f) (n := 0 + s.f.length) (by omega) (by simpa using ho1)
  have hb01 : Below V.heap.size V w1 := H.out.2.2.2.1.trans hb1
  have HB01 := Lib.hid hb01
  have hsA : ∀ k o, As = some (⟨k, o, none⟩ : Addr) → V.heap.size ≤ k ∧ k < w1.heap.size := fun k o e => hlt1 k (by rw [e]; rfl)
  obtain ⟨V2, hV2, hb2, hs2, ho2⟩ := spbox w1 ⟨As, cs, s.f, none, 0, []⟩
  have hz1 := H.out.2.2.1.past (belows hb01 hb2) H.out.2.2.1.inside
  have HV := Lib.hid (And.intro (belows hb01 hb2) (And.intro hsA (And.intro h1 (And.intro hcs (And.intro hms hz1.inside)))))
  have HR := Lib.hid (show RcSt w1.heap.size (w1.heap.size + 1) s.L 0 [] As s.f.length cs none 0 w1 V2 from ⟨rfl, rfl, ho2, World.ownsRow_nil _ _ _ _, fun l hl => (by cases hl), hb2, Nat.lt_succ_self _⟩)
  obtain ⟨d0, d1⟩ := own2 (H.out.2.1.past (belows hb01 hb2) H.out.2.1.inside)
  dsimp only [List.length_nil] at hV2
  clear hb01 ho1 hb1 hlt1 h1 hcs hms hr0 hft hsA hb2 hs2 ho2 hz1
  go_upto_region 2 with fail
  rw [← hV2]
  clear hV2
  go_wp2_with fail
  go_loopw [14] (fun v14 wr => ∃ (k : Nat) (M : List Lv) (A2 : Option Addr) (c2 : Nat), v14 = .int .i64 (k : Int) ∧ k ≤ s.L.length ∧ RcSt w1.heap.size (w1.heap.size + 1) s.L k M As s.f.length cs A2 c2 w1 wr)
    (fun v14 _ => s.L.length - (intOf v14).toNat)
  case atStart => exact ⟨0, [], none, 0, rfl, by omega, HR.out⟩
  case round =>
    obtain ⟨k, M, A2, c2, rfl, hk, hst⟩ := hrel
    have hVw := HB01.out.trans (hst.below.mono HB01.out.size)
    have hbw : Below w.heap.size w wr := H.out.1.trans (hVw.mono H.out.1.size)
    by_cases hlt : k < s.L.length
    · obtain ⟨l, hl⟩ : ∃ l, s.L[k]? = some l := ⟨_, List.getElem?_eq_getElem hlt⟩
      have hlm := List.mem_of_getElem? hl
      obtain ⟨b', o, hA, hB, hc⟩ := lies_lv H.out.2.2.2.2.2.2.1.lev.head (by omega)
      obtain ⟨c0, c1, c2', c3, c4, c5, c6, c7, c8, c9⟩ := lv_ten fun j u hj => (hbw.cell (p := ⟨b', o + k * 10 + j, none⟩) hB).trans (hc k l hl j u hj)
      obtain ⟨V5, hV5, hb5, hs5, ho5⟩ := lvbox wr l
      have hlw := H.out.2.2.2.2.2.2.1.lev.each_ l hlm
      have u2 := Lib.hid (rcopyB_any l.b V5 (hlw.keep (belows hbw hb5)).b (H.out.2.2.2.2.1.each_ l hlm).1 (H.out.2.2.2.2.2.2.2 l hlm).b)
      have u3 := fun W (h : Below w.heap.size w W) => Lib.hid (rcopyM_any l.m W (hlw.keep h).m (H.out.2.2.2.2.1.each_ l hlm).2 (H.out.2.2.2.2.2.2.2 l hlm).m)
      have HST := Lib.hid (And.intro hst (And.intro hl (And.intro hb5 (And.intro ho5 (And.intro hbw hbw.size)))))
      obtain ⟨r0, r1, r2, r3, r4, r5, r6, r7, r8, r9⟩ := own10 ho5
      have q0 : (0 : Int) ≤ (k : Int) := by omega
      have q1 : (k : Int) < (s.L.length : Int) := by omega
      have hQ5 : wr.heap.size < V5.heap.size := ho5.inside
      rw [hA]
      unfold Bt.val at u2
      unfold Mg.val at u3
      clear hst hl hlm hc hb5 hs5 ho5 hlw hbw hVw hA hB
      go_upto_region 5 with fail
      rw [← hV5]
      clear hV5 c0 c1 c2' c3 c4 c5 c6 c7 c8 c9
      go_wp2_with fail
      refine u2.out.mono ?_
      rintro _ w6 ⟨nb, rfl, sb, ib, ob, lb, _, b6⟩
      have o6 := HST.out.2.2.2.1.past b6 HST.out.2.2.2.1.inside
      obtain ⟨X6, hX6⟩ : ∃ X6, X6 = (w6.setCell ⟨wr.heap.size, 2, none⟩ (.slice nb.sA nb.f.length nb.sc)).setCell ⟨wr.heap.size, 3, none⟩ (.slice nb.uA nb.l.length nb.uc) := ⟨_, rfl⟩
      have k6 : KeptK w6 X6 (fun b => b = wr.heap.size) := by rw [hX6]; exact KeptK.set_ (S := fun b => b = wr.heap.size) (KeptK.set_ (S := fun b => b = wr.heap.size) (KeptK.refl _ _) (.inl rfl) _) (.inl rfl) _
      have o6X : Own X6 wr.heap.size 43 (⟨l.cls, l.busy, nb, l.m⟩ : Lv).cells := by rw [hX6]; exact (o6.set_ 2 _).set_ 3 _
      have b6X : Below wr.heap.size wr X6 := by rw [hX6]; exact ((belows HST.out.2.2.1 b6).setCell (p := ⟨wr.heap.size, 2, none⟩) (Nat.le_refl _) _).setCell (p := ⟨wr.heap.size, 3, none⟩) (Nat.le_refl _) _
      have hnb : BtIn X6 X6.heap.size nb := bt_kept ib (lb.of (S := fun b => b = wr.heap.size) (fun b e => by omega)) k6
      have z3 := u3 X6 (belows HST.out.2.2.2.2.1 b6X)
      have H6 := Lib.hid (And.intro sb (And.intro hnb (And.intro ob (And.intro lb (And.intro o6X b6X)))))
      obtain ⟨y0, y1, y2, y3, y4, y5, y6, y7, y8, y9⟩ := own10 o6X
      obtain ⟨e0, e1, e2, e3, e4, e5, e6, e7, e8, e9⟩ := own10 o6
      have f2 := o6.open_ 2
      have f3 := o6.open_ 3
      have hQ6 : wr.heap.size < X6.heap.size := o6X.inside
      rw [show nb.val = .agg #[.slice nb.sA nb.f.length nb.sc, .slice nb.uA nb.l.length nb.uc] from rfl]
      clear r0 r1 r2 r3 r4 r5 r6 r7 r8 r9 o6 k6 o6X b6X hnb sb ib ob lb b6 u2 u3
      go_upto_region 6 with fail
      rw [← hX6]
      clear hX6 e0 e1 e2 e3 e4 e5 e6 e7 e8 e9 f2 f3
      go_wp2_with fail
      refine z3.out.mono ?_
      rintro _ w7 ⟨nm, rfl, sm, im, om, lm, b7, _⟩
      have o7 := H6.out.2.2.2.2.1.past b7 hQ6
      obtain ⟨X7, hX7⟩ : ∃ X7, X7 = (((((w7.setCell ⟨wr.heap.size, 4, none⟩ (.slice nm.aA nm.a.length nm.ac)).setCell ⟨wr.heap.size, 5, none⟩ (.slice nm.bA nm.b.length nm.bc)).setCell ⟨wr.heap.size, 6, none⟩ (.int .i64 nm.i)).setCell ⟨wr.heap.size, 7, none⟩ (.int .i64 nm.j)).setCell ⟨wr.heap.size, 8, none⟩ (.slice nm.sA nm.f.length nm.sc)).setCell ⟨wr.heap.size, 9, none⟩ (.slice nm.oA nm.o.length nm.oc) := ⟨_, rfl⟩
      have k7 : KeptK w7 X7 (fun b => b = wr.heap.size) := by
        rw [hX7]
        have q := fun {W : World} {i : Nat} (v : Value) (h : KeptK w7 W (fun b => b = wr.heap.size)) => KeptK.set_ (S := fun b => b = wr.heap.size) (g := wr.heap.size) (o := i) h (.inl rfl) v
        exact q _ (q _ (q _ (q _ (q _ (q _ (KeptK.refl _ _))))))
      have o7X : Own X7 wr.heap.size 43 (⟨l.cls, l.busy, nb, nm⟩ : Lv).cells := by rw [hX7]; exact (((((o7.set_ 4 _).set_ 5 _).set_ 6 _).set_ 7 _).set_ 8 _).set_ 9 _
      have b7X : Below wr.heap.size wr X7 := by
        rw [hX7]
        have q := fun {W : World} {i : Nat} (v : Value) (h : Below wr.heap.size wr W) => h.setCell (p := ⟨wr.heap.size, i, none⟩) (Nat.le_refl _) v
        exact q _ (q _ (q _ (q _ (q _ (q _ (belows H6.out.2.2.2.2.2 b7))))))
      have hin7 : LvIn X7 X7.heap.size ⟨l.cls, l.busy, nb, nm⟩ := ⟨bt_kept (H6.out.2.1.keep b7) (H6.out.2.2.2.1.of (S := fun b => b = wr.heap.size) (fun b e => by omega)) k7, mg_kept im (lm.of (S := fun b => b = wr.heap.size) (fun b e => by omega)) k7⟩
      have hb8 : Below X7.heap.size X7 (X7.alloc (.cells #[.int .i64 l.cls, .bool l.busy, .slice nb.sA nb.f.length nb.sc, .slice nb.uA nb.l.length nb.uc, .slice nm.aA nm.a.length nm.ac, .slice nm.bA nm.b.length nm.bc, .int .i64 nm.i, .int .i64 nm.j, .slice nm.sA nm.f.length nm.sc, .slice nm.oA nm.o.length nm.oc] 43)) := (Below.refl _ _).alloc (Nat.le_refl _) _
      have ho8 : Own (X7.alloc (.cells #[.int .i64 l.cls, .bool l.busy, .slice nb.sA nb.f.length nb.sc, .slice nb.uA nb.l.length nb.uc, .slice nm.aA nm.a.length nm.ac, .slice nm.bA nm.b.length nm.bc, .int .i64 nm.i, .int .i64 nm.j, .slice nm.sA nm.f.length nm.sc, .slice nm.oA nm.o.length nm.oc] 43)) X7.heap.size 43 ([(⟨l.cls, l.busy, nb, nm⟩ : Lv)].flatMap Lv.cells) := Own.made X7 _ _
      have hLies := Lib.hid (lies_owned (cells := Lv.cells) (size := 10) (l := [(⟨l.cls, l.busy, nb, nm⟩ : Lv)]) lcells_len ho8)
      have hst8 := HST.out.1.past (belows b7X hb8)
      have hRow := Lib.hid hst8.row
      have hsz := HST.out.1.own.inside
      have hML : M.length ≤ 1048576 := by rw [HST.out.1.len]; omega
      have hst7 := HST.out.1.past b7X
      obtain ⟨p0, p1⟩ := own2 hst7.own
      obtain ⟨y0, y1, y2, y3, y4, y5, y6, y7, y8, y9⟩ := own10 o7X
      obtain ⟨e0, e1, e2, e3, e4, e5, e6, e7, e8, e9⟩ := own10 o7
      have f4 := o7.open_ 4
      have f5 := o7.open_ 5
      have f6 := o7.open_ 6
      have f7 := o7.open_ 7
      have f8 := o7.open_ 8
      have f9 := o7.open_ 9
      have H7 := Lib.hid (And.intro hst8 (And.intro (hin7.keep hb8) (And.intro (And.intro H6.out.2.2.1 om) (And.intro (show LvLo (w1.heap.size + 1) ⟨l.cls, l.busy, nb, nm⟩ from ⟨H6.out.2.2.2.1.mono (by omega), lm.mono (by omega)⟩) (And.intro (show OfL (fun b => b = w1.heap.size ∨ blkS A2 = some b) ⟨l.cls, l.busy, nb, nm⟩ from by
        have hS : ∀ b, (b = w1.heap.size ∨ blkS A2 = some b) → b < wr.heap.size := fun b e => by
          rcases e with rfl | e
          · exact hsz
          · exact (HST.out.1.row.lt b (by rw [blkS_own]; exact e)).2
        exact ⟨H6.out.2.2.2.1.of (fun b e => by have := hS b e; omega), lm.of (fun b e => by have := hS b e; omega)⟩) (LvEq.to (l := ⟨l.cls, l.busy, nb, nm⟩) (k := l) ⟨rfl, rfl, H6.out.1.f, H6.out.1.l, sm.a, sm.b, sm.i, sm.j, sm.f, sm.o⟩))))))
      have HB8 := Lib.hid (show w1.heap.size + 1 ≤ (X7.alloc (.cells #[.int .i64 l.cls, .bool l.busy, .slice nb.sA nb.f.length nb.sc, .slice nb.uA nb.l.length nb.uc, .slice nm.aA nm.a.length nm.ac, .slice nm.bA nm.b.length nm.bc, .int .i64 nm.i, .int .i64 nm.j, .slice nm.sA nm.f.length nm.sc, .slice nm.oA nm.o.length nm.oc] 43)).heap.size from by have h1 := b7X.size; have h2 := hb8.size; omega)
      rw [show nm.val = .agg #[.slice nm.aA nm.a.length nm.ac, .slice nm.bA nm.b.length nm.bc, .int .i64 nm.i, .int .i64 nm.j, .slice nm.sA nm.f.length nm.sc, .slice nm.oA nm.o.length nm.oc] from rfl]
      clear o7 k7 o7X b7X hin7 hb8 ho8 hst8 hst7 sm im om lm b7 z3
      go_upto_region 7 with fail
      rw [← hX7]
      clear hX7 e0 e1 e2 e3 e4 e5 e6 e7 e8 e9 f4 f5 f6 f7 f8 f9
      have hm1 : M.length + [(⟨l.cls, l.busy, nb, nm⟩ : Lv)].length ≤ maxLen := by show M.length + 1 ≤ maxLen; unfold maxLen; omega
      have hm2 : (M.length + [(⟨l.cls, l.busy, nb, nm⟩ : Lv)].length) * 176 ≤ 140737488355328 := by show (M.length + 1) * 176 ≤ _; omega
      go_wp2_with (at_builtin; go_loud (refine wpList_append_liesK (l := [(⟨l.cls, l.busy, nb, nm⟩ : Lv)]) _ rfl (.tmp 27) (.tmp 29) 23 43 rfl i0 _ 176 HI.out.1 HI.out.2.1 HI.out.2.2.1 HI.out.2.2.2.1 HI.out.2.2.2.2 rfl (by decide) lcells_len lcells_one (w1.heap.size + 1) _ _ _ rfl hRow.out 1 rfl hLies.out hm1 hm2 HB8.out ?_))
      intro v9 w9 ho9 hg9 hv9
      have hfm : (M ++ [(⟨l.cls, l.busy, nb, nm⟩ : Lv)]).flatMap Lv.cells = M.flatMap Lv.cells ++ (⟨l.cls, l.busy, nb, nm⟩ : Lv).cells := by rw [List.flatMap_append, List.flatMap_singleton]
      have hln : (M ++ [(⟨l.cls, l.busy, nb, nm⟩ : Lv)]).length = M.length + 1 := by rw [List.length_append]; rfl
      rw [← hfm, ← hln] at ho9
      obtain ⟨A9, c9, rfl, _, _, _⟩ := lies_of_own (size := 10) (cells := Lv.cells) (l := M ++ [(⟨l.cls, l.busy, nb, nm⟩ : Lv)]) (by decide) lcells_len rfl ho9
      have oP9 : Own w9 w1.heap.size 25 [.slice As s.f.length cs, .slice A2 M.length c2] := by
        refine (hg9.block _ H7.out.1.own.inside ?_).trans H7.out.1.own
        rw [blkS_own]
        intro e
        have := (H7.out.1.row.lt w1.heap.size (by rw [blkS_own]; exact e.symm)).1
        omega
      have hs9 := H7.out.1.push HST.out.2.1 H7.out.2.2.2.2.2 H7.out.2.1 H7.out.2.2.1 H7.out.2.2.2.1 H7.out.2.2.2.2.1 ho9 hg9 (hv9.imp id (fun e => e.trans (by simp)))
      rw [hln] at hs9
      have HS9 := Lib.hid hs9
      obtain ⟨x0, x1⟩ := own2 oP9
      have f1 := oP9.open_ 1
      clear y0 y1 y2 y3 y4 y5 y6 y7 y8 y9 p0 p1 oP9 ho9 hg9 hv9 hRow hLies hfm hln hs9
      go_wp2_with fail
      go_roundw
      case rel => exact ⟨k + 1, _, A9, c9, by go_num, by omega, HS9.out⟩
      case measure => simp [intOf]; omega
    · have hkn : k = s.L.length := by omega
      subst hkn
      have hlen : M.length = s.L.length := hst.len
      have hpl := hst.pl
      rw [List.take_length] at hpl
      obtain ⟨_, _, hv, _, hcm, hlies⟩ := lies_of_own (size := 10) (cells := Lv.cells) (l := M) (by decide) lcells_len rfl hst.row
      injection hv with hv1 hv2 hv3
      subst hv1 hv3
      have oz := H.out.2.2.1.past hVw H.out.2.2.1.inside
      obtain ⟨z0, z1⟩ := own2 oz
      have f0 := oz.open_ 0
      have f1 := oz.open_ 1
      obtain ⟨p0, p1⟩ := own2 hst.own
      have hX := (oz.set_ 0 (.slice As s.f.length cs)).set_ 1 (.slice A2 M.length c2)
      obtain ⟨x0, x1⟩ := own2 hX
      have hPz := H.out.2.2.1.inside
      have hVs := HB01.out.size
      have kZ : KeptK wr ((wr.setCell ⟨w.heap.size + 1, 0, none⟩ (.slice As s.f.length cs)).setCell ⟨w.heap.size + 1, 1, none⟩ (.slice A2 M.length c2)) (fun b => b = w.heap.size + 1) := kept_two _ _
      have HX := Lib.hid (show SpIn ((wr.setCell ⟨w.heap.size + 1, 0, none⟩ (.slice As s.f.length cs)).setCell ⟨w.heap.size + 1, 1, none⟩ (.slice A2 M.length c2)) ((wr.setCell ⟨w.heap.size + 1, 0, none⟩ (.slice As s.f.length cs)).setCell ⟨w.heap.size + 1, 1, none⟩ (.slice A2 M.length c2)).heap.size ⟨As, cs, s.f, A2, c2, M⟩ ∧ SpSm ⟨As, cs, s.f, A2, c2, M⟩ ∧ SpLo w.heap.size ⟨As, cs, s.f, A2, c2, M⟩ ∧ Below w.heap.size w ((wr.setCell ⟨w.heap.size + 1, 0, none⟩ (.slice As s.f.length cs)).setCell ⟨w.heap.size + 1, 1, none⟩ (.slice A2 M.length c2)) from by
        have hlo : SpLo V.heap.size ⟨As, cs, s.f, A2, c2, M⟩ := ⟨fun b o e => (HV.out.2.1 b o e).1, fun b o e => by have := (hst.row.lt b (by rw [show A2 = _ from e]; rfl)).1; omega, fun x hx => (hst.each_ x hx).2.2.1.mono (by omega)⟩
        refine ⟨sp_kept ⟨(HV.out.2.2.1.past hst.below (Nat.le_refl _)).wide hst.below.size, ⟨hlies, fun x hx => (hst.each_ x hx).1⟩⟩ (hlo.mono (by omega)) kZ, ⟨⟨H.out.2.2.2.2.1.f.n, HV.out.2.2.2.1, HV.out.2.2.2.2.1⟩, by show M.length ≤ _; omega, fun x hx => (hst.each_ x hx).2.1⟩, hlo.mono H.out.1.size, below_two hbw (Nat.le_succ _) _ _⟩)
      have HPL := Lib.hid hpl
      have hn1 : ¬ ((s.L.length : Int) < (s.L.length : Int)) := by omega
      clear hst hbw hVw hpl hcm hlies oz hX kZ hPz hVs hlen
      go_wp2_with fail
      exact bodyPost_ret (v := .agg #[.slice As s.f.length cs, .slice A2 M.length c2]) (by simp [results, Tryz.results5, go_sem, x0, x1]) rfl (HP.out _ _ ⟨As, cs, s.f, A2, c2, M⟩ rfl rfl HPL.out HX.out.1 HX.out.2.1 HX.out.2.2.1 HX.out.2.2.2)
end Go.Proofs.YtgalemkjgaiphaaGreat
namespace Go.Proofs.YtgalemkjgaiphaaGreat
open Go Go.RowKit

set_option maxRecDepth 100000 in
set_option maxHeartbeats 12800000 in
theorem insert_sp (s : Sp) (A : Option Addr) (c : Nat) (L : List (Rw Up)) (w : World) (hs : SpIn w w.heap.size s) (ok : SpOk s) (hl : ULs w w.heap.size A L) (hok : ∀ r ∈ L, ∀ u ∈ r.l, UOk u) (hw : wtS s.L + (flatR L).length ≤ 274877906944) (hn : L.length ≤ 1099511627776) :
    Calls Tryz.prog 6 #[s.val, .slice A L.length c] w (InsertedS s (flatR L) w) := by
  obtain ⟨V, hV, hvb, hvs, hvo, hvz⟩ := sp_box2 w s
  have hin := hs.keep hvb
  have y1 := Lib.hid (scheck_any s V hin ok)
  have H := Lib.hid (And.intro hs (And.intro ok (And.intro hl (And.intro hok (And.intro hw (And.intro hn (And.intro hvb (And.intro hvo hvz))))))))
  obtain ⟨d0, d1⟩ := own2 hvo
  have HP := Lib.hid (show ∀ x w' (s' : Sp) (E : Int), x = .returned (.tuple #[s'.val, .int .i64 E]) → (¬ SpGood s.f s.L ∧ E = 8 ∧ s' = Sp.nil ∨ SpGood s.f s.L ∧ s'.f = s.f ∧ (E = 0 ∧ consE [advL s.f (flatR L)] = 0 ∧ PutTo s.f s.L s'.L (flatR L) 1 (flatR L).length ∧ HasI s s' (flatR L) ∨ E ≠ 0 ∧ s'.L.map Lv.pl = s.L.map Lv.pl ∧ WhyI s (flatR L))) → SpIn w' w'.heap.size s' → SpOk s' → SpLo w.heap.size s' → Below w.heap.size w w' → InsertedS s (flatR L) w x w' from fun x w' s' E h1 h2 h3 h4 h5 h6 => ⟨s', E, h1, h2, h3, h4, h5, h6⟩)
  have hsv : s.val = .agg #[.slice s.sA s.f.length s.sc, .slice s.lA s.L.length s.lc] := rfl
  rw [hsv] at y1 ⊢
  clear hs ok hl hok hw hn hvb hvs hvo hvz hin
  go_enter Tryz.func6, Tryz.ntmps6
  go_upto_region 1 with fail
  rw [← hV]
  clear hV
  go_wp2_with fail
  refine y1.out.mono ?_
  rintro _ w1 ⟨n, rfl, hn, b1⟩
  have hv1 := H.out.2.2.2.2.2.2.2.1.past b1 H.out.2.2.2.2.2.2.2.1.inside
  have hz1 := H.out.2.2.2.2.2.2.2.2.past b1 H.out.2.2.2.2.2.2.2.2.inside
  have H1 := Lib.hid (And.intro hn (And.intro (H.out.2.2.2.2.2.2.1.trans (b1.mono H.out.2.2.2.2.2.2.1.size)) (And.intro hv1 (And.intro hz1 hz1.inside))))
  clear hn b1 d0 d1 y1
  by_cases h0 : n = 0
  case neg =>
    have t1 : (n != 0) = true := bne_iff_ne.2 h0
    have HN := Lib.hid (show ¬ SpGood s.f s.L ∧ n = 8 from by
      rcases H1.out.1 with ⟨_, h⟩ | h
      · exact absurd h h0
      · exact h)
    obtain ⟨z0, z1⟩ := own2 hz1
    have f0 := hz1.open_ 0
    have f1 := hz1.open_ 1
    have hX := (hz1.set_ 0 (.slice none 0 0)).set_ 1 (.slice none 0 0)
    obtain ⟨x0, x1⟩ := own2 hX
    have HB := Lib.hid (below_two H1.out.2.1 (Nat.le_succ _) (P := w.heap.size + 1) (.slice none 0 0) (.slice none 0 0))
    clear hv1 hz1 hX h0
    go_wp2_with fail
    exact bodyPost_ret (v := .tuple #[.agg #[.slice none 0 0, .slice none 0 0], .int .i64 n]) (by simp [results, Tryz.results6, go_sem, x0, x1]) rfl (HP.out _ _ Sp.nil n rfl (.inl ⟨HN.out.1, HN.out.2, rfl⟩) (sp_nil_in _ _) sp_nil_ok (sp_nil_lo _) HB.out)
  subst h0
  have hgood : SpGood s.f s.L := by
    rcases H1.out.1 with ⟨h, _⟩ | ⟨_, h⟩
    · exact h
    · exact absurd h (by decide)
  have hin1 := H.out.1.keep H1.out.2.1
  have hwt : wtS s.L ≤ 274877906944 := by have := H.out.2.2.2.2.1; omega
  have y2 := Lib.hid (copyS_any s w1 hin1 H.out.2.1 hgood hwt)
  have HG := Lib.hid hgood
  obtain ⟨d0, d1⟩ := own2 hv1
  rw [hsv] at y2
  clear hv1 hz1 hgood hin1 hwt
  go_wp2_with fail
  refine y2.out.mono ?_
  rintro _ w2 ⟨s1, rfl, hc, b2⟩
  rw [show s1.val = .agg #[.slice s1.sA s1.f.length s1.sc, .slice s1.lA s1.L.length s1.lc] from rfl]
  obtain ⟨V3, hV3⟩ : ∃ V3, V3 = w2.alloc (.cells #[.slice s1.sA s1.f.length s1.sc, .slice s1.lA s1.L.length s1.lc] 60) := ⟨_, rfl⟩
  obtain ⟨hwk, b3⟩ := wk_of_copy (base := w1.heap.size) hc (Nat.le_refl _) b2.size V3 hV3
  have b23 := belows b2 b3
  have b03 := belows H1.out.2.1 b23
  have HC := Lib.hid (And.intro hc.f hc.L)
  have H3 := Lib.hid (And.intro hwk (And.intro b03 (And.intro (H1.out.2.2.1.past b23 H1.out.2.2.1.inside) (And.intro (H1.out.2.2.2.1.past b23 H1.out.2.2.2.1.inside) (Nat.le_trans H1.out.2.2.2.2 b2.size)))))
  have y3 := Lib.hid (build_any s1.sA s1.sc s1.f A c L V3 hwk.since hwk.ok.f (H.out.2.2.1.keep b03) H.out.2.2.2.1 (by have := H.out.2.2.2.2.1; omega) H.out.2.2.2.2.2.1)
  have g0 : V3.cell? ⟨w2.heap.size, 0, none⟩ = some (.slice s1.sA s1.f.length s1.sc) := hwk.own.at_ 0
  clear hc hwk b2 b3 b23 b03 d0 d1 y2
  go_upto_region 5 with fail
  rw [← hV3]
  clear hV3
  go_wp2_with fail
  refine y3.out.mono ?_
  rintro _ w4 ⟨b, rfl, hb0, hbn, ib, ob, lb, b4⟩
  obtain ⟨E, hE⟩ : ∃ E, bldE s1.f (flatR L) = E := ⟨_, rfl⟩
  rw [hE] at hb0 hbn ⊢
  have HE := Lib.hid hE
  obtain ⟨V4, hV4, hb4, hs4, ho4⟩ := btbox w4 b
  have b44 := belows b4 hb4
  have H4 := Lib.hid (And.intro hb0 (And.intro (ib.keep hb4) (And.intro ob (And.intro lb (And.intro ho4 (And.intro (H3.out.1.past b44) (And.intro (belows H3.out.2.1 b44) (And.intro (H3.out.2.2.1.past b44 H3.out.2.2.1.inside) (And.intro (H3.out.2.2.2.1.past b44 H3.out.2.2.2.1.inside) b44)))))))))
  rw [show b.val = .agg #[.slice b.sA b.f.length b.sc, .slice b.uA b.l.length b.uc] from rfl]
  clear hb0 hbn ib ob lb b4 hb4 hs4 ho4 b44 hE g0 y3
  go_upto_region 6 with fail
  rw [← hV4]
  clear hV4
  by_cases hE0 : E = 0
  · have t1 : (E == 0) = true := by rw [hE0]; rfl
    have hlen : b.l.length ≤ (flatR L).length := by
      have h1 := congrArg List.length (H4.out.1 hE0).2.2
      have h2 := consL_len [advL s1.f (flatR L)]
      rw [List.length_map] at h1
      simp only [List.flatten_cons, List.flatten_nil, List.append_nil] at h2
      have h3 : (advL s1.f (flatR L)).length = (flatR L).length := List.length_map ..
      omega
    have hcons : consE [advL s1.f (flatR L)] = 0 := by
      have h1 := HE.out
      unfold bldE at h1
      rw [if_pos (show chk s1.f = 0 ∧ frontL s1.f = s1.f from (H4.out.1 hE0).1)] at h1
      omega
    have hgood1 : SpGood s1.f s1.L := by rw [HC.out.1]; exact pl_good HC.out.2.symm HG.out
    have hok : PutIn w1.heap.size w2.heap.size s1 b V4 := ⟨H4.out.2.2.2.2.2.1, hgood1, H4.out.2.1, H4.out.2.2.1, H4.out.2.2.2.1.of (fun k hk => (H3.out.1.lt k hk).2), H4.out.2.2.2.1.mono (H3.out.1.base_), by
      obtain ⟨k1, k2, k3⟩ := H4.out.1 hE0
      rw [k2]
      exact batch_ok k1 hcons k3, by rw [(H4.out.1 hE0).2.1]; exact later_refl _, by
      have h1 := (pl_parts HC.out.2).2.2.1
      have h2 := H.out.2.2.2.2.1
      omega⟩
    have y4 := Lib.hid (put_any w1.heap.size w2.heap.size _ s1 b V4 hok (Nat.le_refl _))
    have HK := Lib.hid (And.intro hlen (And.intro hcons hok))
    obtain ⟨e0, e1⟩ := own2 H4.out.2.2.2.2.1
    rw [show b.val = .agg #[.slice b.sA b.f.length b.sc, .slice b.uA b.l.length b.uc] from rfl] at y4
    have HE0 := Lib.hid hE0
    clear hlen hcons hgood1 hok hE0
    go_wp2_with fail
    refine y4.out.mono ?_
    rintro _ w5 ⟨E2, rfl, hk5, h5⟩
    have hlt2 : ∀ k, SpS w2.heap.size s1.lA k → w1.heap.size ≤ k := fun k hk => (H3.out.1.lt k hk).1
    have b05 : Below w.heap.size w w5 := H4.out.2.2.2.2.2.2.1.trans (hk5.below (fun k hk => Nat.le_trans H1.out.2.1.size (hlt2 k hk)) (H4.out.2.2.2.2.2.2.1.size))
    have o25 := hk5.own H4.out.2.2.2.2.2.2.2.1 (fun hs => by have h1 := hlt2 _ hs; have h2 := H1.out.2.2.2.2; omega)
    have oz5 := hk5.own H4.out.2.2.2.2.2.2.2.2.1 (fun hs => by have h1 := hlt2 _ hs; have h2 := H1.out.2.2.2.2; omega)
    have HB5 := Lib.hid (And.intro b05 (And.intro o25 oz5))
    by_cases hE2 : E2 = 0
    · have t2 : (E2 != 0) = false := by rw [hE2]; rfl
      have hput : ∃ s', PutOut w1.heap.size w2.heap.size s1 b.l 1 b.l.length V4 w5 s' := by
        rcases h5 with ⟨_, h⟩ | h
        · exact h
        · have := h.1; omega
      obtain ⟨s', hp⟩ := hput
      obtain ⟨g0, g1⟩ := own2 hp.wk.own
      obtain ⟨z0, z1⟩ := own2 oz5
      have f0 := oz5.open_ 0
      have f1 := oz5.open_ 1
      have hX := (oz5.set_ 0 (.slice s'.sA s'.f.length s'.sc)).set_ 1 (.slice s'.lA s'.L.length s'.lc)
      obtain ⟨x0, x1⟩ := own2 hX
      have hlo := hp.wk.lo_
      have HX := Lib.hid (And.intro (sp_kept hp.wk.spin (hlo.mono H1.out.2.2.2.2) (kept_two (P := w.heap.size + 1) (.slice s'.sA s'.f.length s'.sc) (.slice s'.lA s'.L.length s'.lc))) (And.intro hp.wk.ok (And.intro (hlo.mono H1.out.2.1.size) (And.intro (below_two b05 (Nat.le_succ w.heap.size) (.slice s'.sA s'.f.length s'.sc) (.slice s'.lA s'.L.length s'.lc)) (And.intro (hp.h3.trans HC.out.1) (by
        have h1 := hp.put.swap HC.out.2 (eqs_cons (HK.out.2.2.good.front.right) HK.out.2.1 (H4.out.1 HE0.out).2.2) HK.out.1
        rw [HC.out.1] at h1
        have h2 : HasI s s' (flatR L) := ⟨fun hb hq => by
          have e2 := (H4.out.1 HE0.out).2.2
          rw [HC.out.1] at e2
          have e3 := congrArg List.length e2
          rw [List.length_map] at e3
          rw [← e3]
          exact hp.has.new (by rw [(pl_parts HC.out.2).2.2.2]; exact hb) (fun h0 => hq (List.eq_nil_of_length_eq_zero (e3.symm.trans h0))), fun h => by
          have h3 := hp.has.fr
          rw [HC.out.1] at h3
          exact h3 (fr_pl HC.out.2 h)⟩
        exact And.intro h1 h2 : PutTo s.f s.L s'.L (flatR L) 1 (flatR L).length ∧ HasI s s' (flatR L)))))))
      have HCE := Lib.hid (show consE [advL s.f (flatR L)] = 0 by rw [← HC.out.1]; exact HK.out.2.1)
      clear hk5 h5 hlt2 b05 o25 oz5 hE2 hp hX hlo e0 e1 y4
      go_wp2_with fail
      exact bodyPost_ret (v := .tuple #[.agg #[.slice s'.sA s'.f.length s'.sc, .slice s'.lA s'.L.length s'.lc], .int .i64 0]) (by simp [results, Tryz.results6, go_sem, x0, x1]) rfl (HP.out _ _ s' 0 rfl (.inr ⟨HG.out, HX.out.2.2.2.2.1, .inl ⟨rfl, HCE.out, HX.out.2.2.2.2.2⟩⟩) HX.out.1 HX.out.2.1 HX.out.2.2.1 HX.out.2.2.2.1)
    · have t2 : (E2 != 0) = true := bne_iff_ne.2 hE2
      have HNE := Lib.hid hE2
      have HWY := Lib.hid (show WhyI s (flatR L) from by
        rcases h5 with ⟨h, _⟩ | h
        · exact absurd h hE2
        · exact why_pl HC.out.2 h.2)
      clear hk5 h5 hlt2 b05 o25 oz5 hE2 e0 e1 y4
      have hin6 := H.out.1.keep HB5.out.1
      have hwt6 : wtS s.L ≤ 274877906944 := by have := H.out.2.2.2.2.1; omega
      have y6 := Lib.hid (copyS_any s w5 hin6 H.out.2.1 HG.out hwt6)
      obtain ⟨d0, d1⟩ := own2 HB5.out.2.1
      rw [hsv] at y6
      clear hin6 hwt6
      go_wp2_with fail
      refine y6.out.mono ?_
      rintro _ w6 ⟨s3, rfl, hc3, b6⟩
      have oz := HB5.out.2.2.past b6 HB5.out.2.2.inside
      obtain ⟨z0, z1⟩ := own2 oz
      have f0 := oz.open_ 0
      have f1 := oz.open_ 1
      have hX := (oz.set_ 0 (.slice s3.sA s3.f.length s3.sc)).set_ 1 (.slice s3.lA s3.L.length s3.lc)
      obtain ⟨x0, x1⟩ := own2 hX
      have hP1 : w.heap.size + 1 < w5.heap.size := HB5.out.2.2.inside
      have HX := Lib.hid (And.intro (sp_kept hc3.in_ (hc3.lo.mono hP1) (kept_two (P := w.heap.size + 1) (.slice s3.sA s3.f.length s3.sc) (.slice s3.lA s3.L.length s3.lc))) (And.intro hc3.ok (And.intro (hc3.lo.mono HB5.out.1.size) (And.intro (below_two (belows HB5.out.1 b6) (Nat.le_succ w.heap.size) (.slice s3.sA s3.f.length s3.sc) (.slice s3.lA s3.L.length s3.lc)) (And.intro hc3.f hc3.L)))))
      rw [show s3.val = .agg #[.slice s3.sA s3.f.length s3.sc, .slice s3.lA s3.L.length s3.lc] from rfl]
      clear hc3 b6 oz hX d0 d1 y6
      go_wp2_with fail
      exact bodyPost_ret (v := .tuple #[.agg #[.slice s3.sA s3.f.length s3.sc, .slice s3.lA s3.L.length s3.lc], .int .i64 E2]) (by simp [results, Tryz.results6, go_sem, x0, x1]) rfl (HP.out _ _ s3 E2 rfl (.inr ⟨HG.out, HX.out.2.2.2.2.1, .inr ⟨HNE.out, HX.out.2.2.2.2.2, HWY.out⟩⟩) HX.out.1 HX.out.2.1 HX.out.2.2.1 HX.out.2.2.2.1)
  · have t1 : (E == 0) = false := beq_eq_false_iff_ne.2 hE0
    have t2 : (E != 0) = true := bne_iff_ne.2 hE0
    have HNE := Lib.hid hE0
    have HWY := Lib.hid (show WhyI s (flatR L) from .inl (by rw [← HC.out.1, HE.out]; exact hE0))
    have HB5 := Lib.hid (And.intro H4.out.2.2.2.2.2.2.1 (And.intro H4.out.2.2.2.2.2.2.2.1 H4.out.2.2.2.2.2.2.2.2.1))
    clear hE0
    have hin6 := H.out.1.keep HB5.out.1
    have hwt6 : wtS s.L ≤ 274877906944 := by have := H.out.2.2.2.2.1; omega
    have y6 := Lib.hid (copyS_any s V4 hin6 H.out.2.1 HG.out hwt6)
    obtain ⟨d0, d1⟩ := own2 HB5.out.2.1
    rw [hsv] at y6
    clear hin6 hwt6
    go_wp2_with fail
    refine y6.out.mono ?_
    rintro _ w6 ⟨s3, rfl, hc3, b6⟩
    have oz := HB5.out.2.2.past b6 HB5.out.2.2.inside
    obtain ⟨z0, z1⟩ := own2 oz
    have f0 := oz.open_ 0
    have f1 := oz.open_ 1
    have hX := (oz.set_ 0 (.slice s3.sA s3.f.length s3.sc)).set_ 1 (.slice s3.lA s3.L.length s3.lc)
    obtain ⟨x0, x1⟩ := own2 hX
    have hP1 : w.heap.size + 1 < V4.heap.size := HB5.out.2.2.inside
    have HX := Lib.hid (And.intro (sp_kept hc3.in_ (hc3.lo.mono hP1) (kept_two (P := w.heap.size + 1) (.slice s3.sA s3.f.length s3.sc) (.slice s3.lA s3.L.length s3.lc))) (And.intro hc3.ok (And.intro (hc3.lo.mono HB5.out.1.size) (And.intro (below_two (belows HB5.out.1 b6) (Nat.le_succ w.heap.size) (.slice s3.sA s3.f.length s3.sc) (.slice s3.lA s3.L.length s3.lc)) (And.intro hc3.f hc3.L)))))
    rw [show s3.val = .agg #[.slice s3.sA s3.f.length s3.sc, .slice s3.lA s3.L.length s3.lc] from rfl]
    clear hc3 b6 oz hX d0 d1 y6
    go_wp2_with fail
    exact bodyPost_ret (v := .tuple #[.agg #[.slice s3.sA s3.f.length s3.sc, .slice s3.lA s3.L.length s3.lc], .int .i64 E]) (by simp [results, Tryz.results6, go_sem, x0, x1]) rfl (HP.out _ _ s3 E rfl (.inr ⟨HG.out, HX.out.2.2.2.2.1, .inr ⟨HNE.out, HX.out.2.2.2.2.2, HWY.out⟩⟩) HX.out.1 HX.out.2.1 HX.out.2.2.1 HX.out.2.2.2.1)
end Go.Proofs.YtgalemkjgaiphaaGreat
namespace Go.Proofs.YtgalemkjgaiphaaGreat
open Go Go.RowKit

theorem times_keepS {w w' : World} {A : Option Addr} {l : List Tm} (h : Times w w.heap.size A l) (hb : Below w.heap.size w w') : Times w' w'.heap.size A l := (h.past hb (Nat.le_refl _)).wide hb.size
def CompS (s : Sp) (g : List Tm) (w : World) (x : Ending) (w' : World) : Prop :=
  ∃ (s' : Sp) (E : Int), x = .returned (.tuple #[s'.val, .int .i64 E]) ∧ ((¬ SpGood s.f s.L ∧ E = 8 ∧ s' = Sp.nil) ∨ (SpGood s.f s.L ∧ s'.L.map Lv.pl = s.L.map Lv.pl ∧ ((¬ FrontOk g ∧ E = 4 ∧ s'.f = s.f) ∨ (FrontOk g ∧ ¬ LaterF g s.f ∧ E = 1 ∧ s'.f = s.f) ∨ (FrontOk g ∧ LaterF g s.f ∧ E = 0 ∧ s'.f = g)))) ∧ SpIn w' w'.heap.size s' ∧ SpOk s' ∧ SpLo w.heap.size s' ∧ Below w.heap.size w w'
set_option maxRecDepth 100000 in
set_option maxHeartbeats 12800000 in
theorem compact_any (s : Sp) (A : Option Addr) (c : Nat) (g : List Tm) (w : World) (hs : SpIn w w.heap.size s) (ok : SpOk s) (hgt : Times w w.heap.size A g) (hgo : TsOk g c) (hw : wtS s.L ≤ 274877906944) :
    Calls Tryz.prog 10 #[s.val, .slice A g.length c] w (CompS s g w) := by
  obtain ⟨V, hV, hvb, hvs, hvo, hvz⟩ := sp_box2 w s
  have hin := hs.keep hvb
  have y1 := Lib.hid (scheck_any s V hin ok)
  have H := Lib.hid (And.intro hs (And.intro ok (And.intro hgt (And.intro hgo (And.intro hw (And.intro hvb (And.intro hvo hvz)))))))
  obtain ⟨d0, d1⟩ := own2 hvo
  have HP := Lib.hid (show ∀ x w' (s' : Sp) (E : Int), x = .returned (.tuple #[s'.val, .int .i64 E]) → ((¬ SpGood s.f s.L ∧ E = 8 ∧ s' = Sp.nil) ∨ (SpGood s.f s.L ∧ s'.L.map Lv.pl = s.L.map Lv.pl ∧ ((¬ FrontOk g ∧ E = 4 ∧ s'.f = s.f) ∨ (FrontOk g ∧ ¬ LaterF g s.f ∧ E = 1 ∧ s'.f = s.f) ∨ (FrontOk g ∧ LaterF g s.f ∧ E = 0 ∧ s'.f = g)))) → SpIn w' w'.heap.size s' → SpOk s' → SpLo w.heap.size s' → Below w.heap.size w w' → CompS s g w x w' from fun x w' s' E h1 h2 h3 h4 h5 h6 => ⟨s', E, h1, h2, h3, h4, h5, h6⟩)
  have hsv : s.val = .agg #[.slice s.sA s.f.length s.sc, .slice s.lA s.L.length s.lc] := rfl
  rw [hsv] at y1 ⊢
  clear hs ok hgt hgo hw hvb hvs hvo hvz hin
  go_enter Tryz.func10, Tryz.ntmps10
  go_upto_region 1 with fail
  rw [← hV]
  clear hV
  go_wp2_with fail
  refine y1.out.mono ?_
  rintro _ w1 ⟨n, rfl, hn, b1⟩
  have hv1 := H.out.2.2.2.2.2.2.1.past b1 H.out.2.2.2.2.2.2.1.inside
  have hz1 := H.out.2.2.2.2.2.2.2.past b1 H.out.2.2.2.2.2.2.2.inside
  have H1 := Lib.hid (And.intro hn (And.intro (H.out.2.2.2.2.2.1.trans (b1.mono H.out.2.2.2.2.2.1.size)) (And.intro hv1 (And.intro hz1 hz1.inside))))
  clear hn b1 d0 d1 y1
  by_cases h0 : n = 0
  case neg =>
    have t1 : (n != 0) = true := bne_iff_ne.2 h0
    have HN := Lib.hid (show ¬ SpGood s.f s.L ∧ n = 8 from by
      rcases H1.out.1 with ⟨_, h⟩ | h
      · exact absurd h h0
      · exact h)
    obtain ⟨z0, z1⟩ := own2 hz1
    have f0 := hz1.open_ 0
    have f1 := hz1.open_ 1
    have hX := (hz1.set_ 0 (.slice none 0 0)).set_ 1 (.slice none 0 0)
    obtain ⟨x0, x1⟩ := own2 hX
    have HB := Lib.hid (below_two H1.out.2.1 (Nat.le_succ _) (P := w.heap.size + 1) (.slice none 0 0) (.slice none 0 0))
    clear hv1 hz1 hX h0
    go_wp2_with fail
    exact bodyPost_ret (v := .tuple #[.agg #[.slice none 0 0, .slice none 0 0], .int .i64 n]) (by simp [results, Tryz.results10, go_sem, x0, x1]) rfl (HP.out _ _ Sp.nil n rfl (.inl ⟨HN.out.1, HN.out.2, rfl⟩) (sp_nil_in _ _) sp_nil_ok (sp_nil_lo _) HB.out)
  subst h0
  have hgood : SpGood s.f s.L := by
    rcases H1.out.1 with ⟨h, _⟩ | ⟨_, h⟩
    · exact h
    · exact absurd h (by decide)
  have hin1 := H.out.1.keep H1.out.2.1
  have y2 := Lib.hid (copyS_any s w1 hin1 H.out.2.1 hgood H.out.2.2.2.2.1)
  have HG := Lib.hid hgood
  obtain ⟨d0, d1⟩ := own2 hv1
  rw [hsv] at y2
  clear hv1 hz1 hgood hin1
  go_wp2_with fail
  refine y2.out.mono ?_
  rintro _ w2 ⟨s1, rfl, hc, b2⟩
  rw [show s1.val = .agg #[.slice s1.sA s1.f.length s1.sc, .slice s1.lA s1.L.length s1.lc] from rfl]
  obtain ⟨V3, hV3, b3, hs3, o3⟩ := spbox w2 s1
  have b23 := belows b2 b3
  have b03 := belows H1.out.2.1 b23
  have HC := Lib.hid (And.intro hc.f hc.L)
  have HL := Lib.hid (And.intro hc.in_ (And.intro hc.ok (And.intro hc.lo (And.intro b2.size b3))))
  have H3 := Lib.hid (And.intro b03 (And.intro (H1.out.2.2.1.past b23 H1.out.2.2.1.inside) (And.intro (H1.out.2.2.2.1.past b23 H1.out.2.2.2.1.inside) o3)))
  have hgt3 := times_keepS H.out.2.2.1 b03
  have y3 := Lib.hid (frontier_anyS A c g V3 hgt3 H.out.2.2.2.1)
  clear hc b2 b3 b23 b03 d0 d1 y2 hs3 o3 hgt3
  go_upto_region 5 with fail
  rw [← hV3]
  clear hV3
  go_wp2_with fail
  refine y3.out.mono ?_
  rintro _ w4 ⟨fb, rfl, hfb, b4⟩
  have H4 := Lib.hid (And.intro (belows H3.out.1 b4) (And.intro (H3.out.2.1.past b4 H3.out.2.1.inside) (And.intro (H3.out.2.2.1.past b4 H3.out.2.2.1.inside) (And.intro (H3.out.2.2.2.past b4 H3.out.2.2.2.inside) (belows HL.out.2.2.2.2 b4)))))
  have HFB := Lib.hid hfb
  clear b4 hfb y3
  cases fb with
  | false =>
    have oz := H4.out.2.2.1
    obtain ⟨z0, z1⟩ := own2 oz
    have f0 := oz.open_ 0
    have f1 := oz.open_ 1
    obtain ⟨g0, g1⟩ := own2 H4.out.2.2.2.1
    have hX := (oz.set_ 0 (.slice s1.sA s1.f.length s1.sc)).set_ 1 (.slice s1.lA s1.L.length s1.lc)
    obtain ⟨x0, x1⟩ := own2 hX
    have hP1 : w.heap.size + 1 < w1.heap.size := H1.out.2.2.2.2
    have HX := Lib.hid (And.intro (sp_kept ((HL.out.1.past H4.out.2.2.2.2 (Nat.le_refl _)).wide H4.out.2.2.2.2.size) (HL.out.2.2.1.mono hP1) (kept_two (P := w.heap.size + 1) (.slice s1.sA s1.f.length s1.sc) (.slice s1.lA s1.L.length s1.lc))) (And.intro (HL.out.2.2.1.mono H1.out.2.1.size) (below_two H4.out.1 (Nat.le_succ w.heap.size) (.slice s1.sA s1.f.length s1.sc) (.slice s1.lA s1.L.length s1.lc))))
    clear oz hX
    go_wp2_with fail
    exact bodyPost_ret (v := .tuple #[.agg #[.slice s1.sA s1.f.length s1.sc, .slice s1.lA s1.L.length s1.lc], .int .i64 4]) (by simp [results, Tryz.results10, go_sem, x0, x1]) rfl (HP.out _ _ s1 4 rfl (.inr ⟨HG.out, HC.out.2, .inl ⟨fun h => absurd (HFB.out.2 h) (by decide), rfl, HC.out.1⟩⟩) HX.out.1 HL.out.2.1 HX.out.2.1 HX.out.2.2)
  | true =>
    have hgt4 := times_keepS H.out.2.2.1 H4.out.1
    have y4 := Lib.hid (later_any A c g s.sA s.sc s.f w4 hgt4 (Nat.le_trans H.out.2.2.2.1.le H.out.2.2.2.1.c_) (H.out.1.keep H4.out.1).since (Nat.le_trans H.out.2.1.f.le H.out.2.1.f.c_))
    obtain ⟨d0, d1⟩ := own2 H4.out.2.1
    clear hgt4
    go_wp2_with fail
    refine y4.out.mono ?_
    rintro _ w5 ⟨lb, rfl, hlb, b5⟩
    have H5 := Lib.hid (And.intro (belows H4.out.1 b5) (And.intro (H4.out.2.2.1.past b5 H4.out.2.2.1.inside) (And.intro (H4.out.2.2.2.1.past b5 H4.out.2.2.2.1.inside) (belows H4.out.2.2.2.2 b5))))
    have HLB := Lib.hid hlb
    clear b5 hlb y4 d0 d1
    cases lb with
    | false =>
      have oz := H5.out.2.1
      obtain ⟨z0, z1⟩ := own2 oz
      have f0 := oz.open_ 0
      have f1 := oz.open_ 1
      obtain ⟨g0, g1⟩ := own2 H5.out.2.2.1
      have hX := (oz.set_ 0 (.slice s1.sA s1.f.length s1.sc)).set_ 1 (.slice s1.lA s1.L.length s1.lc)
      obtain ⟨x0, x1⟩ := own2 hX
      have hP1 : w.heap.size + 1 < w1.heap.size := H1.out.2.2.2.2
      have HX := Lib.hid (And.intro (sp_kept ((HL.out.1.past H5.out.2.2.2 (Nat.le_refl _)).wide H5.out.2.2.2.size) (HL.out.2.2.1.mono hP1) (kept_two (P := w.heap.size + 1) (.slice s1.sA s1.f.length s1.sc) (.slice s1.lA s1.L.length s1.lc))) (And.intro (HL.out.2.2.1.mono H1.out.2.1.size) (below_two H5.out.1 (Nat.le_succ w.heap.size) (.slice s1.sA s1.f.length s1.sc) (.slice s1.lA s1.L.length s1.lc))))
      clear oz hX
      go_wp2_with fail
      exact bodyPost_ret (v := .tuple #[.agg #[.slice s1.sA s1.f.length s1.sc, .slice s1.lA s1.L.length s1.lc], .int .i64 1]) (by simp [results, Tryz.results10, go_sem, x0, x1]) rfl (HP.out _ _ s1 1 rfl (.inr ⟨HG.out, HC.out.2, .inr (.inl ⟨HFB.out.1 (by first | trivial | rfl), fun h => absurd (HLB.out.2 h) (by decide), rfl, HC.out.1⟩)⟩) HX.out.1 HL.out.2.1 HX.out.2.1 HX.out.2.2)
    | true =>
      have hgn := H.out.2.2.2.1.n
      have y5 := Lib.hid (listT_times A c g w5 (times_keepS H.out.2.2.1 H5.out.1) (by omega))
      go_wp2_with fail
      refine y5.out.mono ?_
      rintro _ w6 ⟨A', rfl, ht6, hlo6, b6⟩
      have oz := H5.out.2.1.past b6 H5.out.2.1.inside
      have oq := H5.out.2.2.1.past b6 H5.out.2.2.1.inside
      have b26 := belows H5.out.2.2.2 b6
      have b06 := belows H5.out.1 b6
      have hq : w2.heap.size < w5.heap.size := H5.out.2.2.1.inside
      have hPQ : w.heap.size + 1 ≠ w2.heap.size := by have := H1.out.2.2.2.2; have := HL.out.2.2.2.1; omega
      have hP1 : w.heap.size + 1 < w1.heap.size := H1.out.2.2.2.2
      have hP2 := HL.out.2.2.2.1
      have hin7 : SpIn (w6.setCell ⟨w2.heap.size, 0, none⟩ (.slice A' g.length g.length)) w2.heap.size s1 := HL.out.1.past (b26.setCell (p := ⟨w2.heap.size, 0, none⟩) (Nat.le_refl _) _) (Nat.le_refl _)
      have hlo6' : LoT w5.heap.size A' := fun b o e => (hlo6 b o e).1
      have ht7 := times_kept ht6 (hlo6'.of (S := fun b => b = w2.heap.size) (fun b e => by omega)) (KeptK.set_ (S := fun b => b = w2.heap.size) (o := 0) (KeptK.refl w6 _) (.inl rfl) (.slice A' g.length g.length))
      have hsz : (w6.setCell ⟨w2.heap.size, 0, none⟩ (.slice A' g.length g.length)).heap.size = w6.heap.size := by simp
      have hspi : SpIn (w6.setCell ⟨w2.heap.size, 0, none⟩ (.slice A' g.length g.length)) (w6.setCell ⟨w2.heap.size, 0, none⟩ (.slice A' g.length g.length)).heap.size ⟨A', g.length, g, s1.lA, s1.lc, s1.L⟩ := ⟨ht7, (hin7.wide (by rw [hsz]; exact b26.size)).lev⟩
      have hlo7 : SpLo w1.heap.size ⟨A', g.length, g, s1.lA, s1.lc, s1.L⟩ := ⟨hlo6'.mono (by omega), HL.out.2.2.1.l, HL.out.2.2.1.each_⟩
      have hok7 : SpOk ⟨A', g.length, g, s1.lA, s1.lc, s1.L⟩ := ⟨⟨hgn, Nat.le_refl _, by show g.length ≤ maxLen; unfold maxLen; omega⟩, HL.out.2.1.n, HL.out.2.1.le, HL.out.2.1.c_, HL.out.2.1.each_⟩
      have oq7 := oq.set_ 0 (.slice A' g.length g.length)
      have oz7 := (KeptK.set_ (S := fun b => b = w2.heap.size) (o := 0) (KeptK.refl w6 _) (.inl rfl) (.slice A' g.length g.length)).own oz hPQ
      have fq := oq.open_ 0
      obtain ⟨k0, k1⟩ := own2 oq
      obtain ⟨g0, g1⟩ := own2 oq7
      obtain ⟨z0, z1⟩ := own2 oz7
      have f0 := oz7.open_ 0
      have f1 := oz7.open_ 1
      have hX := (oz7.set_ 0 (.slice A' g.length g.length)).set_ 1 (.slice s1.lA s1.L.length s1.lc)
      obtain ⟨x0, x1⟩ := own2 hX
      have HX := Lib.hid (And.intro (sp_kept hspi (hlo7.mono hP1) (kept_two (P := w.heap.size + 1) (.slice A' g.length g.length) (.slice s1.lA s1.L.length s1.lc))) (And.intro (hlo7.mono H1.out.2.1.size) (And.intro (below_two (b06.setCell (p := ⟨w2.heap.size, 0, none⟩) (by show w.heap.size ≤ w2.heap.size; omega) (.slice A' g.length g.length)) (Nat.le_succ w.heap.size) (.slice A' g.length g.length) (.slice s1.lA s1.L.length s1.lc)) hok7)))
      clear oz oq b26 b06 hq hPQ hin7 hlo6' ht7 hspi hlo7 hok7 oq7 oz7 hX ht6 hlo6 b6 hP2 hP1 y5
      go_wp2_with fail
      exact bodyPost_ret (v := .tuple #[.agg #[.slice A' g.length g.length, .slice s1.lA s1.L.length s1.lc], .int .i64 0]) (by simp [results, Tryz.results10, go_sem, x0, x1]) rfl (HP.out _ _ ⟨A', g.length, g, s1.lA, s1.lc, s1.L⟩ 0 rfl (.inr ⟨HG.out, HC.out.2, .inr (.inr ⟨HFB.out.1 (by first | trivial | rfl), HLB.out.1 (by first | trivial | rfl), rfl, rfl⟩)⟩) HX.out.1 HX.out.2.2.2 HX.out.2.1 HX.out.2.2.1)
end Go.Proofs.YtgalemkjgaiphaaGreat
namespace Go.Proofs.YtgalemkjgaiphaaGreat
open Go Go.RowKit

structure BoxS (P : Nat) (s : Sp) (w : World) : Prop where
  own : Own w P 25 s.cells
  in_ : SpIn w w.heap.size s
  ok : SpOk s
  lo : SpLo (P + 1) s
theorem BoxS.keep {P : Nat} {s : Sp} {w w' : World} (h : BoxS P s w) (hb : Below w.heap.size w w') : BoxS P s w' := ⟨h.own.past hb h.own.inside, h.in_.keep hb, h.ok, h.lo⟩
structure MadeS (X : List Up) (s : Sp) : Prop where
  f : s.f = []
  good : SpGood [] s.L
  eq : EqS [] (partsS s.L) X
  wt : wtS s.L ≤ X.length
end Go.Proofs.YtgalemkjgaiphaaGreat
namespace Go.Proofs.YtgalemkjgaiphaaGreat
open Go Go.RowKit

theorem sbox_one (w : World) (G : Nat) (n d : Int) (h : Vals w w.heap.size (some ⟨G, 0, none⟩) [vnum n]) :
    ∃ V, V = w.alloc (.cells #[.slice none 0 0, .slice (some ⟨G, 0, none⟩) 1 1, .int .u64 0, .int .u64 0, .int .u64 0, .int .i64 d] 50) ∧ Below w.heap.size w V ∧ Ups V V.heap.size (some ⟨w.heap.size, 0, none⟩) [lu G n d 0] := by
  obtain ⟨W, e1, s1, b1, o1⟩ := boxd w [.slice none 0 0, .slice (some ⟨G, 0, none⟩) 1 1, .int .u64 0, .int .u64 0, .int .u64 0, .int .i64 d] 50
  refine ⟨W, e1, b1, ups_own (t := 50) (l := [lu G n d 0]) o1 fun u hu => ?_⟩
  obtain rfl : u = lu G n d 0 := by simpa using hu
  exact lu_in (vals_keep h b1)
def OneS (n : Int) (w : World) (x : Ending) (w' : World) : Prop := ∃ G H, x = .returned (.slice (some ⟨H, 0, none⟩) 1 1) ∧ Ups w' w'.heap.size (some ⟨H, 0, none⟩) [lu G n 1 0] ∧ Below w.heap.size w w'
set_option maxRecDepth 100000 in
set_option maxHeartbeats 1600000 in
theorem sone_any (n : Int) (w : World) : Calls Tryz.prog 33 #[.int .i64 n] w (OneS n w) := by
  have hv := vals_num w n
  obtain ⟨V, hV, hb, hu⟩ := sbox_one _ w.heap.size n 1 hv
  simp only [World.size_alloc] at hu
  have HV := Lib.hid (And.intro hu (((Below.refl w.heap.size w).alloc (Nat.le_refl _) (.cells #[.bool false, .int .i64 n, .string ⟨#[]⟩] 54)).trans (hb.mono (by simp))))
  clear hv hb hu
  go_enter Tryz.func33, Tryz.ntmps33
  go_wp2_with fail
  go_ret
  dsimp only
  rw [← hV]
  exact ⟨_, _, rfl, HV.out.1, HV.out.2⟩
def Bw (V W : World) : Prop := Below V.heap.size V W
theorem Bw.self (V : World) : Bw V V := Below.refl _ _
theorem Bw.drew {V W : World} (h : Bw V W) : Bw V W.drew := Below.drew h
theorem Bw.more {V W : World} (h : Bw V W) (o : Obj) : Bw V (W.alloc o) := Below.alloc h h.size o
theorem Bw.call {V X Y : World} (h : Bw V X) (b : Below X.heap.size X Y) : Bw V Y := belows h b
theorem Bw.set {V W : World} (h : Bw V W) {Q o : Nat} (hQ : V.heap.size ≤ Q) (x : Value) : Bw V (W.setCell ⟨Q, o, none⟩ x) := h.setCell (p := ⟨Q, o, none⟩) hQ x
theorem ul_more {X : World} {A : Option Addr} {L : List (Rw Up)} (h : ULs X X.heap.size A L) (o : Obj) : ULs (X.alloc o) (X.alloc o).heap.size A L := h.keep ((Below.refl _ _).alloc (Nat.le_refl _) o)
theorem ul_one {w1 Y : World} {Hh G k : Nat} (hu : Ups w1 w1.heap.size (some ⟨Hh, 0, none⟩) [lu G (k : Int) 1 0]) (hY : Bw w1 Y) : ULs (Y.alloc (.cells #[.slice (some ⟨Hh, 0, none⟩) 1 1] 37)) (Y.alloc (.cells #[.slice (some ⟨Hh, 0, none⟩) 1 1] 37)).heap.size (some ⟨Y.heap.size, 0, none⟩) [⟨some ⟨Hh, 0, none⟩, 1, [lu G (k : Int) 1 0]⟩] := by
  obtain ⟨V, hV, _, h⟩ := one_list Y (some ⟨Hh, 0, none⟩) 1 [lu G (k : Int) 1 0] (hu.keep hY)
  rw [show V = Y.alloc (.cells #[.slice (some ⟨Hh, 0, none⟩) 1 1] 37) from hV] at h
  exact h
structure InLv (P : Nat) (k : Nat) (s : Sp) (w : World) : Prop where
  box : BoxS P s w
  st : St k s
theorem lu_okS {G k : Nat} (h : k < 3) : UOk (lu G (k : Int) 1 0) := lu_ok (by omega) (by omega)
theorem ins_lv {k G H P B : Nat} {s : Sp} {X : World} (h : InLv P k s X) (hk : k < 3) (hu : ULs X X.heap.size (some ⟨B, 0, none⟩) [⟨some ⟨H, 0, none⟩, 1, [lu G (k : Int) 1 0]⟩]) :
    Calls Tryz.prog 6 #[.agg #[.slice s.sA s.f.length s.sc, .slice s.lA s.L.length s.lc], .slice (some ⟨B, 0, none⟩) 1 1] X fun x w' => ∃ s', x = .returned (.tuple #[.agg #[.slice s'.sA s'.f.length s'.sc, .slice s'.lA s'.L.length s'.lc], .int .i64 0]) ∧ St (k + 1) s' ∧ SpIn w' w'.heap.size s' ∧ SpOk s' ∧ SpLo X.heap.size s' ∧ Below X.heap.size X w' := by
  have hwt := h.st.wt
  have := insert_sp s (some ⟨B, 0, none⟩) 1 [⟨some ⟨H, 0, none⟩, 1, [lu G (k : Int) 1 0]⟩] X h.box.in_ h.box.ok hu (fun r hr u hu => by
    rw [List.mem_singleton.1 hr] at hu
    rw [List.mem_singleton.1 hu]
    exact lu_okS hk) (by simp [flatR]; omega) (by simp)
  refine this.mono fun x w' ⟨s', E, h1, h2, h3, h4, h5, h6⟩ => ?_
  obtain ⟨rfl, hst⟩ := st_next h.st hk h2
  exact ⟨s', h1, hst, h3, h4, h5, h6⟩
theorem mid_new {w wr w2 : World} {k n : Nat} {s s' : Sp} (hin : InLv w.heap.size k s wr) (hb : Below w.heap.size w wr) (hb2 : Bw wr w2) (st2 : St (k + 1) s') (i2 : SpIn w2 w2.heap.size s') (o2 : SpOk s') (lo2 : SpLo n s') (hn : wr.heap.size ≤ n) :
    ∃ (Q : Nat) (s'' : Sp), Value.pointer (some ⟨w2.heap.size, 0, none⟩) = .pointer (some ⟨Q, 0, none⟩) ∧ Value.int .i64 0 = .int .i64 0 ∧ St (k + 1) s'' ∧ SpIn (w2.alloc (.cells #[.slice s'.sA s'.f.length s'.sc, .slice s'.lA s'.L.length s'.lc] 25)) (w2.alloc (.cells #[.slice s'.sA s'.f.length s'.sc, .slice s'.lA s'.L.length s'.lc] 25)).heap.size s'' ∧ SpOk s'' ∧ SpLo (w.heap.size + 1) s'' ∧ Own (w2.alloc (.cells #[.slice s'.sA s'.f.length s'.sc, .slice s'.lA s'.L.length s'.lc] 25)) Q 25 s''.cells ∧ Own (w2.alloc (.cells #[.slice s'.sA s'.f.length s'.sc, .slice s'.lA s'.L.length s'.lc] 25)) w.heap.size 25 s.cells ∧ Below w.heap.size w (w2.alloc (.cells #[.slice s'.sA s'.f.length s'.sc, .slice s'.lA s'.L.length s'.lc] 25)) := by
  have hP := hin.box.own.inside
  exact ⟨w2.heap.size, s', rfl, rfl, st2, i2.keep ((Below.refl _ _).alloc (Nat.le_refl _) _), o2, lo2.mono (by omega), Own.made w2 _ s'.cells, hin.box.own.past (hb2.more _) hP, belows hb (hb2.more _)⟩
theorem mid_set {w wr w2 : World} {k n Q : Nat} {s s' : Sp} (hin : InLv w.heap.size k s wr) (hb : Below w.heap.size w wr) (hb2 : Bw wr w2) (st2 : St (k + 1) s') (i2 : SpIn w2 w2.heap.size s') (o2 : SpOk s') (lo2 : SpLo n s') (hQ : wr.heap.size ≤ Q) (hn : Q + 1 ≤ n) (oz : Own w2 Q 25 [.slice none 0 0, .slice none 0 0]) :
    ∃ (Q' : Nat) (s'' : Sp), Value.pointer (some ⟨Q, 0, none⟩) = .pointer (some ⟨Q', 0, none⟩) ∧ Value.int .i64 0 = .int .i64 0 ∧ St (k + 1) s'' ∧ SpIn ((w2.setCell ⟨Q, 0, none⟩ (.slice s'.sA s'.f.length s'.sc)).setCell ⟨Q, 1, none⟩ (.slice s'.lA s'.L.length s'.lc)) ((w2.setCell ⟨Q, 0, none⟩ (.slice s'.sA s'.f.length s'.sc)).setCell ⟨Q, 1, none⟩ (.slice s'.lA s'.L.length s'.lc)).heap.size s'' ∧ SpOk s'' ∧ SpLo (w.heap.size + 1) s'' ∧ Own ((w2.setCell ⟨Q, 0, none⟩ (.slice s'.sA s'.f.length s'.sc)).setCell ⟨Q, 1, none⟩ (.slice s'.lA s'.L.length s'.lc)) Q' 25 s''.cells ∧ Own ((w2.setCell ⟨Q, 0, none⟩ (.slice s'.sA s'.f.length s'.sc)).setCell ⟨Q, 1, none⟩ (.slice s'.lA s'.L.length s'.lc)) w.heap.size 25 s.cells ∧ Below w.heap.size w ((w2.setCell ⟨Q, 0, none⟩ (.slice s'.sA s'.f.length s'.sc)).setCell ⟨Q, 1, none⟩ (.slice s'.lA s'.L.length s'.lc)) := by
  have hP := hin.box.own.inside
  have hb3 : Bw wr ((w2.setCell ⟨Q, 0, none⟩ (.slice s'.sA s'.f.length s'.sc)).setCell ⟨Q, 1, none⟩ (.slice s'.lA s'.L.length s'.lc)) := (hb2.set hQ _).set hQ _
  exact ⟨Q, s', rfl, rfl, st2, sp_kept i2 (lo2.mono hn) (kept_two _ _), o2, lo2.mono (by omega), (oz.set_ 0 _).set_ 1 _, hin.box.own.past hb3 hP, belows hb hb3⟩
theorem good_later {f g : List Tm} {L : List Lv} (h : SpGood f L) (hg : FrontOk g) (hl : LaterF g f) : SpGood g L :=
  ⟨hg, h.pos, h.fall, fun l hm => ⟨fun hb => by
    obtain ⟨h1, h2, h3, h4, h5, h6, h7⟩ := (h.each l hm).busy hb
    exact ⟨h1, h2, h3, h4, h5, later_trans hl h6, h7⟩, fun hb => by
    obtain ⟨h1, h2, h3, h4⟩ := (h.each l hm).idle hb
    exact ⟨h1, h2, h3, later_trans hl h4⟩⟩⟩
theorem front_2 : FrontOk [⟨2, 0, 0⟩] := ⟨by kernel_rfl, by kernel_rfl⟩
theorem st_end {s : Sp} (h : St 3 s) : (∃ x y, s.L = [x, y] ∧ x.cls = 2) ∧ cntS s.L = 2 ∧ (partsS s.L).length = 3 ∧ (consL [advL [] (partsS s.L)]).length = 3 ∧ bldE [] (partsS s.L) = 0 ∧ wtS s.L ≤ 3 := by
  have hc := h.eq.cons (fun _ hx => (by cases hx))
  have h3 : (consL [advL [] (partsS s.L)]).length = 3 := by rw [hc.1]; exact tk_L
  have h4 := consL_len [advL [] (partsS s.L)]
  simp only [List.flatten_cons, List.flatten_nil, List.append_nil] at h4
  have h5 : (advL [] (partsS s.L)).length = (partsS s.L).length := List.length_map ..
  have h6 := parts_wt s.L
  have h7 := h.wt
  obtain ⟨x, y, e, k1, k2, k3⟩ := st_three h.good h.wt (by omega) h.fr (h.has (by omega))
  refine ⟨⟨x, y, e, k1⟩, ?_, by omega, h3, ?_, h.wt⟩
  · rw [cnt_busy, e, busyN_cons, busyN_cons, k2, k3]; rfl
  · exact (if_pos bfront_nil).trans (hc.2.trans (tk_E (Nat.le_refl 3)))
theorem comp_2 {s c : Sp} {E : Int} (h : St 3 s) (hr : (¬ SpGood s.f s.L ∧ E = 8 ∧ c = Sp.nil) ∨ (SpGood s.f s.L ∧ c.L.map Lv.pl = s.L.map Lv.pl ∧ ((¬ FrontOk [⟨2, 0, 0⟩] ∧ E = 4 ∧ c.f = s.f) ∨ (FrontOk [⟨2, 0, 0⟩] ∧ ¬ LaterF [⟨2, 0, 0⟩] s.f ∧ E = 1 ∧ c.f = s.f) ∨ (FrontOk [⟨2, 0, 0⟩] ∧ LaterF [⟨2, 0, 0⟩] s.f ∧ E = 0 ∧ c.f = [⟨2, 0, 0⟩])))) :
    E = 0 ∧ c.f = [⟨2, 0, 0⟩] ∧ SpGood [⟨2, 0, 0⟩] c.L ∧ consL [advL [⟨2, 0, 0⟩] (partsS c.L)] = [(bk2 0, (1 : Int)), (bk2 1, 1), (bk2 2, 1)] ∧ bldE [⟨2, 0, 0⟩] (partsS c.L) = 0 ∧ wtS c.L ≤ 3 := by
  rcases hr with ⟨h1, _⟩ | ⟨_, hpl, h2⟩
  · exact absurd (by rw [h.f]; exact h.good) h1
  have hlf : LaterF [⟨2, 0, 0⟩] s.f := .inl h.f
  rcases h2 with ⟨h1, _⟩ | ⟨_, h1, _⟩ | ⟨_, _, hE, hf⟩
  · exact absurd front_2 h1
  · exact absurd hlf h1
  have hpp := pl_parts hpl
  have hg := pl_good hpl.symm (good_later h.good front_2 (.inl rfl))
  have he : EqS [⟨2, 0, 0⟩] (partsS c.L) (tk 3) := (EqS.of_p hg.chk hpp.1).trans (h.eq.later (fun _ hx => (by cases hx)) (.inl rfl))
  have hc := he.cons front_2.right
  exact ⟨hE, hf, hg, hc.1.trans tk_L2.1, (if_pos front_2).trans (hc.2.trans tk_L2.2), by rw [hpp.2.2.1]; exact h.wt⟩
set_option maxRecDepth 100000 in
set_option maxHeartbeats 12800000 in
theorem slives_true (w : World) : Calls Tryz.prog 12 #[] w fun e w' => e = .returned (.bool true) ∧ Below w.heap.size w w' := by
  have y1 := fun n W => Lib.hid (sone_any n W)
  obtain ⟨V, hV, bV, hsV, oV⟩ := spbox w Sp.nil
  have H := Lib.hid (And.intro (⟨⟨oV, sp_nil_in _ _, sp_nil_ok, sp_nil_lo _⟩, st_zero⟩ : InLv w.heap.size 0 Sp.nil V) bV)
  dsimp only [Sp.nil, List.length_nil] at hV
  clear bV hsV oV
  go_enter Tryz.func12, Tryz.ntmps12
  go_upto_region 2 with fail
  rw [← hV]
  clear hV
  go_wp2_with fail
  go_loopw [2] (fun v wr => ∃ (k : Nat) (s : Sp), v = .int .i64 (k : Int) ∧ k ≤ 3 ∧ InLv w.heap.size k s wr ∧ Below w.heap.size w wr)
    (fun v _ => 3 - (intOf v).toNat)
  case atStart => exact ⟨0, Sp.nil, rfl, by omega, H.out.1, H.out.2⟩
  case round =>
    obtain ⟨k, s, rfl, hk, hin, hb⟩ := hrel
    by_cases hlt : k < 3
    · obtain ⟨d0, d1⟩ := own2 hin.box.own
      go_upto_region 5 with fail
      go_cut [3, 4] (fun s3 s4 wx => ∃ (Q : Nat) (s' : Sp), s3 = .pointer (some ⟨Q, 0, none⟩) ∧ s4 = .int .i64 0 ∧ St (k + 1) s' ∧ SpIn wx wx.heap.size s' ∧ SpOk s' ∧ SpLo (w.heap.size + 1) s' ∧ Own wx Q 25 s'.cells ∧ Own wx w.heap.size 25 s.cells ∧ Below w.heap.size w wx)
      case first =>
        have HS := Lib.hid (fun W (h : Bw _ W) => own2 (hin.box.own.past h hin.box.own.inside))
        have hself := Bw.self wr
        have hinX := Lib.hid (fun X (h : Bw wr X) => (⟨hin.box.keep h, hin.st⟩ : InLv w.heap.size k s X))
        have hPr := hin.box.own.inside
        have HI := Lib.hid hin
        have HB := Lib.hid hb
        clear hin
        go_region_held3 (fun w' => Bw wr w' ∧ (w'.cell? ⟨w.heap.size, 0, none⟩ = some (.slice s.sA s.f.length s.sc) ∧ w'.cell? ⟨w.heap.size, 1, none⟩ = some (.slice s.lA s.L.length s.lc)))
          ((refine (fun h => And.intro h (HS.out _ h)) ?_; repeat (first | with_reducible exact hb2 | with_reducible exact hb1 | with_reducible exact hself | with_reducible refine Bw.set ?_ (by first | exact Nat.le_refl _ | exact hz1 | exact Nat.le_succ_of_le hz1) _ | with_reducible refine Bw.more ?_ _ | with_reducible refine Bw.drew ?_)))
          (first | (go_at_call 33; refine (y1 _ _).out.mono ?_; rintro _ w1 ⟨G, Hh, rfl, hu1, b1⟩; have hb1 : Bw wr w1 := Bw.call (by repeat (first | with_reducible exact hself | with_reducible refine Bw.more ?_ _ | with_reducible refine Bw.drew ?_)) b1; have hz1 : wr.heap.size ≤ w1.heap.size := hb1.size; (try (have oz1 : Own w1 wr.heap.size 25 [.slice none 0 0, .slice none 0 0] := (Own.past (by first | exact Own.made _ _ [.slice none 0 0, .slice none 0 0] | exact own_drewKS (Own.made _ _ [.slice none 0 0, .slice none 0 0])) b1 (by simp))))) | (go_at_call 6; refine (ins_lv (G := G) (H := Hh) (hinX.out _ (by repeat (first | with_reducible exact hb1 | with_reducible refine Bw.more ?_ _ | with_reducible refine Bw.drew ?_))) hlt (by first | exact ul_one hu1 (Bw.self _) | exact ul_more (ul_one hu1 (Bw.self _)) _ | simpa using ul_one hu1 ((Bw.self _).more (.cells #[.slice none 0 0, .slice none 0 0] 25)))).mono ?_; rintro _ w2 ⟨s', rfl, st2, i2, o2, lo2, b2⟩; have hb2 : Bw wr w2 := Bw.call (by repeat (first | with_reducible exact hb1 | with_reducible refine Bw.more ?_ _ | with_reducible refine Bw.drew ?_)) b2; (try (have oz : Own w2 wr.heap.size 25 [.slice none 0 0, .slice none 0 0] := Own.past (Own.more oz1 _) b2 (by have := oz1.inside; simp; omega); obtain ⟨e0, e1⟩ := own2 oz; have f0 := oz.open_ 0; have f1 := oz.open_ 1)); (try (have oz : Own w2 w1.heap.size 25 [.slice none 0 0, .slice none 0 0] := Own.past (Own.more (Own.made w1 25 [.slice none 0 0, .slice none 0 0]) _) b2 (by simp <;> omega); obtain ⟨e0, e1⟩ := own2 oz; have f0 := oz.open_ 0; have f1 := oz.open_ 1)); (try (have oz : Own w2 (w1.heap.size + 1) 25 [.slice none 0 0, .slice none 0 0] := Own.past (by simpa using Own.made (w1.alloc _) 25 [.slice none 0 0, .slice none 0 0]) b2 (by simp); obtain ⟨e0, e1⟩ := own2 oz; have f0 := oz.open_ 0; have f1 := oz.open_ 1))))
        all_goals
          go_wp2_with fail
          go_meet
          first
          | exact mid_new HI.out HB.out hb2 st2 i2 o2 lo2 (by simp <;> omega)
          | exact mid_set HI.out HB.out hb2 st2 i2 o2 lo2 (by first | exact Nat.le_refl _ | exact hz1 | exact Nat.le_succ_of_le hz1) (by simp <;> omega) oz
      case rest =>
        obtain ⟨Q, s', rfl, rfl, st2, i2, o2, lo2, oQ, oP, hbx⟩ := hcut
        obtain ⟨g0, g1⟩ := own2 oQ
        obtain ⟨d0, d1⟩ := own2 oP
        have f0 := oP.open_ 0
        have f1 := oP.open_ 1
        have hX := (oP.set_ 0 (.slice s'.sA s'.f.length s'.sc)).set_ 1 (.slice s'.lA s'.L.length s'.lc)
        have HX := Lib.hid (And.intro (⟨⟨hX, sp_kept i2 lo2 (kept_two (P := w.heap.size) (.slice s'.sA s'.f.length s'.sc) (.slice s'.lA s'.L.length s'.lc)), o2, lo2⟩, st2⟩ : InLv w.heap.size (k + 1) s' _) (below_two hbx (Nat.le_refl _) (P := w.heap.size) (.slice s'.sA s'.f.length s'.sc) (.slice s'.lA s'.L.length s'.lc)))
        clear st2 i2 o2 lo2 oQ oP hbx hX hin hb
        go_wp2_with fail
        go_roundw
        case rel => exact ⟨k + 1, s', by go_num, by omega, HX.out.1, HX.out.2⟩
        case measure => simp [intOf]; omega
    · obtain rfl : k = 3 := by omega
      obtain ⟨⟨x, y, hL, hx2⟩, hcnt, hprt, hlen, hbld, hw3⟩ := st_end hin.st
      have hsf := hin.st.f
      have hgd : SpGood s.f s.L := by rw [hsf]; exact hin.st.good
      have y2 := Lib.hid (size_any s _ hin.box.in_ hin.box.ok (by omega))
      rw [show s.val = .agg #[.slice s.sA s.f.length s.sc, .slice s.lA s.L.length s.lc] from rfl] at y2
      obtain ⟨d0, d1⟩ := own2 hin.box.own
      have HR := Lib.hid (And.intro hin hb)
      have HF := Lib.hid (And.intro hL (And.intro hx2 (And.intro hcnt (And.intro hprt (And.intro hlen (And.intro hbld (And.intro hsf hgd)))))))
      clear hin hb hL hx2 hcnt hprt hlen hbld hsf hgd
      go_wp2_with fail
      refine y2.out.mono ?_
      rintro _ w2 ⟨n2, k2, e2, rfl, r2, b2⟩
      obtain ⟨rfl, rfl, rfl⟩ : n2 = 2 ∧ k2 = 3 ∧ e2 = 0 := by
        rcases r2 with ⟨h, _⟩ | ⟨_, h1, h2, h3⟩
        · exact absurd HF.out.2.2.2.2.2.2.2 h
        · rw [HF.out.2.2.1] at h1; rw [HF.out.2.2.2.1] at h2; exact ⟨h1, h2, h3⟩
      have bx2 := HR.out.1.box.keep b2
      have H2 := Lib.hid (And.intro bx2 (belows HR.out.2 b2))
      have y3 := Lib.hid (all_any s w2 bx2.in_ bx2.ok (by have := HF.out.2.2.2.1; omega))
      rw [show s.val = .agg #[.slice s.sA s.f.length s.sc, .slice s.lA s.L.length s.lc] from rfl] at y3
      clear d0 d1
      obtain ⟨d0, d1⟩ := own2 bx2.own
      clear r2 b2 bx2 y2
      go_wp2_with fail
      refine y3.out.mono ?_
      rintro _ w3 ⟨ba, ea, rfl, ra, ia, oa, _, b3⟩
      have hra : ea = 0 ∧ ba.l.length = 3 := by
        rcases ra with ⟨h, _⟩ | ⟨_, h1, h2, _⟩
        · exact absurd HF.out.2.2.2.2.2.2.2 h
        · rw [HF.out.2.2.2.2.2.2.1] at h1 h2
          have h3 : ea = 0 := h1.trans HF.out.2.2.2.2.2.1
          have h4 := congrArg List.length (h2 h3)
          rw [List.length_map, HF.out.2.2.2.2.1] at h4
          exact ⟨h3, h4⟩
      obtain ⟨rfl, hal⟩ := hra
      have bx3 := H2.out.1.keep b3
      obtain ⟨V4, hV4, hs4, bb4, o4⟩ := boxd w3 [.int .u64 2, .int .u64 0, .int .u64 0] 48
      have bx4 := bx3.keep bb4
      have ht4 : Times V4 V4.heap.size (some ⟨w3.heap.size, 0, none⟩) [⟨2, 0, 0⟩] := by rw [hV4]; exact times_made w3 ⟨2, 0, 0⟩
      have y4 := Lib.hid (compact_any s (some ⟨w3.heap.size, 0, none⟩) 1 [⟨2, 0, 0⟩] V4 bx4.in_ bx4.ok ht4 ⟨by simp, by simp, by unfold maxLen; omega⟩ (by omega))
      rw [show s.val = .agg #[.slice s.sA s.f.length s.sc, .slice s.lA s.L.length s.lc] from rfl] at y4
      have H4 := Lib.hid (And.intro bx4 (belows H2.out.2 (belows b3 bb4)))
      clear d0 d1
      obtain ⟨d0, d1⟩ := own2 bx3.own
      clear ra ia oa b3 bb4 bx3 bx4 ht4 o4 hs4 y3
      go_wp2_with fail
      rw [← hV4]
      clear hV4
      refine y4.out.mono ?_
      rintro _ w5 ⟨sc, Ec, rfl, rc, ic, oc, _, b5⟩
      obtain ⟨rfl, hcf, hcg, hcl, hcb, hcw⟩ := comp_2 HR.out.1.st rc
      obtain ⟨V6, hV6, bb6, hs6, o6⟩ := spbox w5 sc
      have hpw := parts_wt sc.L
      have y5 := Lib.hid (all_any sc V6 (ic.keep bb6) oc (by omega))
      rw [show sc.val = .agg #[.slice sc.sA sc.f.length sc.sc, .slice sc.lA sc.L.length sc.lc] from rfl] at y5 ⊢
      have H6 := Lib.hid (And.intro (H4.out.1.keep (belows b5 bb6)) (And.intro (belows H4.out.2 (belows b5 bb6)) (And.intro (ic.keep bb6) (And.intro oc (And.intro o6 (And.intro hcf (And.intro hcg (And.intro hcl (And.intro hcb hcw)))))))))
      clear d0 d1
      obtain ⟨g0, g1⟩ := own2 o6
      clear rc ic oc b5 bb6 hs6 o6 hcf hcg hcl hcb y4
      go_upto_region 12 with fail
      rw [← hV6]
      clear hV6
      go_wp2_with fail
      refine y5.out.mono ?_
      rintro _ w7 ⟨bm, em, rfl, rm, im, om, _, b7⟩
      have hrm : em = 0 ∧ bm.l.map Up.p = [(bk2 0, (1 : Int)), (bk2 1, 1), (bk2 2, 1)] := by
        rw [H6.out.2.2.2.2.2.1] at rm
        rcases rm with ⟨h, _⟩ | ⟨_, h1, h2, _⟩
        · exact absurd H6.out.2.2.2.2.2.2.1 h
        · have h3 : em = 0 := h1.trans H6.out.2.2.2.2.2.2.2.2.1
          exact ⟨h3, (h2 h3).trans H6.out.2.2.2.2.2.2.2.1⟩
      obtain ⟨rfl, hmp⟩ := hrm
      have hob7 := H6.out.2.2.2.2.1.past b7 H6.out.2.2.2.2.1.inside
      have y6 := Lib.hid (compact_any sc none 0 [] w7 (H6.out.2.2.1.keep b7) H6.out.2.2.2.1 Times.nil_ ts_nil (by omega))
      rw [show sc.val = .agg #[.slice sc.sA sc.f.length sc.sc, .slice sc.lA sc.L.length sc.lc] from rfl] at y6
      have H7 := Lib.hid (And.intro (H6.out.1.keep b7) (And.intro (belows H6.out.2.1 b7) (And.intro im hmp)))
      clear g0 g1
      obtain ⟨g0, g1⟩ := own2 hob7
      clear rm im om b7 hmp hob7 y5
      go_wp2_with fail
      refine y6.out.mono ?_
      rintro _ w8 ⟨sd, Ed, rfl, rd, _, _, _, b8⟩
      have hEd : Ed = 1 := by
        rw [H6.out.2.2.2.2.2.1] at rd
        rcases rd with ⟨h, _⟩ | ⟨_, _, h2⟩
        · exact absurd H6.out.2.2.2.2.2.2.1 h
        · rcases h2 with ⟨h, _⟩ | ⟨_, _, h, _⟩ | ⟨_, h, _⟩
          · exact absurd bfront_nil h
          · exact h
          · rcases h with h | ⟨h, _⟩
            · cases h
            · exact absurd rfl h
      subst hEd
      obtain ⟨V9, hV9, bb9, hs9, _⟩ := spbox w8 sd
      have b89 := belows b8 bb9
      have bx9 := H7.out.1.keep b89
      have im9 := H7.out.2.2.1.keep b89
      have H9 := Lib.hid (belows H7.out.2.1 b89)
      obtain ⟨d0, d1⟩ := own2 bx9.own
      have hL2 : s.L.length = 2 := by rw [HF.out.1]; rfl
      obtain ⟨b, o, hA, _, hc⟩ := lies_lv bx9.in_.lev.head (by omega)
      have c0 := hc 0 x (by rw [HF.out.1]; rfl) 0 (.int .i64 x.cls) rfl
      rw [HF.out.2.1, show o + 0 * 10 + 0 = o by omega] at c0
      have hml : bm.l.length = 3 := by
        have := congrArg List.length H7.out.2.2.2
        rw [List.length_map] at this
        exact this
      obtain ⟨b', o', hA', _, hc'⟩ := im9.ups.head (by omega)
      obtain ⟨u, hu, hue⟩ : ∃ u, bm.l[0]? = some u ∧ u.t.e = 2 := by
        have h1 := congrArg (fun l => l[0]?) H7.out.2.2.2
        try dsimp only at h1
        rw [List.getElem?_map] at h1
        cases h2 : bm.l[0]? with
        | none => rw [h2] at h1; cases h1
        | some u =>
          rw [h2] at h1
          refine ⟨u, rfl, ?_⟩
          have h3 : u.p = (bk2 0, (1 : Int)) := Option.some.inj h1
          exact congrArg (fun q : Uk × Int => q.1.t.e) h3
      have e0 := hc' 0 u hu 2 (.int .u64 (u.t.e : Int)) rfl
      rw [hue, show o' + 0 * 6 + 2 = o' + 2 by omega] at e0
      rw [show sd.val = .agg #[.slice sd.sA sd.f.length sd.sc, .slice sd.lA sd.L.length sd.lc] from rfl]
      clear rd b8 bb9 hs9 b89 bx9 im9 hc hc' hu hue g0 g1 y6
      go_upto_region 14 with fail
      rw [← hV9]
      clear hV9
      go_wp2_with fail
      go_ret
      exact ⟨rfl, H9.out⟩
end Go.Proofs.YtgalemkjgaiphaaGreat
