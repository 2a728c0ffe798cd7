/- Part 14 of the texts on which SpineOwn rests: facts and contracts. -/
import Derived.Test.YtgalemkjgaiphaaGreatSpineOwnM13
import Derived.Handy
import Derived.Tactics2
import Derived.Orders
import Derived.RegionTactic
import Derived.Deep.Cut
namespace Go.Proofs.YtgalemkjgaiphaaGreat
open Go Go.RowKit

def CollSO (f : List Tm) (l : List Up) (w : World) (x : Ending) (w' : World) : Prop :=
  ∃ b : Bt, x = .returned (.tuple #[.slice b.uA b.l.length b.uc, .int .i64 (bldE f l)]) ∧ (bldE f l = 0 → FrontOk f ∧ b.f = f ∧ b.l.map Up.p = consL [advL f l]) ∧ (bldE f l ≠ 0 → b = Bt.nil) ∧ BtIn w' w'.heap.size b ∧ BtOk b ∧ BtLo w.heap.size b ∧ Below w.heap.size w w' ∧ LOpnC w' w.heap.size b.uA b.l
set_option maxRecDepth 100000 in
set_option maxHeartbeats 6400000 in
theorem collect_allO (s : Sp) (w : World) (hs : SpIn w w.heap.size s) (os : SpOk s) (hg : SpGood s.f s.L) (hn : (partsS s.L).length ≤ 1099511627776) :
    Calls Tryz.prog 38 #[s.val, .func (.func 39) #[] #[]] w (CollSO s.f (partsS s.L) w) := by
  obtain ⟨i0, hi, hz0, hz1, hz2⟩ := info_parts infoUl
  have HI := Lib.hid (And.intro Tryz.underlying26 (And.intro hi (And.intro hz0 (And.intro hz1 hz2))))
  obtain ⟨V, hV, hvb, hvs, hvo⟩ := spbox w s
  have hin := hs.keep hvb
  have H := Lib.hid (And.intro hin (And.intro os (And.intro hvb (And.intro hvo (And.intro hg hn)))))
  have hnL := os.n
  rw [show s.val = .agg #[.slice s.sA s.f.length s.sc, .slice s.lA s.L.length s.lc] from rfl]
  have hX := Lib.hid (fun W (hb : Below V.heap.size V W) => own2 (hvo.past hb hvo.inside))
  obtain ⟨d0, d1⟩ := own2 hvo
  have h0 := World.ownsRow_nil V V.heap.size 37 1
  clear hs os hvb hvs hvo hin hi hz0 hz1 hz2 hg hn
  go_enter Tryz.func38, Tryz.ntmps38
  go_upto_region 1 with fail
  rw [← hV]
  clear hV
  go_wp2_with fail
  go_loopw [6, 16] (fun v i wr => ∃ k : Nat, i = .int .i64 (k : Int) ∧ k ≤ s.L.length ∧ ClI V.heap.size (listsS (s.L.take k)) v wr ∧ Below V.heap.size V wr)
    (fun _ i _ => s.L.length - (intOf i).toNat)
  case atStart => exact ⟨0, rfl, by omega, ⟨h0⟩, Below.refl _ _⟩
  case round =>
    obtain ⟨k, rfl, hk, hown, hb⟩ := hrel
    by_cases hlt : k < s.L.length
    · obtain ⟨l, hl⟩ : ∃ l, s.L[k]? = some l := ⟨_, List.getElem?_eq_getElem hlt⟩
      obtain ⟨b, o, hA, hB, hc⟩ := lies_lv H.out.1.lev.head (by omega)
      obtain ⟨c0, c1, c2, c3, c4, c5, c6, c7, c8, c9⟩ := lv_ten fun j u hj => (hb.cell (p := ⟨b, o + k * 10 + j, none⟩) hB).trans (hc k l hl j u hj)
      have hlm := List.mem_of_getElem? hl
      have hli := ((H.out.1.lev.each_ l hlm).past hb (Nat.le_refl _)).wide hb.size
      have hlo := H.out.2.1.each_ l hlm
      obtain ⟨V5, hV5, hb5, hs5, ho5⟩ := lvbox wr l
      obtain ⟨e0, e1, e2, e3, e4, e5, e6, e7, e8, e9⟩ := own10 ho5
      have u1 := Lib.hid (parts_anyS l s.f V5 (hli.keep hb5) hlo (H.out.2.2.2.2.1.each l hlm) (H.out.2.2.2.2.1.pos l hlm))
      rw [show l.val = .agg #[.int .i64 l.cls, .bool l.busy, .slice l.b.sA l.b.f.length l.b.sc, .slice l.b.uA l.b.l.length l.b.uc, .slice l.m.aA l.m.a.length l.m.ac, .slice l.m.bA l.m.b.length l.m.bc, .int .i64 l.m.i, .int .i64 l.m.j, .slice l.m.sA l.m.f.length l.m.sc, .slice l.m.oA l.m.o.length l.m.oc] from rfl] at u1
      have hpl := partsR_len l
      have hll := listsS_len (s.L.take k)
      rw [List.length_take, Nat.min_eq_left (by omega)] at hll
      have htk := listsS_take hl
      have HA := Lib.hid hA
      have HK := Lib.hid (And.intro hown (And.intro hb (And.intro hb5 htk)))
      have q0 : (0 : Int) ≤ (k : Int) := by omega
      have q1 : (k : Int) < (s.L.length : Int) := by omega
      obtain ⟨d0, d1⟩ := hX.out wr hb
      clear hlm hli hlo hl hown hb hb5 htk hc
      go_upto_region 5 with fail
      rw [← hV5]
      clear hV5
      go_wp2_with fail
      refine u1.out.mono ?_
      rintro _ w1 ⟨G, rfl, hul, hG, hb1⟩
      have hpt := pt_start HK.out.1 (belows HK.out.2.2.1 hb1) hG HK.out.2.2.1.size hul (partsR_pos l)
      have hb1' := belows HK.out.2.1 (belows HK.out.2.2.1 hb1)
      have hown1 := cl_keep HK.out.1 (belows HK.out.2.2.1 hb1)
      have H1 := Lib.hid (And.intro hpt (And.intro hb1' hown1))
      have hpp := partsR_pos l
      clear hpt hb1' hown1 hul hG hb1
      clear u1 e0 e1 e2 e3 e4 e5 e6 e7 e8 e9 c0 c1 c2 c3 c4 c5 c6 c7 c8 c9 d0 d1
      go_wp2_with fail
      go_loopw [6, 23] (fun v i wi => ∃ j : Nat, i = .int .i64 (j : Int) ∧ j ≤ (partsR l).length ∧ ClI V.heap.size (listsS (s.L.take k) ++ (partsR l).take j) v wi ∧ PtI v G (partsR l) wi ∧ Below V.heap.size V wi)
        (fun _ i _ => (partsR l).length - (intOf i).toNat)
      case atStart => exact ⟨0, rfl, by omega, by simpa using H1.out.2.2, H1.out.1, H1.out.2.1⟩
      case round =>
        obtain ⟨j, rfl, hj, hown2, hp2, hb2⟩ := hrel
        by_cases hlt2 : j < (partsR l).length
        · obtain ⟨r, hr⟩ : ∃ r, (partsR l)[j]? = some r := ⟨_, List.getElem?_eq_getElem hlt2⟩
          have z0 := hp2.cells j r hr
          have z1 := z0
          rw [show j = 0 + j by omega] at z1
          have q2 : (0 : Int) ≤ (j : Int) := by omega
          have q3 : (j : Int) < ((partsR l).length : Int) := by omega
          have htj : (partsR l).take (j + 1) = (partsR l).take j ++ [r] := by rw [List.take_add_one, hr]; rfl
          have hlj : (listsS (s.L.take k) ++ (partsR l).take j).length ≤ 3 * k + 3 := by rw [List.length_append, List.length_take]; omega
          generalize hLs : listsS (s.L.take k) ++ (partsR l).take j = Ls at hown2 hlj
          have H2 := Lib.hid (And.intro hown2 (And.intro hp2 (And.intro hb2 (And.intro hLs htj))))
          clear hown2 hp2 hb2 hr hLs htj
          go_wp2_with fail
          refine (all1_any _ _).mono ?_
          rintro _ w2 ⟨rfl, b2⟩
          have hown3 := cl_keep H2.out.1 b2
          have hp3 := H2.out.2.1.keep b2
          have hb3 := belows H2.out.2.2.1 b2
          have H3 := Lib.hid (And.intro hown3 (And.intro hp3 hb3))
          clear b2 hown3 hp3 hb3 z0 z1
          go_wp2_with (at_builtin; refine wpList_push _ rfl _ _ 26 rfl V.heap.size 37 i0 _ 1 24 HI.out.1 HI.out.2.1 HI.out.2.2.1 HI.out.2.2.2.1 HI.out.2.2.2.2 rfl (by decide) _ _ _ rfl H3.out.1.own #[.slice r.A r.l.length r.c] rfl rfl ?k1 ?k2 ?k3 ?k4 ?_)
          case k1 => rfl
          case k2 => unfold maxLen; omega
          case k3 => omega
          case k4 => exact H3.out.2.2.size
          intro v4 w4 ho4 hb4 hv4 hg4
          have hp4 := H3.out.2.1.push hg4 hv4
          have hb5 := H3.out.2.2.trans hb4
          have ho5 : ClI V.heap.size (Ls ++ [r]) v4 w4 := cl_push ho4
          rw [← H2.out.2.2.2.1, List.append_assoc, ← H2.out.2.2.2.2] at ho5
          have H4 := Lib.hid (And.intro ho5 (And.intro hp4 hb5))
          clear ho4 hb4 hv4 hg4 hp4 hb5 ho5
          go_wp2_with fail
          go_roundw
          case rel => exact ⟨j + 1, by go_num, by omega, H4.out.1, H4.out.2.1, H4.out.2.2⟩
          case measure => simp [intOf]; omega
        · have hj2 : j = (partsR l).length := by omega
          subst hj2
          rw [List.take_length, ← HK.out.2.2.2] at hown2
          have H2 := Lib.hid (And.intro hown2 hb2)
          clear hown2 hb2 hp2
          go_wp2_with fail
          clear hA
          rw [← HA.out]
          go_roundw
          case rel =>
            exact ⟨k + 1, by go_num, by omega, H2.out.1, H2.out.2⟩
          case measure => simp [intOf]; omega
    · have hk2 : k = s.L.length := by omega
      subst hk2
      rw [List.take_length] at hown
      have hll := listsS_len s.L
      obtain ⟨A7, k7, hv7, _, _, hl7⟩ := lies_of_own (l := listsS s.L) (by decide) rwcell_len rfl hown.own
      subst hv7
      obtain ⟨d0, d1⟩ := hX.out wr hb
      have hul : ULs wr wr.heap.size A7 (listsS s.L) := ⟨hl7, fun r hr => by
        obtain ⟨l, hl, hrl⟩ := List.mem_flatMap.1 hr
        exact ((partsR_in (H.out.1.lev.each_ l hl) (H.out.2.1.each_ l hl) r hrl).past hb (Nat.le_refl _)).wide hb.size⟩
      have u1 := Lib.hid (build_anyO s.sA s.sc s.f A7 k7 (listsS s.L) wr ((H.out.1.since.past hb (Nat.le_refl _)).wide hb.size) H.out.2.1.f hul (fun r hr => by
        obtain ⟨l, hl, hrl⟩ := List.mem_flatMap.1 hr
        exact partsR_uok (H.out.2.1.each_ l hl) r hrl) (by rw [listsS_flat]; exact H.out.2.2.2.2.2) (by omega))
      rw [listsS_flat] at u1
      have HH := Lib.hid hb
      clear hb hown hl7 hul
      go_wp2_with fail
      refine u1.out.mono ?_
      rintro _ w1 ⟨bt, rfl, h1, h2, h3, h4, h5, h6, h7⟩
      have hbx := HH.out
      have H1 := Lib.hid (And.intro h1 (And.intro h2 (And.intro h3 (And.intro h4 (And.intro h5 (And.intro h6 h7))))))
      clear h1 h2 h3 h4 h5 h6 h7 u1
      rw [show bt.val = .agg #[.slice bt.sA bt.f.length bt.sc, .slice bt.uA bt.l.length bt.uc] from rfl]
      go_wp2_with fail
      exact bodyPost_ret (v := .tuple #[.slice bt.uA bt.l.length bt.uc, .int .i64 (bldE s.f (partsS s.L))]) (by simp [results, Tryz.results38, go_sem]) rfl ⟨bt, rfl, H1.out.1, H1.out.2.1, H1.out.2.2.1.keep ((Below.refl _ _).alloc (Nat.le_refl _) _), H1.out.2.2.2.1, H1.out.2.2.2.2.1.mono (belows H.out.2.2.1 hbx).size, belows (belows H.out.2.2.1 (belows hbx H1.out.2.2.2.2.2.1)) ((Below.refl _ _).alloc (Nat.le_refl _) _), (H1.out.2.2.2.2.2.2.past ((Below.refl _ _).alloc (Nat.le_refl _) _)).low (belows H.out.2.2.1 hbx).size⟩
end Go.Proofs.YtgalemkjgaiphaaGreat
namespace Go.Proofs.YtgalemkjgaiphaaGreat
open Go Go.RowKit

def AllS (s : Sp) (w : World) (x : Ending) (w' : World) : Prop :=
  ∃ (b : Bt) (e : Int), x = .returned (.tuple #[.slice b.uA b.l.length b.uc, .int .i64 e]) ∧ ((¬ SpGood s.f s.L ∧ e = 8 ∧ b = Bt.nil) ∨ (SpGood s.f s.L ∧ e = bldE s.f (partsS s.L) ∧ (e = 0 → b.l.map Up.p = consL [advL s.f (partsS s.L)]) ∧ (e ≠ 0 → b = Bt.nil))) ∧ BtIn w' w'.heap.size b ∧ BtOk b ∧ BtLo w.heap.size b ∧ Below w.heap.size w w'
set_option maxRecDepth 100000 in
set_option maxHeartbeats 6400000 in
theorem all_any (s : Sp) (w : World) (hs : SpIn w w.heap.size s) (os : SpOk s) (hn : (partsS s.L).length ≤ 1099511627776) :
    Calls Tryz.prog 14 #[s.val] w (AllS s w) := by
  obtain ⟨V, hV, hvb, hvs, hvo⟩ := spbox w s
  have hin := hs.keep hvb
  have u1 := Lib.hid (scheck_any s V hin os)
  have H := Lib.hid (And.intro hin (And.intro os (And.intro hvb (And.intro hvo hn))))
  obtain ⟨d0, d1⟩ := own2 hvo
  rw [show s.val = .agg #[.slice s.sA s.f.length s.sc, .slice s.lA s.L.length s.lc] from rfl] at u1 ⊢
  have HP := Lib.hid (show ∀ (b : Bt) e w', ((¬ SpGood s.f s.L ∧ e = 8 ∧ b = Bt.nil) ∨ (SpGood s.f s.L ∧ e = bldE s.f (partsS s.L) ∧ (e = 0 → b.l.map Up.p = consL [advL s.f (partsS s.L)]) ∧ (e ≠ 0 → b = Bt.nil))) → BtIn w' w'.heap.size b → BtOk b → BtLo w.heap.size b → Below w.heap.size w w' → AllS s w (.returned (.tuple #[.slice b.uA b.l.length b.uc, .int .i64 e])) w' from fun b e w' h1 h2 h3 h4 h5 => ⟨b, e, rfl, h1, h2, h3, h4, h5⟩)
  clear hs os hvb hvs hvo hin hn
  go_enter Tryz.func14, Tryz.ntmps14
  go_upto_region 1 with fail
  rw [← hV]
  clear hV
  go_wp2_with fail
  refine u1.out.mono ?_
  rintro _ w1 ⟨e, rfl, he, b1⟩
  have H1 := Lib.hid (And.intro b1 he)
  clear u1
  obtain ⟨d0, d1⟩ := own2 (H.out.2.2.2.1.past b1 H.out.2.2.2.1.inside)
  by_cases h0 : e = 0
  · have hg : SpGood s.f s.L := by
      rcases he with ⟨h, _⟩ | ⟨_, h⟩
      · exact h
      · omega
    have u2 := Lib.hid (collect_all s w1 (H.out.1.keep b1) H.out.2.1 hg H.out.2.2.2.2)
    rw [show s.val = .agg #[.slice s.sA s.f.length s.sc, .slice s.lA s.L.length s.lc] from rfl] at u2
    have HG := Lib.hid hg
    have t1 : (e != 0) = false := by simp [h0]
    clear he b1 hg h0
    go_wp2_with fail
    refine u2.out.mono ?_
    rintro _ w2 ⟨b, rfl, h1, h2, h3, h4, h5, h6⟩
    have H2 := Lib.hid (And.intro h1 (And.intro h2 (And.intro h3 (And.intro h4 (And.intro h5 h6)))))
    clear h1 h2 h3 h4 h5 h6 u2
    go_wp2_with fail
    exact bodyPost_ret (v := .tuple #[.slice b.uA b.l.length b.uc, .int .i64 (bldE s.f (partsS s.L))]) (by simp [results, Tryz.results14, go_sem]) rfl (HP.out b _ _ (.inr ⟨HG.out, rfl, fun h => (H2.out.1 h).2.2, H2.out.2.1⟩) H2.out.2.2.1 H2.out.2.2.2.1 (H2.out.2.2.2.2.1.mono (belows H.out.2.2.1 H1.out.1).size) (belows H.out.2.2.1 (belows H1.out.1 H2.out.2.2.2.2.2)))
  · have hg : ¬ SpGood s.f s.L ∧ e = 8 := by
      rcases he with ⟨_, h⟩ | h
      · exact absurd h h0
      · exact h
    have t1 : (e != 0) = true := bne_iff_ne.2 h0
    have HG := Lib.hid hg
    clear he b1 hg h0
    go_wp2_with fail
    exact bodyPost_ret (v := .tuple #[.slice none 0 0, .int .i64 e]) (by simp [results, Tryz.results14, go_sem]) rfl (HP.out Bt.nil e _ (.inl ⟨HG.out.1, HG.out.2, rfl⟩) (bt_nil_in _ _) bt_nil_ok (bt_nil_lo _) (belows H.out.2.2.1 H1.out.1))
end Go.Proofs.YtgalemkjgaiphaaGreat
namespace Go.Proofs.YtgalemkjgaiphaaGreat
open Go Go.RowKit

def AllSO (s : Sp) (w : World) (x : Ending) (w' : World) : Prop :=
  ∃ (b : Bt) (e : Int), x = .returned (.tuple #[.slice b.uA b.l.length b.uc, .int .i64 e]) ∧ ((¬ SpGood s.f s.L ∧ e = 8 ∧ b = Bt.nil) ∨ (SpGood s.f s.L ∧ e = bldE s.f (partsS s.L) ∧ (e = 0 → b.l.map Up.p = consL [advL s.f (partsS s.L)]) ∧ (e ≠ 0 → b = Bt.nil))) ∧ BtIn w' w'.heap.size b ∧ BtOk b ∧ BtLo w.heap.size b ∧ Below w.heap.size w w' ∧ LOpnC w' w.heap.size b.uA b.l
set_option maxRecDepth 100000 in
set_option maxHeartbeats 6400000 in
theorem all_anyO (s : Sp) (w : World) (hs : SpIn w w.heap.size s) (os : SpOk s) (hn : (partsS s.L).length ≤ 1099511627776) :
    Calls Tryz.prog 14 #[s.val] w (AllSO s w) := by
  obtain ⟨V, hV, hvb, hvs, hvo⟩ := spbox w s
  have hin := hs.keep hvb
  have u1 := Lib.hid (scheck_any s V hin os)
  have H := Lib.hid (And.intro hin (And.intro os (And.intro hvb (And.intro hvo hn))))
  obtain ⟨d0, d1⟩ := own2 hvo
  rw [show s.val = .agg #[.slice s.sA s.f.length s.sc, .slice s.lA s.L.length s.lc] from rfl] at u1 ⊢
  have HP := Lib.hid (show ∀ (b : Bt) e w', ((¬ SpGood s.f s.L ∧ e = 8 ∧ b = Bt.nil) ∨ (SpGood s.f s.L ∧ e = bldE s.f (partsS s.L) ∧ (e = 0 → b.l.map Up.p = consL [advL s.f (partsS s.L)]) ∧ (e ≠ 0 → b = Bt.nil))) → BtIn w' w'.heap.size b → BtOk b → BtLo w.heap.size b → Below w.heap.size w w' → LOpnC w' w.heap.size b.uA b.l → AllSO s w (.returned (.tuple #[.slice b.uA b.l.length b.uc, .int .i64 e])) w' from fun b e w' h1 h2 h3 h4 h5 h6 => ⟨b, e, rfl, h1, h2, h3, h4, h5, h6⟩)
  clear hs os hvb hvs hvo hin hn
  go_enter Tryz.func14, Tryz.ntmps14
  go_upto_region 1 with fail
  rw [← hV]
  clear hV
  go_wp2_with fail
  refine u1.out.mono ?_
  rintro _ w1 ⟨e, rfl, he, b1⟩
  have H1 := Lib.hid (And.intro b1 he)
  clear u1
  obtain ⟨d0, d1⟩ := own2 (H.out.2.2.2.1.past b1 H.out.2.2.2.1.inside)
  by_cases h0 : e = 0
  · have hg : SpGood s.f s.L := by
      rcases he with ⟨h, _⟩ | ⟨_, h⟩
      · exact h
      · omega
    have u2 := Lib.hid (collect_allO s w1 (H.out.1.keep b1) H.out.2.1 hg H.out.2.2.2.2)
    rw [show s.val = .agg #[.slice s.sA s.f.length s.sc, .slice s.lA s.L.length s.lc] from rfl] at u2
    have HG := Lib.hid hg
    have t1 : (e != 0) = false := by simp [h0]
    clear he b1 hg h0
    go_wp2_with fail
    refine u2.out.mono ?_
    rintro _ w2 ⟨b, rfl, h1, h2, h3, h4, h5, h6, h7⟩
    have H2 := Lib.hid (And.intro h1 (And.intro h2 (And.intro h3 (And.intro h4 (And.intro h5 (And.intro h6 h7))))))
    clear h1 h2 h3 h4 h5 h6 h7 u2
    go_wp2_with fail
    exact bodyPost_ret (v := .tuple #[.slice b.uA b.l.length b.uc, .int .i64 (bldE s.f (partsS s.L))]) (by simp [results, Tryz.results14, go_sem]) rfl (HP.out b _ _ (.inr ⟨HG.out, rfl, fun h => (H2.out.1 h).2.2, H2.out.2.1⟩) H2.out.2.2.1 H2.out.2.2.2.1 (H2.out.2.2.2.2.1.mono (belows H.out.2.2.1 H1.out.1).size) (belows H.out.2.2.1 (belows H1.out.1 H2.out.2.2.2.2.2.1)) (H2.out.2.2.2.2.2.2.low (belows H.out.2.2.1 H1.out.1).size))
  · have hg : ¬ SpGood s.f s.L ∧ e = 8 := by
      rcases he with ⟨_, h⟩ | h
      · exact absurd h h0
      · exact h
    have t1 : (e != 0) = true := bne_iff_ne.2 h0
    have HG := Lib.hid hg
    clear he b1 hg h0
    go_wp2_with fail
    exact bodyPost_ret (v := .tuple #[.slice none 0 0, .int .i64 e]) (by simp [results, Tryz.results14, go_sem]) rfl (HP.out Bt.nil e _ (.inl ⟨HG.out.1, HG.out.2, rfl⟩) (bt_nil_in _ _) bt_nil_ok (bt_nil_lo _) (belows H.out.2.2.1 H1.out.1) (lopnC_nil _ _ _))
end Go.Proofs.YtgalemkjgaiphaaGreat
namespace Go.Proofs.YtgalemkjgaiphaaGreat
open Go Go.RowKit

end Go.Proofs.YtgalemkjgaiphaaGreat
namespace Go.Proofs.YtgalemkjgaiphaaGreat
open Go Go.RowKit

end Go.Proofs.YtgalemkjgaiphaaGreat
namespace Go.Proofs.YtgalemkjgaiphaaGreat
open Go Go.RowKit

end Go.Proofs.YtgalemkjgaiphaaGreat
namespace Go.Proofs.YtgalemkjgaiphaaGreat
open Go Go.RowKit

end Go.Proofs.YtgalemkjgaiphaaGreat
namespace Go.Proofs.YtgalemkjgaiphaaGreat
open Go Go.RowKit

def wideV (S : Int) : Value := .agg #[.int .i64 (S / 18446744073709551616), .int .u64 (loW S)]
end Go.Proofs.YtgalemkjgaiphaaGreat
namespace Go.Proofs.YtgalemkjgaiphaaGreat
open Go Go.RowKit

section
variable {α K : Type} {cmp : K → K → Int} {k : α → K}
end
def wcells (S : Int) : List Value := [.int .i64 (S / 18446744073709551616), .int .u64 (loW S)]
end Go.Proofs.YtgalemkjgaiphaaGreat
namespace Go.Proofs.YtgalemkjgaiphaaGreat
open Go Go.RowKit

set_option maxRecDepth 100000 in
set_option maxHeartbeats 1600000 in
theorem vcopy_any (A : Option Addr) (c : Nat) (l : List Vl) (w : World) (hl : Vals w w.heap.size A l) (hn : l.length ≤ 1099511627776) :
    Calls Tryz.prog 78 #[.slice A l.length c] w fun x w' => ∃ A' c', x = .returned (.slice A' l.length c') ∧ Vals w' w'.heap.size A' l ∧ Below w.heap.size w w' ∧ (∀ b o, A' = some ⟨b, o, none⟩ → w.heap.size ≤ b ∧ b < w'.heap.size) := by
  have hr0 := Lib.hid (show (w.alloc (.cells #[] 54)).ownsRow w.heap.size 54 3 (.slice (some ⟨w.heap.size, 0, none⟩) 0 0) 0 [] from World.ownsRow_made w #[] 0 (Nat.le_refl _) (Nat.zero_le _) rfl)
  have hv := Lib.hid (hl.past ((Below.refl _ w).alloc (Nat.le_refl _) (.cells #[] 54)) (Nat.le_refl _))
  clear hl
  go_enter Tryz.func78, Tryz.ntmps78
  go_wp2_with (at_builtin; refine wpList_append_vl _ rfl _ _ rfl w.heap.size _ _ _ rfl hr0.out w.heap.size A c l rfl hv.out ?m1 ?m2 ?m3)
  case m1 => omega
  case m2 => simp
  intro v' w' ho' hb'
  have hlt := ho'.lt
  obtain ⟨A', c', rfl, _, _, h3⟩ := vals_of_own (l := l) (n := 0 + l.length) (by omega) (by simpa using ho')
  have HA := Lib.hid (And.intro h3 (And.intro (((Below.refl _ w).alloc (Nat.le_refl _) (.cells #[] 54)).trans hb') (show ∀ b o, A' = some ⟨b, o, none⟩ → w.heap.size ≤ b ∧ b < w'.heap.size from fun b o e => by subst e; exact hlt b rfl)))
  clear ho' hb' h3 hlt
  go_wp2_with fail
  go_ret
  exact ⟨A', c', rfl, HA.out.1, HA.out.2.1, HA.out.2.2⟩
theorem own_zeroth {w : World} {P : Nat} {t : TypeId} {z0 z1 z2 z3 z4 z5 : Value} (h : Own w P t [z0, z1, z2, z3, z4, z5]) (f : Value) :
    ∃ X, X = w.setCell ⟨P, 0, none⟩ f ∧ Own X P t [f, z1, z2, z3, z4, z5] ∧ (∀ B u, Below B u w → B ≤ P → Below B u X) ∧ X.heap.size = w.heap.size ∧ (∀ b, b ≠ P → X.heap[b]? = w.heap[b]?) :=
  ⟨_, rfl, h.set_ 0 f, fun B u hb hB => hb.setCell (p := ⟨P, 0, none⟩) hB _, by simp [World.setCell], fun b hb => Below.heap_setCell w ⟨P, 0, none⟩ f b hb⟩
theorem own_first {w : World} {P : Nat} {t : TypeId} {z0 z1 z2 z3 z4 z5 : Value} (h : Own w P t [z0, z1, z2, z3, z4, z5]) (f : Value) :
    ∃ X, X = w.setCell ⟨P, 1, none⟩ f ∧ Own X P t [z0, f, z2, z3, z4, z5] ∧ (∀ B u, Below B u w → B ≤ P → Below B u X) ∧ X.heap.size = w.heap.size ∧ (∀ b, b ≠ P → X.heap[b]? = w.heap[b]?) :=
  ⟨_, rfl, h.set_ 1 f, fun B u hb hB => hb.setCell (p := ⟨P, 1, none⟩) hB _, by simp [World.setCell], fun b hb => Below.heap_setCell w ⟨P, 1, none⟩ f b hb⟩
theorem vals_but {w X : World} {P : Nat} {A : Option Addr} {l : List Vl} (h : Vals w w.heap.size A l) (hA : ∀ b o, A = some ⟨b, o, none⟩ → b ≠ P) (hs : X.heap.size = w.heap.size) (hX : ∀ b, b ≠ P → X.heap[b]? = w.heap[b]?) : Vals X X.heap.size A l := fun hp => by
  obtain ⟨b, o, e, hb, hc⟩ := h hp
  have hk : ∀ j, X.cell? ⟨b, j, none⟩ = w.cell? ⟨b, j, none⟩ := fun j => by unfold World.cell?; rw [hX b (hA b o e)]
  refine ⟨b, o, e, by omega, fun i v hi => ?_⟩
  obtain ⟨a0, a1, a2⟩ := hc i v hi
  exact ⟨(hk _).trans a0, (hk _).trans a1, (hk _).trans a2⟩
def Copied (l : List Up) (w : World) (x : Ending) (w' : World) : Prop :=
  ∃ A c, ∃ outL : List Up, x = .returned (.slice A outL.length c) ∧ outL.map Up.p = l.map Up.p ∧ Ups w' w'.heap.size A outL ∧ (∀ u ∈ outL, UOk u) ∧ Below w.heap.size w w'
def CopiedOwn (l : List Up) (w : World) (x : Ending) (w' : World) : Prop :=
  ∃ v, ∃ outL : List Up, x = .returned v ∧ outL.map Up.p = l.map Up.p ∧ w'.ownsRow w.heap.size 50 6 v outL.length (outL.flatMap Up.cells) ∧ (∀ u ∈ outL, UIn w' w'.heap.size u ∧ UOk u ∧ Far w.heap.size v w' u) ∧ Below w.heap.size w w'
theorem copy_snoc {l outL : List Up} {j : Nat} {u u' : Up} (h : l[j]? = some u) (hm : outL.map Up.p = (l.take j).map Up.p) (e : u'.p = u.p) : (outL ++ [u']).map Up.p = (l.take (j + 1)).map Up.p := by
  rw [List.take_add_one, h, List.map_append, List.map_append, hm]
  simp [e]
theorem infoUp' : (Tryz.prog.info? 50).map (fun i => (i.zero, i.size, i.bytes)) = some (some (.agg #[.slice none 0 0, .slice none 0 0, .int .u64 0, .int .u64 0, .int .u64 0, .int .i64 0]), 6, 80) := by kernel_rfl
set_option maxRecDepth 100000 in
set_option maxHeartbeats 6400000 in
theorem copyU_own (A : Option Addr) (c : Nat) (l : List Up) (w : World) (hl : Ups w w.heap.size A l) (hok : ∀ u ∈ l, UOk u) (h8 : ∀ u ∈ l, u.key.length ≤ 1099511627776 ∧ u.row.length ≤ 1099511627776) (hn : l.length ≤ 1099511627776) :
    Calls Tryz.prog 40 #[.slice A l.length c] w (CopiedOwn l w) := by
  obtain ⟨i0, hi, hz0, hz1, hz2⟩ := info_parts infoUp'
  have HI := Lib.hid (And.intro Tryz.underlying37 (And.intro hi (And.intro hz0 (And.intro hz1 hz2))))
  have HL := Lib.hid (And.intro hl (And.intro hok h8))
  clear hl hok h8 hi hz0 hz1 hz2
  go_enter Tryz.func40, Tryz.ntmps40
  go_wp2_with fail
  go_loopw [3, 8] (fun v3 v8 wr => ∃ (j : Nat) (outL : List Up), v8 = .int .i64 (j : Int) ∧ j ≤ l.length ∧ outL.length = j ∧ wr.ownsRow w.heap.size 50 6 v3 outL.length (outL.flatMap Up.cells) ∧ (∀ u ∈ outL, UIn wr wr.heap.size u ∧ UOk u ∧ Far w.heap.size v3 wr u) ∧ outL.map Up.p = (l.take j).map Up.p ∧ Below w.heap.size w wr)
    (fun _ v8 _ => l.length - (intOf v8).toNat)
  case atStart => exact ⟨0, [], rfl, by omega, rfl, World.ownsRow_nil _ _ _ _, fun u hu => (by cases hu), rfl, Below.refl _ _⟩
  case round =>
    obtain ⟨j, outL, rfl, hj, hlen, hown, hout, hmap, hb⟩ := hrel
    obtain ⟨wi, hwi⟩ : ∃ wi, wi = wr := ⟨_, rfl⟩
    subst hwi
    by_cases hjt : j < l.length
    · have hy : l[j]? = some l[j] := List.getElem?_eq_getElem hjt
      have hym := List.mem_of_getElem? hy
      generalize l[j] = u at *
      obtain ⟨g, o, rfl, hB, hys⟩ := lies_up HL.out.1.head (by omega)
      obtain ⟨e0, e1, e2, e3, e4, e5⟩ := ((hys j u hy).past_ hb hB).six
      obtain ⟨V, hV, hvb, hvs, hvo⟩ := upbox wi u
      have hinV : UIn V V.heap.size u := ((((HL.out.1.each_ u hym).past hb (Nat.le_refl _)).wide hb.size).keep hvb)
      have h8 := HL.out.2.2 u hym
      have z1 := Lib.hid (vcopy_any u.kA u.kc u.key V hinV.key (by omega))
      have HV := Lib.hid (And.intro (hb.trans (hvb.mono hb.size)) (And.intro hvo (And.intro hinV (And.intro hy (And.intro (HL.out.2.1 u hym) (And.intro hvb hvs))))))
      have HO := Lib.hid (And.intro hown (And.intro hout (And.intro hmap (And.intro hb hlen))))
      have HW := Lib.hid (((HL.out.1.each_ u hym).past hb (Nat.le_refl _)).wide hb.size)
      have q3 : (0 : Int) ≤ (j : Int) := by omega
      have q4 : (j : Int) < (l.length : Int) := by omega
      have q5 : decide ((j : Int) < (l.length : Int)) = true := decide_eq_true q4
      clear hy hym hys hvb hvs hinV hown hout hmap hb
      go_upto_region 5 with fail
      rw [← hV]
      clear hV e0 e1 e2 e3 e4 e5
      obtain ⟨e0, e1, e2, e3, e4, e5⟩ := own6 hvo
      clear hvo
      go_wp2_with fail
      refine z1.out.mono ?_
      rintro _ w1 ⟨A1, k1, rfl, hv1, b1, hf1⟩
      have ho1 := HV.out.2.1.past b1 HV.out.2.1.inside
      obtain ⟨X1, hX1, hxo1, hxb1, hxs1, hxr1⟩ := own_zeroth ho1 (.slice A1 u.key.length k1)
      have hfz := (own_frozen6 ho1).1
      have hc0 := (own6 ho1).1
      have hbX1 : Below wi.heap.size wi X1 := hxb1 _ _ (HV.out.2.2.2.2.2.1.trans (b1.mono HV.out.2.2.2.2.2.1.size)) (Nat.le_refl _)
      have hrow1 : Vals X1 X1.heap.size u.rA u.row := (HW.out.row.past hbX1 (Nat.le_refl _)).wide hbX1.size
      have hne : ∀ b, V.heap.size ≤ b → b ≠ wi.heap.size := fun b h => by have := HV.out.2.2.2.2.2.2; omega
      have hkey1 := vals_but hv1 (fun b o e => hne b (hf1 b o e).1) hxs1 hxr1
      have z2 := Lib.hid (vcopy_any u.rA u.rc u.row X1 hrow1 (by omega))
      have H1 := Lib.hid (And.intro hbX1 (And.intro hxo1 (And.intro hkey1 (And.intro (fun b o (e : A1 = some ⟨b, o, none⟩) => (⟨(hf1 b o e).1, by rw [hxs1]; exact (hf1 b o e).2⟩ : V.heap.size ≤ b ∧ b < X1.heap.size)) hne))))
      clear hv1 b1 hf1 ho1 hxo1 hxb1 hxs1 hxr1 hbX1 hrow1 hne hkey1 e0 e1 e2 e3 e4 e5 z1
      go_upto_region 6 with fail
      rw [← hX1]
      clear hX1 hfz hc0
      obtain ⟨e0, e1, e2, e3, e4, e5⟩ := own6 H1.out.2.1
      go_wp2_with fail
      refine z2.out.mono ?_
      rintro _ w2 ⟨A2, k2, rfl, hv2, b2, hf2⟩
      have ho2 := H1.out.2.1.past b2 H1.out.2.1.inside
      obtain ⟨X2, hX2, hxo2, hxb2, hxs2, hxr2⟩ := own_first ho2 (.slice A2 u.row.length k2)
      have hfz := (own_frozen6 ho2).2.1
      have hc0 := (own6 ho2).2.1
      have hbX2 : Below wi.heap.size wi X2 := hxb2 _ _ (H1.out.1.trans (b2.mono H1.out.1.size)) (Nat.le_refl _)
      have hsX : V.heap.size ≤ X1.heap.size := by have := H1.out.1.size; have := H1.out.2.1.inside; have := HV.out.2.2.2.2.2.2; omega
      have hkey2 := vals_but (vals_keep H1.out.2.2.1 b2) (fun b o e => H1.out.2.2.2.2 b (H1.out.2.2.2.1 b o e).1) hxs2 hxr2
      have hrow2 := vals_but hv2 (fun b o e => H1.out.2.2.2.2 b (Nat.le_trans hsX (hf2 b o e).1)) hxs2 hxr2
      have hs2 := b2.size
      have hlts : ∀ b o, (A1 = some ⟨b, o, none⟩ ∨ A2 = some ⟨b, o, none⟩) → V.heap.size ≤ b ∧ b < X2.heap.size := fun b o e => by
        rcases e with e | e
        · have h1 := H1.out.2.2.2.1 b o e
          omega
        · have h1 := hf2 b o e
          omega
      obtain ⟨u', hu'⟩ : ∃ u' : Up, u' = ⟨A1, k1, u.key, A2, k2, u.row, u.t, u.d⟩ := ⟨_, rfl⟩
      have hin' : UIn X2 X2.heap.size u' := by subst hu'; exact ⟨hkey2, hrow2⟩
      have hfar' : Far w.heap.size u3 X2 u' := fun b o hb => by
        subst hu'
        have h1 := hlts b o hb
        have h2 := HV.out.2.2.2.2.2.2
        have h3 := HO.out.2.2.2.1.size
        refine ⟨h1.2, fun e => ?_, by omega⟩
        have := (HO.out.1.lt b e).2
        omega
      have hok' : UOk u' := by
        subst hu'
        have := HV.out.2.2.2.2.1
        exact ⟨this.kn, this.rn, this.ks, this.rs, this.dn⟩
      have hp' : u'.p = u.p := by subst hu'; rfl
      have hsw : w.heap.size ≤ X2.heap.size := Nat.le_trans HO.out.2.2.2.1.size hbX2.size
      have H2 := Lib.hid (And.intro hbX2 (And.intro (own_below HO.out.1 hbX2) (And.intro hin' (And.intro hfar' (And.intro hok' hp')))))
      have HU := Lib.hid hu'
      have hln : outL.length ≤ 1099511627776 := by omega
      clear hv2 b2 hf2 ho2 hxb2 hxs2 hxr2 hbX2 hkey2 hrow2 hs2 hlts hin' hfar' hok' hp' e0 e1 e2 e3 e4 e5 z2 hsX hu'
      go_upto_region 7 with fail
      rw [← hX2]
      clear hX2 hfz hc0
      obtain ⟨e0, e1, e2, e3, e4, e5⟩ := own6 hxo2
      have hu' := HU.out
      have c0 : Value.slice A1 u.key.length k1 = .slice u'.kA u'.key.length u'.kc := by rw [hu']
      have c1 : Value.slice A2 u.row.length k2 = .slice u'.rA u'.row.length u'.rc := by rw [hu']
      have c2 : Value.int .u64 (u.t.e : Int) = .int .u64 (u'.t.e : Int) := by rw [hu']
      have c3 : Value.int .u64 (u.t.a : Int) = .int .u64 (u'.t.a : Int) := by rw [hu']
      have c4 : Value.int .u64 (u.t.b : Int) = .int .u64 (u'.t.b : Int) := by rw [hu']
      have c5 : Value.int .i64 u.d = .int .i64 u'.d := by rw [hu']
      rw [c0] at e0
      rw [c1] at e1
      rw [c2] at e2
      rw [c3] at e3
      rw [c4] at e4
      rw [c5] at e5
      clear hu' c0 c1 c2 c3 c4 c5 hxo2
      go_wp2_with (at_builtin; refine wpList_push _ rfl _ _ 37 rfl w.heap.size 50 i0 _ 6 80 HI.out.1 HI.out.2.1 HI.out.2.2.1 HI.out.2.2.2.1 HI.out.2.2.2.2 rfl (by decide) _ _ _ rfl H2.out.2.1 #[.slice u'.kA u'.key.length u'.kc, .slice u'.rA u'.row.length u'.rc, .int .u64 (u'.t.e : Int), .int .u64 (u'.t.a : Int), .int .u64 (u'.t.b : Int), .int .i64 u'.d] rfl rfl ?p1 ?p2 ?p3 ?p4 ?_)
      case p1 => exact ⟨rfl, rfl, rfl, rfl, rfl, rfl⟩
      case p2 => unfold maxLen; omega
      case p3 => omega
      case p4 => exact hsw
      intro v' w' ho' hb' hob hgw
      have hbw' : Below w.heap.size w w' := (HO.out.2.2.2.1.trans (H2.out.1.mono HO.out.2.2.2.1.size)).trans hb'
      have hfarn : ∀ u, Far w.heap.size u3 X2 u → Far w.heap.size v' w' u := fun u hu b o hb => by
        obtain ⟨h1, h2, h3⟩ := hu b o hb
        refine ⟨Nat.lt_of_lt_of_le h1 hgw.size, fun e => ?_, h3⟩
        rcases hob with h | h
        · rw [h] at e; exact h2 e
        · rw [h] at e
          injection e with e
          omega
      have hall : ∀ z ∈ outL ++ [u'], UIn w' w'.heap.size z ∧ UOk z ∧ Far w.heap.size v' w' z := fun z hz => by
        rcases List.mem_append.1 hz with hz | hz
        · have hf3 := (HO.out.2.1 z hz).2.2.next H2.out.1.size
          exact ⟨uin_grown ((HO.out.2.1 z hz).1.keep H2.out.1) hf3 hgw, (HO.out.2.1 z hz).2.1, hfarn z hf3⟩
        · obtain rfl : z = u' := by simpa using hz
          exact ⟨uin_grown H2.out.2.2.1 H2.out.2.2.2.1 hgw, H2.out.2.2.2.2.1, hfarn z H2.out.2.2.2.1⟩
      have hrow' : w'.ownsRow w.heap.size 50 6 v' (outL ++ [u']).length ((outL ++ [u']).flatMap Up.cells) := by
        rw [List.length_append, List.flatMap_append, hlen]
        exact ho'
      have H4 := Lib.hid (And.intro hrow' (And.intro hall (And.intro (copy_snoc HV.out.2.2.2.1 HO.out.2.2.1 H2.out.2.2.2.2.2) hbw')))
      clear ho' hb' hob hgw hbw' hfarn hall hrow' e0 e1 e2 e3 e4 e5
      go_wp2_with fail
      go_roundw
      case rel => exact ⟨j + 1, outL ++ [u'], by go_num, by omega, by rw [List.length_append, List.length_singleton]; omega, H4.out.1, H4.out.2.1, H4.out.2.2.1, H4.out.2.2.2⟩
      case measure => simp [intOf]; omega
    · have hj2 : j = l.length := by omega
      subst hj2
      rw [List.take_length] at hmap
      have HE := Lib.hid (And.intro hmap (And.intro hown (And.intro hout hb)))
      have q5 : decide ((l.length : Int) < (l.length : Int)) = false := decide_eq_false (by omega)
      clear hown hout hmap hb
      go_wp2_with fail
      go_ret
      exact ⟨_, outL, rfl, HE.out.1, HE.out.2.1, HE.out.2.2.1, HE.out.2.2.2⟩
end Go.Proofs.YtgalemkjgaiphaaGreat
namespace Go.Proofs.YtgalemkjgaiphaaGreat
open Go

def putsR : List (Option Tmp × Option Value) → Act → Act
  | [], a => a
  | (_, none) :: l, a => putsR l a
  | (d, some v) :: l, a => putsR l (a.put d v)
def ApartR : List (Option Tmp) → Prop
  | [] => True
  | d :: l => (∀ t, d = some t → some t ∉ l) ∧ ApartR l
section
variable {P : Program} {Q : Exit → Act → World → Prop}
def earlyR (l : List Oper) : Bool := (List.range l.length).all fun i => ((l[i]?).map fun o => o.after.all fun e => decide (e.on < i)).getD true
def slotsR (l : List Oper) (vals : List (Option Value)) : List (Option Tmp × Option Value) := (l.map Oper.dst).zip vals
structure CameUp (l : List Oper) (vals : List (Option Value)) : Prop where
  len : vals.length = l.length
  closed : ∀ (i : Nat) (o : Oper) (v : Value), l[i]? = some o → vals[i]? = some (some v) → ∀ e ∈ o.after, Region.binds .any e = true → ∃ u, vals[e.on]? = some (some u)
def flagsR (vals : List (Option Value)) : Array Bool := (vals.map Option.isSome).toArray
end
end Go.Proofs.YtgalemkjgaiphaaGreat
