/- Part 4 of the texts on which DiskWrites rests: facts and contracts. -/
import Derived.Test.YtfelpjacccclkaaDiskWritesM3
import Derived.StillTail
import Derived.Deep.Quiet
import Derived.Deep.QuietTactic
import Derived.BigQuiet
import Derived.Lib.MinMax
import Derived.Laws.StructEq
import Derived.WalkSpells
namespace Go.Proofs.Ytfelpjacccclkaa
open Go Go.RowKit

theorem row_lies {α : Type} {size : Nat} {cells : α → List Value} {w : World} {base c : Nat} {e : TypeId} {A : Option Addr} {l : List α} (hpos : 0 < size) (hcl : ∀ x, (cells x).length = size) (h : w.ownsRow base e size (.slice A l.length c) l.length (l.flatMap cells)) : Lies size cells w w.heap.size A l := by
  obtain ⟨A', c', hv, _, _, hl⟩ := lies_of_own (size := size) (cells := cells) hpos hcl rfl h
  injection hv with h1 h2 h3
  rw [h1]; exact hl
theorem row_cap {w : World} {base c n size : Nat} {e : TypeId} {A : Option Addr} {xs : List Value} (h : w.ownsRow base e size (.slice A n c) n xs) : n ≤ c := by
  rcases row_own h with ⟨_, h0, _⟩ | ⟨_, _, _, _, _, h0, _⟩ <;> omega
theorem Wk.din {w : World} {base K : Nat} {x : Dl} {A : Option Addr} {c : Nat} {l : List Vf} (h : Wk w base K x A c l) : DIn w w.heap.size x :=
  ⟨row_lies (size := 2) (cells := Fl.cells) (by decide) (fun _ => rfl) h.files, row_lies (size := 4) (cells := Wr.cells) (by decide) (fun _ => rfl) h.waits, row_cap h.waits⟩
/-- what open answered, laid in a box -/
theorem opened_box {w w1 : World} {x : Dl} {e : Ending} (h : Opened w w1 x e) (hb : Below w.heap.size w w1) (ok : DOk x) :
    ∃ Af cf Aw cw A c l V, e = .returned (.tuple #[.agg #[.slice Af x.files.length cf, .slice Aw x.waits.length cw, .int .i64 x.room, .bool x.down, .int .i64 x.fuse, .slice A l.length c, .int .i64 (szF (flV l) : Int)], .int .i64 0]) ∧
      V = w1.alloc (.cells #[.slice Af x.files.length cf, .slice Aw x.waits.length cw, .int .i64 x.room, .bool x.down, .int .i64 x.fuse, .slice A l.length c, .int .i64 (szF (flV l) : Int)] 57) ∧
      Below w.heap.size w V ∧ V.heap.size = w1.heap.size + 1 ∧ w.heap.size ≤ w1.heap.size ∧ Wk V w.heap.size w1.heap.size ⟨Af, cf, x.files, Aw, cw, x.waits, x.room, x.down, x.fuse⟩ A c l ∧ flV l = seen x.d ∧ wtV l ≤ wtD x.d := by
  obtain ⟨Af, cf, Aw, cw, A, c, l, rfl, rf, rw_, hv, hfl, hs, hw⟩ := h
  have b1 : Below w1.heap.size w1 (w1.alloc (.cells #[.slice Af x.files.length cf, .slice Aw x.waits.length cw, .int .i64 x.room, .bool x.down, .int .i64 x.fuse, .slice A l.length c, .int .i64 (szF (flV l) : Int)] 57)) := (Below.refl _ _).alloc (Nat.le_refl _) _
  refine ⟨Af, cf, Aw, cw, A, c, l, _, rfl, rfl, hb.alloc hb.size _, by simp, hb.size, ⟨⟨Own.made w1 _ _, rfl, rfl, hv.kept (Kept.of_below b1 (Nat.le_refl _) (fun _ => False)) (fun _ _ h => h), fun e => by have := (hv.lt _ e).2; omega, hs, by have := ok.wt; omega, by have := hb.size; simp; omega⟩, rf.alloc _, rw_.alloc _, hb.size⟩, hfl, hw⟩
def zeroDl : Dl := ⟨none, 0, [], none, 0, [], 0, false, 0⟩
/-- a disk and an error, handed back -/
def Gives (w w' : World) (e : Ending) (s : Dk × Int) : Prop :=
  Below w.heap.size w w' ∧ ∃ y : Dl, e = .returned (.tuple #[y.val, .int .i64 s.2]) ∧ y.d = s.1 ∧ DIn w' w'.heap.size y
def set5 (w : World) (P : Nat) (a0 a1 a2 a3 a4 : Value) : World := ((((w.setCell ⟨P, 0, none⟩ a0).setCell ⟨P, 1, none⟩ a1).setCell ⟨P, 2, none⟩ a2).setCell ⟨P, 3, none⟩ a3).setCell ⟨P, 4, none⟩ a4
theorem set5_own {w : World} {P : Nat} {t : TypeId} {b0 b1 b2 b3 b4 : Value} (h : Own w P t [b0, b1, b2, b3, b4]) (a0 a1 a2 a3 a4 : Value) : Own (set5 w P a0 a1 a2 a3 a4) P t [a0, a1, a2, a3, a4] :=
  ((((h.set_ 0 a0).set_ 1 a1).set_ 2 a2).set_ 3 a3).set_ 4 a4
theorem set5_kept (w : World) (P : Nat) (a0 a1 a2 a3 a4 : Value) : Kept w (set5 w P a0 a1 a2 a3 a4) (fun k => k = P) :=
  (((((Kept.refl w (fun k => k = P)).set_ (.inl rfl) a0).set_ (.inl rfl) a1).set_ (.inl rfl) a2).set_ (.inl rfl) a3).set_ (.inl rfl) a4
theorem open5 {w : World} {P : Nat} {t : TypeId} {l : List Value} (h : Own w P t l) :
    w.frozen? ⟨P, 0, none⟩ = false ∧ w.frozen? ⟨P, 1, none⟩ = false ∧ w.frozen? ⟨P, 2, none⟩ = false ∧ w.frozen? ⟨P, 3, none⟩ = false ∧ w.frozen? ⟨P, 4, none⟩ = false :=
  ⟨h.open_ 0, h.open_ 1, h.open_ 2, h.open_ 3, h.open_ 4⟩
def zero5 : List Value := [.slice none 0 0, .slice none 0 0, .int .i64 0, .bool false, .int .i64 0]
/-- the boxes with which Do and Sync begin -/
theorem do_box (w : World) (x : Dl) : ∃ W, W = (w.alloc (.cells #[.slice x.fA x.files.length x.fc, .slice x.wA x.waits.length x.wc, .int .i64 x.room, .bool x.down, .int .i64 x.fuse] 25)).alloc (.cells #[.slice none 0 0, .slice none 0 0, .int .i64 0, .bool false, .int .i64 0] 25) ∧
    Below w.heap.size w W ∧ W.heap.size = w.heap.size + 2 ∧ Own W w.heap.size 25 x.cells ∧ Own W (w.heap.size + 1) 25 zero5 := by
  refine ⟨_, rfl, ((Below.refl _ _).alloc (Nat.le_refl _) _).alloc (by simp) _, by simp, (Own.made w _ _).more _, ?_⟩
  have := Own.made (w.alloc (.cells #[.slice x.fA x.files.length x.fc, .slice x.wA x.waits.length x.wc, .int .i64 x.room, .bool x.down, .int .i64 x.fuse] 25)) 25 zero5
  rw [show (w.alloc (.cells #[.slice x.fA x.files.length x.fc, .slice x.wA x.waits.length x.wc, .int .i64 x.room, .bool x.down, .int .i64 x.fuse] 25)).heap.size = w.heap.size + 1 by simp] at this
  exact this
/-- the disk in use handed back by way of the result's box R -/
theorem hand_back {w V wr : World} {K : Nat} {y : Dl} {A : Option Addr} {c : Nat} {l : List Vf} (hs : V.heap.size = w.heap.size + 2) (hwV : Below w.heap.size w V) (hb : Below V.heap.size V wr) (h : Wk wr V.heap.size K y A c l) :
    Below w.heap.size w (set5 wr (w.heap.size + 1) (.slice y.fA y.files.length y.fc) (.slice y.wA y.waits.length y.wc) (.int .i64 y.room) (.bool y.down) (.int .i64 y.fuse)) ∧
      DIn (set5 wr (w.heap.size + 1) (.slice y.fA y.files.length y.fc) (.slice y.wA y.waits.length y.wc) (.int .i64 y.room) (.bool y.down) (.int .i64 y.fuse)) (set5 wr (w.heap.size + 1) (.slice y.fA y.files.length y.fc) (.slice y.wA y.waits.length y.wc) (.int .i64 y.room) (.bool y.down) (.int .i64 y.fuse)).heap.size y := by
  have k := set5_kept wr (w.heap.size + 1) (.slice y.fA y.files.length y.fc) (.slice y.wA y.waits.length y.wc) (.int .i64 y.room) (.bool y.down) (.int .i64 y.fuse)
  have bw : Below w.heap.size w wr := hwV.trans (hb.mono (by omega))
  refine ⟨bw.trans (k.below (fun b e => by omega) bw.size), ?_, ?_, row_cap h.waits⟩
  · exact row_lies (size := 2) (cells := Fl.cells) (by decide) (fun _ => rfl) (k.row h.files (fun b e he => by have := (h.files.lt b e).1; omega))
  · exact row_lies (size := 4) (cells := Wr.cells) (by decide) (fun _ => rfl) (k.row h.waits (fun b e he => by have := (h.waits.lt b e).1; omega))
end Go.Proofs.Ytfelpjacccclkaa
namespace Go.Proofs.Ytfelpjacccclkaa
open Go Go.RowKit

theorem write_fuse (d : Dk) (l : List Fl) (r : Wr) : (writeD d l r).1.fuse = d.fuse ∨ (writeD d l r).1.fuse = lessN d.fuse := by
  unfold writeD
  repeat' split
  all_goals first | exact .inl rfl | exact .inr rfl
theorem write_len (d : Dk) (l : List Fl) (r : Wr) : (writeD d l r).1.waits.length ≤ d.waits.length + 1 := by
  unfold writeD
  repeat' split
  all_goals first | (dsimp only; omega) | (dsimp only; split <;> simp) | (dsimp only; simp)
theorem lessN_fit {n : Int} (h : -9223372036854775808 ≤ n ∧ n ≤ 9223372036854775807) : -9223372036854775808 ≤ lessN n ∧ lessN n ≤ 9223372036854775807 := by
  unfold lessN; split <;> omega
theorem doS_drop {d : Dk} {l : List Fl} {ws : List Wr} {k : Nat} {r : Wr} (h : ws[k]? = some r) : doS d l (ws.drop k) = if (writeD d l r).2.2 = 0 then doS (writeD d l r).1 (writeD d l r).2.1 (ws.drop (k + 1)) else ((writeD d l r).1, (writeD d l r).2.2) := by
  have hlt := (List.getElem?_eq_some_iff.1 h).1
  have e := (List.getElem?_eq_some_iff.1 h).2
  rw [List.drop_eq_getElem_cons hlt, e]
  rfl
theorem z7box (w : World) : ∃ W, W = w.alloc (.cells #[.slice none 0 0, .slice none 0 0, .int .i64 0, .bool false, .int .i64 0, .slice none 0 0, .int .i64 0] 57) ∧ Below w.heap.size w W :=
  ⟨_, rfl, (Below.refl _ _).alloc (Nat.le_refl _) _⟩
theorem zero_din (w : World) : DIn w w.heap.size zeroDl := ⟨fun h => absurd h (by decide), fun h => absurd h (by decide), Nat.le_refl _⟩
/-- how far Do has come -/
def DoInv (V wr : World) (K : Nat) (y : Dl) (l : List Vf) (ws : List Wr) (k b : Nat) (s : Dk × Int) : Prop :=
  ∃ A c, Wk wr V.heap.size K y A c l ∧ doS y.d (flV l) (ws.drop k) = s ∧ wtV l ≤ b + wtW (ws.take k) ∧ (-9223372036854775808 ≤ y.fuse ∧ y.fuse ≤ 9223372036854775807) ∧ y.waits.length ≤ b + k ∧ Below V.heap.size V wr
set_option maxRecDepth 100000 in
set_option maxHeartbeats 3200000 in
theorem do_any (x : Dl) (B : Option Addr) (cb : Nat) (ws : List Wr) (w : World) (h : DIn w w.heap.size x) (hws : Lies 4 Wr.cells w w.heap.size B ws) (ok : DOk x) (hb : wtD x.d + wtW ws ≤ 1099511627776) :
    Calls Try.prog 9 #[x.val, .slice B ws.length cb] w fun e w' => Gives w w' e (doD x.d ws) := by
  obtain ⟨V, hV, hVb, hVs, oD, oR⟩ := do_box w x
  have hk := h.keep hVb
  have y1 := Lib.hid (open_any x V hk ok)
  have H := Lib.hid (And.intro hVb (And.intro hVs (And.intro oR (And.intro ok (And.intro hb hws)))))
  obtain ⟨d0, d1, d2, d3, d4⟩ := own5 oD
  have hlw := len_le_wtW ws
  have hll : ws.length ≤ 1099511627776 := by omega
  unfold Dl.val at y1
  unfold Dl.val doD
  clear h hws ok hb hk hVb hVs oD oR hlw
  cases hg : goodD x.d
  · rw [hg] at y1
    simp only [Bool.false_eq_true, if_false] at y1 ⊢
    unfold zeroWk at y1
    clear hg
    go_enter Try.func9, Try.ntmps9
    go_upto_region 1 with fail
    rw [← hV]
    clear hV
    go_wp2_with fail
    refine y1.out.mono ?_
    rintro _ w1 ⟨b1, rfl⟩
    obtain ⟨W, hW, bW⟩ := z7box w1
    have oR1 := (H.out.2.2.1.past b1 H.out.2.2.1.inside).past bW (H.out.2.2.1.past b1 H.out.2.2.1.inside).inside
    obtain ⟨r0, r1, r2, r3, r4⟩ := own5 oR1
    obtain ⟨f0, f1, f2, f3, f4⟩ := open5 oR1
    have oE := set5_own oR1 (.slice none 0 0) (.slice none 0 0) (.int .i64 0) (.bool false) (.int .i64 0)
    have kE := set5_kept W (w.heap.size + 1) (.slice none 0 0) (.slice none 0 0) (.int .i64 0) (.bool false) (.int .i64 0)
    have hbw : Below w.heap.size w W := H.out.1.trans ((b1.trans (bW.mono b1.size)).mono H.out.1.size)
    have HX := Lib.hid (hbw.trans (kE.below (fun k e => by omega) hbw.size))
    unfold set5 at oE HX
    obtain ⟨e0, e1, e2, e3, e4⟩ := own5 oE
    clear oR1 oE kE hbw b1 y1 d0 d1 d2 d3 d4
    go_upto_region 2 with fail
    rw [← hW]
    clear hW
    go_wp2_with fail
    exact bodyPost_ret (v := .tuple #[.agg #[.slice none 0 0, .slice none 0 0, .int .i64 0, .bool false, .int .i64 0], .int .i64 8]) (by simp [results, Try.results9, go_sem, e0, e1, e2, e3, e4]) rfl ⟨HX.out, zeroDl, rfl, rfl, zero_din _⟩
  · rw [hg] at y1
    simp only [if_true] at y1 ⊢
    clear hg
    go_enter Try.func9, Try.ntmps9
    go_upto_region 1 with fail
    rw [← hV]
    clear hV
    go_wp2_with fail
    refine y1.out.mono ?_
    rintro _ w1 ⟨b1, ho⟩
    obtain ⟨Af, cf, Aw, cw, A, c, l, W, rfl, hW, bW, sW, hVw, kW, hfl, hwl⟩ := opened_box ho b1 H.out.2.2.2.1
    have HI : DoInv V W w1.heap.size ⟨Af, cf, x.files, Aw, cw, x.waits, x.room, x.down, x.fuse⟩ l ws 0 (wtD x.d) (doS x.d (seen x.d) ws) := ⟨A, c, kW, by rw [hfl]; rfl, by omega, H.out.2.2.2.1.fuse, by
      have := len_le_wtW x.waits; unfold wtD Dl.d; dsimp only; omega, bW⟩
    have HII := Lib.hid (And.intro HI (And.intro hVw sW))
    clear HI kW hfl hwl ho b1 y1 d0 d1 d2 d3 d4 bW sW hVw
    go_upto_region 2 with fail
    rw [← hW]
    clear hW
    go_wp2_with fail
    go_loopw [22] (fun i wr => ∃ k : Nat, i = .int .i64 (k : Int) ∧ k ≤ ws.length ∧ ∃ y l', DoInv V wr w1.heap.size y l' ws k (wtD x.d) (doS x.d (seen x.d) ws)) (fun i _ => ws.length - (intOf i).toNat)
    case atStart => exact ⟨0, rfl, by omega, _, _, HII.out.1⟩
    case round =>
      obtain ⟨k, rfl, hk, y, l', A', c', kW, hds, hwt, hfz, hln, hbw⟩ := hrel
      by_cases hlt : k < ws.length
      · have hx : ws[k]? = some ws[k] := List.getElem?_eq_getElem hlt
        obtain ⟨b, o, rfl, hB, hxs⟩ := H.out.2.2.2.2.2 (by omega)
        have hbw2 : Below w.heap.size w wr := H.out.1.trans (hbw.mono H.out.1.size)
        have x0 := (hbw2.cell (p := ⟨b, o + k * 4 + 0, none⟩) hB).trans (hxs k _ hx 0 _ rfl)
        have x1 := (hbw2.cell (p := ⟨b, o + k * 4 + 1, none⟩) hB).trans (hxs k _ hx 1 _ rfl)
        have x2 := (hbw2.cell (p := ⟨b, o + k * 4 + 2, none⟩) hB).trans (hxs k _ hx 2 _ rfl)
        have x3 := (hbw2.cell (p := ⟨b, o + k * 4 + 3, none⟩) hB).trans (hxs k _ hx 3 _ rfl)
        have hdr := doS_drop (d := y.d) (l := flV l') hx
        have hwk := wtW_take hx
        have hle := wtW_le ws (k + 1)
        have hfu := write_fuse y.d (flV l') ws[k]
        have hwl := write_len y.d (flV l') ws[k]
        generalize ws[k] = f at *
        obtain ⟨W2, hW2, bW2, sW2, oW2⟩ := wrbox wr f
        have d0 := oW2.at_ 0
        have d1 := oW2.at_ 1
        have d2 := oW2.at_ 2
        have d3 := oW2.at_ 3
        simp only [Wr.cells, List.getElem?_cons_zero, List.getElem?_cons_succ, Nat.add_zero] at d0 d1 d2 d3 x0 x1 x2 x3
        have hxl : wtD x.d ≤ 1099511627776 := H.out.2.2.2.1.wt
        have yw := Lib.hid (write_any V.heap.size w1.heap.size y A' c' l' f W2 (kW.below bW2) hfz (by have := H.out.2.2.2.2.1; omega) (by have := len_le_wtW ws; have := H.out.2.2.2.2.1; omega))
        rw [hds] at hdr
        have HX := Lib.hid (And.intro hdr (And.intro hwk (And.intro hwt (And.intro hfu (And.intro hwl (And.intro hfz (And.intro hln (And.intro (hbw.trans (bW2.mono hbw.size)) hbw2))))))))
        unfold Wr.val at yw
        clear kW hds hwt hfz hln hbw hdr hwk hle hfu hwl bW2 sW2 oW2 hx hxs hbw2 HII
        go_upto_region 7 with fail
        rw [← hW2]
        clear hW2
        go_wp2_with fail
        refine yw.out.mono ?_
        rintro _ w3 ⟨z, A2, c2, l2, rfl, kz, hzd, hzl, hzw, hzb⟩
        generalize hs : writeD y.d (flV l') f = s at *
        obtain ⟨sd, sl, se⟩ := s
        dsimp only at *
        have hb3 : Below V.heap.size V w3 := HX.out.2.2.2.2.2.2.2.1.trans hzb
        have H3 := Lib.hid (And.intro kz (And.intro hzd (And.intro hzl (And.intro hzw hb3))))
        by_cases he : se = 0
        · subst he
          clear kz hzd hzl hzw hzb hb3 yw x0 x1 x2 x3 d0 d1 d2 d3
          go_wp2_with fail
          go_roundw
          case rel =>
            refine ⟨k + 1, by go_num, by omega, z, l2, A2, c2, H3.out.1, ?_, ?_, ?_, ?_, H3.out.2.2.2.2⟩
            · rw [H3.out.2.1, H3.out.2.2.1]
              have := HX.out.1
              simp only [if_true] at this
              exact this.symm
            · have := HX.out.2.1; have := HX.out.2.2.1; have := H3.out.2.2.2.1; omega
            · have e1 := congrArg Dk.fuse H3.out.2.1
              have e2 := HX.out.2.2.2.1
              have e3 : z.fuse = sd.fuse := e1
              rw [e3]
              rcases e2 with e2 | e2
              · rw [e2]; exact HX.out.2.2.2.2.2.1
              · rw [e2]; exact lessN_fit HX.out.2.2.2.2.2.1
            · have e1 : z.waits = sd.waits := congrArg Dk.waits H3.out.2.1
              rw [e1]
              have := HX.out.2.2.2.2.1
              have := HX.out.2.2.2.2.2.2.1
              have e4 : y.d.waits.length = y.waits.length := rfl
              omega
          case measure => simp [intOf]; omega
        · have t1 : (se != 0) = true := bne_iff_ne.2 he
          have hres := HX.out.1
          rw [if_neg he] at hres
          have HRES := Lib.hid hres
          obtain ⟨c0, c1, c2', c3, c4, _, _⟩ := kz.cells
          have hfin := hand_back H.out.2.1 H.out.1 hb3 kz
          have oR1 := H.out.2.2.1.past hb3 (by have := H.out.2.1; omega)
          obtain ⟨r0, r1, r2, r3, r4⟩ := own5 oR1
          obtain ⟨f0, f1, f2, f3, f4⟩ := open5 oR1
          have oE := set5_own oR1 (.slice z.fA z.files.length z.fc) (.slice z.wA z.waits.length z.wc) (.int .i64 z.room) (.bool z.down) (.int .i64 z.fuse)
          have HF := Lib.hid hfin
          unfold set5 at oE HF
          obtain ⟨e0, e1, e2, e3, e4⟩ := own5 oE
          clear kz hzd hzl hzw hzb hb3 yw x0 x1 x2 x3 d0 d1 d2 d3 he hres hfin oR1 oE
          go_wp2_with fail
          exact bodyPost_ret (v := .tuple #[z.val, .int .i64 se]) (by simp [results, Try.results9, go_sem, e0, e1, e2, e3, e4, Dl.val]) rfl ⟨HF.out.1, z, by rw [HRES.out], by rw [HRES.out]; exact H3.out.2.1, HF.out.2⟩
      · have hk3 : k = ws.length := by omega
        subst hk3
        rw [List.drop_length] at hds
        have HRES := Lib.hid (show doS x.d (seen x.d) ws = (y.d, 0) from hds.symm)
        obtain ⟨c0, c1, c2', c3, c4, _, _⟩ := kW.cells
        have hfin := hand_back H.out.2.1 H.out.1 hbw kW
        have oR1 := H.out.2.2.1.past hbw (by have := H.out.2.1; omega)
        obtain ⟨r0, r1, r2, r3, r4⟩ := own5 oR1
        obtain ⟨f0, f1, f2, f3, f4⟩ := open5 oR1
        have oE := set5_own oR1 (.slice y.fA y.files.length y.fc) (.slice y.wA y.waits.length y.wc) (.int .i64 y.room) (.bool y.down) (.int .i64 y.fuse)
        have HF := Lib.hid hfin
        unfold set5 at oE HF
        obtain ⟨e0, e1, e2, e3, e4⟩ := own5 oE
        clear kW hds hwt hfz hln hbw hfin oR1 oE HII
        go_wp2_with fail
        exact bodyPost_ret (v := .tuple #[y.val, .int .i64 0]) (by simp [results, Try.results9, go_sem, e0, e1, e2, e3, e4, Dl.val]) rfl ⟨HF.out.1, y, by rw [HRES.out], by rw [HRES.out], HF.out.2⟩
end Go.Proofs.Ytfelpjacccclkaa
namespace Go.Proofs.Ytfelpjacccclkaa
open Go Go.RowKit

theorem row_keep_types {w w' : World} {S : Nat → Prop} (k : Kept w w' S) : w.heap.size ≤ w'.heap.size := k.size
/-- a box of the disk alone -/
theorem d1box (w : World) (x : Dl) : ∃ W, W = w.alloc (.cells #[.slice x.fA x.files.length x.fc, .slice x.wA x.waits.length x.wc, .int .i64 x.room, .bool x.down, .int .i64 x.fuse] 25) ∧ Below w.heap.size w W ∧ W.heap.size = w.heap.size + 1 ∧ Own W w.heap.size 25 x.cells := dbox w x
set_option maxRecDepth 100000 in
set_option maxHeartbeats 3200000 in
theorem dread_any (x : Dl) (n : ByteArray) (w : World) (h : DIn w w.heap.size x) (ok : DOk x) :
    Calls Try.prog 17 #[x.val, .string n] w fun e w' => e = .returned (.tuple #[.string (readD x.d n).1, .int .i64 (readD x.d n).2]) ∧ Below w.heap.size w w' := by
  obtain ⟨V, hV, hVb, hVs, oD⟩ := dbox w x
  have hk := h.keep hVb
  have y1 := Lib.hid (open_any x V hk ok)
  have H := Lib.hid (And.intro hVb (And.intro hVs ok))
  obtain ⟨d0, d1, d2, d3, d4⟩ := own5 oD
  unfold Dl.val at y1
  unfold Dl.val readD
  clear h ok hk hVb hVs oD
  cases hg : goodD x.d
  · rw [hg] at y1
    simp only [Bool.false_eq_true, if_false] at y1 ⊢
    unfold zeroWk at y1
    clear hg
    go_enter Try.func17, Try.ntmps17
    go_upto_region 1 with fail
    rw [← hV]
    clear hV
    go_wp2_with fail
    refine y1.out.mono ?_
    rintro _ w1 ⟨b1, rfl⟩
    obtain ⟨W, hW, bW⟩ := z7box w1
    have HX := Lib.hid (H.out.1.trans ((b1.trans (bW.mono b1.size)).mono H.out.1.size))
    clear b1 bW y1 d0 d1 d2 d3 d4
    go_upto_region 2 with fail
    rw [← hW]
    clear hW
    go_wp2_with fail
    go_ret2
    exact ⟨rfl, HX.out⟩
  · rw [hg] at y1
    simp only [if_true] at y1 ⊢
    have hdn : x.d.down = x.down := rfl
    rw [hdn]
    clear hg hdn
    generalize hrd : (if x.down = true then ((⟨#[]⟩ : ByteArray), (7 : Int)) else readF (seen x.d) n) = rd
    have HRD := Lib.hid hrd
    clear hrd
    go_enter Try.func17, Try.ntmps17
    go_upto_region 1 with fail
    rw [← hV]
    clear hV
    go_wp2_with fail
    refine y1.out.mono ?_
    rintro _ w1 ⟨b1, ho⟩
    obtain ⟨Af, cf, Aw, cw, A, c, l, W, rfl, hW, bW, sW, hVw, kW, hfl, hwl⟩ := opened_box ho b1 H.out.2.2
    obtain ⟨c0, c1, c2, c3, c4, c5, c6⟩ := kW.cells
    have y2 := Lib.hid (read_any V.heap.size w1.heap.size 5 _ _ A c l n W kW.at_)
    rw [hfl] at y2
    have HX := Lib.hid (H.out.1.trans (bW.mono H.out.1.size))
    dsimp only at c0 c1 c2 c3 c4
    clear ho b1 y1 d0 d1 d2 d3 d4 bW sW hVw kW hfl hwl
    go_upto_region 2 with fail
    rw [← hW]
    clear hW
    cases hd : x.down
    · rw [hd] at c3
      have hz := HRD.out
      rw [hd] at hz
      simp only [Bool.false_eq_true, if_false] at hz
      rw [hz] at y2
      clear hz hd
      go_wp2_with fail
      refine y2.out.mono ?_
      rintro _ w2 ⟨rfl, b2⟩
      go_wp2_with fail
      go_ret2
      exact ⟨rfl, HX.out.trans (b2.mono HX.out.size)⟩
    · rw [hd] at c3
      have hz := HRD.out
      rw [hd] at hz
      simp only [if_true] at hz
      have HZ := Lib.hid hz
      clear hz hd
      go_wp2_with fail
      go_ret2
      refine ⟨?_, HX.out⟩
      rw [← HZ.out]
      rfl
/-- files and an error, handed back -/
def Tells (w w' : World) (e : Ending) (s : List Fl × Int) : Prop :=
  Below w.heap.size w w' ∧ ∃ A c, e = .returned (.tuple #[.slice A s.1.length c, .int .i64 s.2]) ∧ Lies 2 Fl.cells w' w'.heap.size A s.1
set_option maxRecDepth 100000 in
set_option maxHeartbeats 3200000 in
theorem dsee_any (x : Dl) (w : World) (h : DIn w w.heap.size x) (ok : DOk x) :
    Calls Try.prog 15 #[x.val] w fun e w' => Tells w w' e (seeD x.d) := by
  obtain ⟨V, hV, hVb, hVs, oD⟩ := dbox w x
  have hk := h.keep hVb
  have y1 := Lib.hid (open_any x V hk ok)
  have H := Lib.hid (And.intro hVb (And.intro hVs ok))
  obtain ⟨d0, d1, d2, d3, d4⟩ := own5 oD
  unfold Dl.val at y1
  unfold Dl.val seeD
  clear h ok hk hVb hVs oD
  cases hg : goodD x.d
  · rw [hg] at y1
    simp only [Bool.false_eq_true, if_false] at y1 ⊢
    unfold zeroWk at y1
    clear hg
    go_enter Try.func15, Try.ntmps15
    go_upto_region 1 with fail
    rw [← hV]
    clear hV
    go_wp2_with fail
    refine y1.out.mono ?_
    rintro _ w1 ⟨b1, rfl⟩
    obtain ⟨W, hW, bW⟩ := z7box w1
    have HX := Lib.hid (H.out.1.trans ((b1.trans (bW.mono b1.size)).mono H.out.1.size))
    clear b1 bW y1 d0 d1 d2 d3 d4
    go_upto_region 2 with fail
    rw [← hW]
    clear hW
    go_wp2_with fail
    go_ret2
    exact ⟨HX.out, none, 0, rfl, fun h => absurd h (by simp)⟩
  · rw [hg] at y1
    simp only [if_true] at y1 ⊢
    have hdn : x.d.down = x.down := rfl
    rw [hdn]
    clear hg hdn
    generalize hrd : (if x.down = true then (([] : List Fl), (7 : Int)) else (seen x.d, 0)) = rd
    have HRD := Lib.hid hrd
    clear hrd
    go_enter Try.func15, Try.ntmps15
    go_upto_region 1 with fail
    rw [← hV]
    clear hV
    go_wp2_with fail
    refine y1.out.mono ?_
    rintro _ w1 ⟨b1, ho⟩
    obtain ⟨Af, cf, Aw, cw, A, c, l, W, rfl, hW, bW, sW, hVw, kW, hfl, hwl⟩ := opened_box ho b1 H.out.2.2
    obtain ⟨c0, c1, c2, c3, c4, c5, c6⟩ := kW.cells
    have y2 := Lib.hid (list_any V.heap.size w1.heap.size 5 _ _ A c l W kW.at_)
    have hln : l.length = (seen x.d).length := by rw [← hfl]; unfold flV; simp
    rw [hfl, hln] at y2
    have HX := Lib.hid (H.out.1.trans (bW.mono H.out.1.size))
    dsimp only at c0 c1 c2 c3 c4
    clear ho b1 y1 d0 d1 d2 d3 d4 bW sW hVw kW hfl hwl hln
    go_upto_region 2 with fail
    rw [← hW]
    clear hW
    cases hd : x.down
    · rw [hd] at c3
      have hz := HRD.out
      rw [hd] at hz
      simp only [Bool.false_eq_true, if_false] at hz
      have HZ := Lib.hid hz
      clear hz hd
      go_wp2_with fail
      refine y2.out.mono ?_
      rintro _ w2 ⟨v, rfl, rv, b2⟩
      obtain ⟨A2, c2', rfl⟩ := row_slice rv
      have HR := Lib.hid (And.intro (row_lies (size := 2) (cells := Fl.cells) (by decide) (fun _ => rfl) rv) (HX.out.trans (b2.mono HX.out.size)))
      clear rv b2
      go_wp2_with fail
      go_ret2
      rw [← HZ.out]
      exact ⟨HR.out.2, A2, c2', rfl, HR.out.1⟩
    · rw [hd] at c3
      have hz := HRD.out
      rw [hd] at hz
      simp only [if_true] at hz
      have HZ := Lib.hid hz
      clear hz hd
      go_wp2_with fail
      go_ret2
      rw [← HZ.out]
      exact ⟨HX.out, none, 0, rfl, fun h => absurd h (by simp)⟩
set_option maxRecDepth 100000 in
set_option maxHeartbeats 3200000 in
theorem dsync_any (x : Dl) (w : World) (h : DIn w w.heap.size x) (ok : DOk x) :
    Calls Try.prog 11 #[x.val] w fun e w' => Gives w w' e (syncD x.d) := by
  obtain ⟨V, hV, hVb, hVs, oD, oR⟩ := do_box w x
  have hk := h.keep hVb
  have y1 := Lib.hid (open_any x V hk ok)
  have H := Lib.hid (And.intro hVb (And.intro hVs (And.intro oR ok)))
  obtain ⟨d0, d1, d2, d3, d4⟩ := own5 oD
  unfold Dl.val at y1
  unfold Dl.val syncD
  clear h ok hk hVb hVs oD oR
  cases hg : goodD x.d
  · rw [hg] at y1
    simp only [Bool.false_eq_true, if_false] at y1 ⊢
    unfold zeroWk at y1
    clear hg
    go_enter Try.func11, Try.ntmps11
    go_upto_region 1 with fail
    rw [← hV]
    clear hV
    go_wp2_with fail
    refine y1.out.mono ?_
    rintro _ w1 ⟨b1, rfl⟩
    obtain ⟨W, hW, bW⟩ := z7box w1
    have oR1 := (H.out.2.2.1.past b1 H.out.2.2.1.inside).past bW (H.out.2.2.1.past b1 H.out.2.2.1.inside).inside
    obtain ⟨r0, r1, r2, r3, r4⟩ := own5 oR1
    obtain ⟨f0, f1, f2, f3, f4⟩ := open5 oR1
    have oE := set5_own oR1 (.slice none 0 0) (.slice none 0 0) (.int .i64 0) (.bool false) (.int .i64 0)
    have kE := set5_kept W (w.heap.size + 1) (.slice none 0 0) (.slice none 0 0) (.int .i64 0) (.bool false) (.int .i64 0)
    have hbw : Below w.heap.size w W := H.out.1.trans ((b1.trans (bW.mono b1.size)).mono H.out.1.size)
    have HX := Lib.hid (hbw.trans (kE.below (fun k e => by omega) hbw.size))
    unfold set5 at oE HX
    obtain ⟨e0, e1, e2, e3, e4⟩ := own5 oE
    clear oR1 oE kE hbw b1 y1 d0 d1 d2 d3 d4
    go_upto_region 2 with fail
    rw [← hW]
    clear hW
    go_wp2_with fail
    exact bodyPost_ret (v := .tuple #[.agg #[.slice none 0 0, .slice none 0 0, .int .i64 0, .bool false, .int .i64 0], .int .i64 8]) (by simp [results, Try.results11, go_sem, e0, e1, e2, e3, e4]) rfl ⟨HX.out, zeroDl, rfl, rfl, zero_din _⟩
  · rw [hg] at y1
    simp only [if_true] at y1 ⊢
    have hdn : x.d.down = x.down := rfl
    have hdf : x.d.fuse = x.fuse := rfl
    rw [hdn, hdf]
    clear hg hdn hdf
    generalize hrd : (if x.down = true then (x.d, (7 : Int)) else if x.fuse = 0 then ((⟨x.d.files, x.d.waits, x.d.room, true, x.fuse⟩ : Dk), (7 : Int)) else ((⟨seen x.d, [], x.d.room, x.down, lessN x.fuse⟩ : Dk), (0 : Int))) = rd
    have HRD := Lib.hid hrd
    clear hrd
    go_enter Try.func11, Try.ntmps11
    go_upto_region 1 with fail
    rw [← hV]
    clear hV
    go_wp2_with fail
    refine y1.out.mono ?_
    rintro _ w1 ⟨b1, ho⟩
    obtain ⟨Af, cf, Aw, cw, A, c, l, W, rfl, hW, bW, sW, hVw, kW, hfl, hwl⟩ := opened_box ho b1 H.out.2.2.2
    obtain ⟨c0, c1, c2, c3, c4, c5, c6⟩ := kW.cells
    have y2 := Lib.hid (burn_any V.heap.size w1.heap.size _ A c l W kW H.out.2.2.2.fuse)
    have oR1 := H.out.2.2.1.past bW H.out.2.2.1.inside
    have HX := Lib.hid (And.intro bW (And.intro hVw (And.intro sW (And.intro kW (And.intro oR1 hfl)))))
    dsimp only at c0 c1 c2 c3 c4
    clear ho b1 y1 d0 d1 d2 d3 d4 bW sW hVw kW hfl hwl oR1
    go_upto_region 2 with fail
    rw [← hW]
    clear hW
    cases hd : x.down
    · rw [hd] at c3
      have hz := HRD.out
      rw [hd] at hz
      simp only [Bool.false_eq_true, if_false] at hz
      have HZ := Lib.hid hz
      have HD := Lib.hid hd
      clear hz hd
      go_upto_region 4 with fail
      go_wp2_with fail
      refine y2.out.mono ?_
      rintro _ w2 ⟨rfl, k2, kb⟩
      have hb2 : Below V.heap.size V w2 := HX.out.1.trans (kb.below (fun k e => by have := HX.out.2.1; omega) HX.out.1.size)
      have oR2 := H.out.2.2.1.past hb2 H.out.2.2.1.inside
      by_cases hf : x.fuse = 0
      · have t1 : decide (x.fuse ≠ 0) = false := by simp [hf]
        have hz := HZ.out
        rw [if_pos hf] at hz
        have HZ2 := Lib.hid hz
        have hbu : burnL ⟨Af, cf, x.files, Aw, cw, x.waits, x.room, x.down, x.fuse⟩ = ⟨Af, cf, x.files, Aw, cw, x.waits, x.room, true, x.fuse⟩ := by unfold burnL; exact if_pos hf
        rw [hbu] at k2
        obtain ⟨c0, c1, c2, c3, c4, c5, c6⟩ := k2.cells
        have hfin := hand_back H.out.2.1 H.out.1 hb2 k2
        obtain ⟨r0, r1, r2, r3, r4⟩ := own5 oR2
        obtain ⟨f0, f1, f2, f3, f4⟩ := open5 oR2
        have oE := set5_own oR2 (.slice Af x.files.length cf) (.slice Aw x.waits.length cw) (.int .i64 x.room) (.bool true) (.int .i64 x.fuse)
        have HF := Lib.hid hfin
        unfold set5 at oE HF
        dsimp only at HF c0 c1 c2 c3 c4
        obtain ⟨e0, e1, e2, e3, e4⟩ := own5 oE
        rw [t1]
        clear hz hfin oE k2 kb hb2 oR2 hbu hf
        go_wp2_with fail
        refine bodyPost_ret (v := .tuple #[.agg #[.slice Af x.files.length cf, .slice Aw x.waits.length cw, .int .i64 x.room, .bool true, .int .i64 x.fuse], .int .i64 7]) (by simp [results, Try.results11, go_sem, e0, e1, e2, e3, e4]) rfl ⟨HF.out.1, ⟨Af, cf, x.files, Aw, cw, x.waits, x.room, true, x.fuse⟩, ?_, ?_, HF.out.2⟩
        · rw [← HZ2.out]; rfl
        · rw [← HZ2.out]; rfl
      · have t1 : decide (x.fuse ≠ 0) = true := by simp [hf]
        have hz := HZ.out
        rw [if_neg hf] at hz
        have HZ2 := Lib.hid hz
        have hbu : burnL ⟨Af, cf, x.files, Aw, cw, x.waits, x.room, x.down, x.fuse⟩ = ⟨Af, cf, x.files, Aw, cw, x.waits, x.room, x.down, lessN x.fuse⟩ := by unfold burnL; exact if_neg hf
        rw [hbu] at k2
        obtain ⟨c0, c1, c2, c3, c4, c5, c6⟩ := k2.cells
        have y3 := Lib.hid (list_any V.heap.size w1.heap.size 5 _ _ A c l w2 k2.at_)
        have hln : l.length = (seen x.d).length := by rw [← HX.out.2.2.2.2.2]; unfold flV; simp
        rw [HX.out.2.2.2.2.2, hln] at y3
        have HK := Lib.hid (And.intro k2.at_.own (And.intro hb2 oR2))
        dsimp only at c0 c1 c2 c3 c4
        rw [t1]
        clear hz k2 kb hb2 oR2 hbu hf hln
        go_wp2_with fail
        refine y3.out.mono ?_
        rintro _ w3 ⟨v, rfl, rv, b3⟩
        obtain ⟨A2, c2', rfl⟩ := row_slice rv
        have oK3 := HK.out.1.past b3 HK.out.1.inside
        have oR3 := HK.out.2.2.past b3 HK.out.2.2.inside
        have hRK : w.heap.size + 1 < w1.heap.size := by have := HX.out.2.1; have := H.out.2.1; omega
        have hKw : w1.heap.size < w2.heap.size := HK.out.1.inside
        have oK4 := (oK3.set_ 0 (.slice A2 (seen x.d).length c2')).set_ 1 (.slice none 0 0)
        have k4 : Kept w3 ((w3.setCell ⟨w1.heap.size, 0, none⟩ (.slice A2 (seen x.d).length c2')).setCell ⟨w1.heap.size, 1, none⟩ (.slice none 0 0)) (fun k => k = w1.heap.size) := ((Kept.refl w3 (fun k => k = w1.heap.size)).set_ (.inl rfl) _).set_ (.inl rfl) _
        have oR4 := k4.own oR3 (by omega)
        have r4v := k4.row rv (fun k e he => by have := (rv.lt k e).1; omega)
        have hb4 : Below w.heap.size w ((w3.setCell ⟨w1.heap.size, 0, none⟩ (.slice A2 (seen x.d).length c2')).setCell ⟨w1.heap.size, 1, none⟩ (.slice none 0 0)) := by
          have a1 : Below w.heap.size w w2 := H.out.1.trans (HK.out.2.1.mono H.out.1.size)
          have a2 : Below w.heap.size w w3 := a1.trans (b3.mono a1.size)
          exact a2.trans (k4.below (fun k e => by omega) a2.size)
        obtain ⟨g0, g1, g2, g3, g4, g5, g6⟩ := own7 oK3
        obtain ⟨gf0, gf1, _⟩ := open7 oK3
        have HO := Lib.hid (And.intro oK4 (And.intro oR4 (And.intro r4v (And.intro hb4 (And.intro hRK hKw)))))
        dsimp only at g0 g1 g2 g3 g4
        clear rv b3 oK3 oR3 oK4 k4 oR4 r4v hb4 c0 c1 c2 c3 c4 c5 c6
        go_upto_region 7 with fail
        obtain ⟨W4, hW4⟩ : ∃ W4, W4 = (w3.setCell ⟨w1.heap.size, 0, none⟩ (.slice A2 (seen x.d).length c2')).setCell ⟨w1.heap.size, 1, none⟩ (.slice none 0 0) := ⟨_, rfl⟩
        rw [← hW4] at HO ⊢
        clear hW4 g0 g1 g2 g3 g4 g5 g6 gf0 gf1
        obtain ⟨g0, g1, g2, g3, g4, g5, g6⟩ := own7 HO.out.1
        obtain ⟨r0, r1, r2, r3, r4⟩ := own5 HO.out.2.1
        obtain ⟨f0, f1, f2, f3, f4⟩ := open5 HO.out.2.1
        have oE := set5_own HO.out.2.1 (.slice A2 (seen x.d).length c2') (.slice none 0 0) (.int .i64 x.room) (.bool x.down) (.int .i64 (lessN x.fuse))
        have kE := set5_kept W4 (w.heap.size + 1) (.slice A2 (seen x.d).length c2') (.slice none 0 0) (.int .i64 x.room) (.bool x.down) (.int .i64 (lessN x.fuse))
        have HF := Lib.hid (And.intro (HO.out.2.2.2.1.trans (kE.below (fun k e => by omega) HO.out.2.2.2.1.size)) (row_lies (size := 2) (cells := Fl.cells) (by decide) (fun _ => rfl) (kE.row HO.out.2.2.1 (fun k e he => by have := (HO.out.2.2.1.lt k e).1; have := HO.out.2.2.2.2; omega))))
        unfold set5 at oE HF
        dsimp only at g0 g1 g2 g3 g4
        obtain ⟨e0, e1, e2, e3, e4⟩ := own5 oE
        clear oE kE
        go_wp2_with fail
        refine bodyPost_ret (v := .tuple #[.agg #[.slice A2 (seen x.d).length c2', .slice none 0 0, .int .i64 x.room, .bool x.down, .int .i64 (lessN x.fuse)], .int .i64 0]) (by simp [results, Try.results11, go_sem, e0, e1, e2, e3, e4]) rfl ⟨HF.out.1, ⟨A2, c2', seen x.d, none, 0, [], x.room, x.down, lessN x.fuse⟩, ?_, ?_, ⟨HF.out.2, fun h => absurd h (by simp), Nat.le_refl _⟩⟩
        · rw [← HZ2.out]; rfl
        · rw [← HZ2.out]
          show Dk.mk _ _ _ _ _ = Dk.mk _ _ _ _ _
          rw [HD.out]; rfl
    · rw [hd] at c3
      have hz := HRD.out
      rw [hd] at hz
      simp only [if_true] at hz
      have HZ := Lib.hid hz
      have hfin := hand_back H.out.2.1 H.out.1 HX.out.1 HX.out.2.2.2.1
      obtain ⟨r0, r1, r2, r3, r4⟩ := own5 HX.out.2.2.2.2.1
      obtain ⟨f0, f1, f2, f3, f4⟩ := open5 HX.out.2.2.2.2.1
      have oE := set5_own HX.out.2.2.2.2.1 (.slice Af x.files.length cf) (.slice Aw x.waits.length cw) (.int .i64 x.room) (.bool x.down) (.int .i64 x.fuse)
      have HF := Lib.hid hfin
      unfold set5 at oE HF
      dsimp only at HF
      rw [hd] at oE HF
      obtain ⟨e0, e1, e2, e3, e4⟩ := own5 oE
      have HD := Lib.hid hd
      clear hz hd hfin oE
      go_wp2_with fail
      refine bodyPost_ret (v := .tuple #[.agg #[.slice Af x.files.length cf, .slice Aw x.waits.length cw, .int .i64 x.room, .bool true, .int .i64 x.fuse], .int .i64 7]) (by simp [results, Try.results11, go_sem, e0, e1, e2, e3, e4]) rfl ⟨HF.out.1, ⟨Af, cf, x.files, Aw, cw, x.waits, x.room, true, x.fuse⟩, ?_, ?_, HF.out.2⟩
      · rw [← HZ.out]; rfl
      · rw [← HZ.out]
        show Dk.mk _ _ _ _ _ = Dk.mk _ _ _ _ _
        rw [HD.out]
end Go.Proofs.Ytfelpjacccclkaa
namespace Go.Proofs.Ytfelpjacccclkaa
open Go Go.RowKit

section
variable {P : Program} {ops : Array Oper} {md : Region.Mode} {C : World → Prop}
def wpAnyT (P : Program) (md : Region.Mode) (ops : Array Oper) (C : World → Prop) (n : Nat) (L : Array Bool → Act → Prop) : Nat → Array Bool → Act → Prop
  | 0, listed, a => L listed a
  | f + 1, listed, a =>
    Region.ready md ops listed ≠ [] ∧ ∀ i ∈ Region.ready md ops listed, i < n ∧ qOp P ops C i (wpAnyT P md ops C n L f (listed.setIfInBounds i true)) a
theorem wpAny_of_headT {n g : Nat} {L : Array Bool → Act → Prop} {Q' : Exit → Act → World → Prop} (hL : ∀ listed a w, C w → L listed a → wpAny P md ops Q' g listed a w) :
    ∀ (f : Nat) (listed : Array Bool) (a : Act) (w : World), C w → wpAnyT P md ops C n L f listed a → wpAny P md ops Q' (f + g) listed a w
  | 0, listed, a, w, hw, h => by rw [Nat.zero_add]; exact hL _ _ _ hw h
  | f + 1, listed, a, w, hw, h => by
    rw [show f + 1 + g = (f + g) + 1 by omega]
    exact ⟨fun h0 => absurd h0 h.1, fun i hi => wpOp_of_qOp hw (fun a' w' hw' h' => wpAny_of_headT hL f _ a' w' hw' h') (h.2 i hi).2⟩
theorem wpAnyT_first {n i : Nat} {oi : Oper} {v : Value} {L : Array Bool → Act → Prop} (hi : ops[i]? = some oi) (hsel : ∀ (j : Nat) (o : Oper) cs b, ops[j]? = some o → o.op ≠ .select cs b)
    (hs : Region.sinkB md ops n = true) (hc : Region.chainB md ops n = true) (hn : n < ops.size) (hin : i < n)
    (hdone : ∀ listed a, L listed a → ∀ j ∈ Region.ready md ops listed, n ≤ j) :
    ∀ (f : Nat) (listed : Array Bool) (a : Act), HeadInv md ops n listed →
      (∀ j oj, ops[j]? = some oj → j ≠ i → listed.getD j true = false → (∀ e ∈ oj.after, Region.binds md e = true → e.on ≠ i) → oi.apart ops oj = true) →
      i ∈ Region.ready md ops listed → YieldsIn P ops C oi v a →
      wpAnyT P md ops C n L f (listed.setIfInBounds i true) (a.put oi.dst v) → wpAnyT P md ops C n L (f + 1) listed a := by
  intro f
  induction f with
  | zero =>
    intro listed a inv _ hr hy H
    have hun := (mem_ready.1 hr).1
    refine ⟨fun h => (by rw [h] at hr; cases hr), fun j hj => ?_⟩
    have hjn : j < n := by
      rcases Nat.lt_or_ge j n with h | h
      · exact h
      · exact absurd hj (tail_waits hs hc hn inv _ i rfl hin hun j h)
    refine ⟨hjn, ?_⟩
    by_cases hji : j = i
    · subst hji; exact hy.qOp hi H
    · have := hdone _ _ H j (ready_mono hj hji)
      omega
  | succ f ih =>
    intro listed a inv hfree hr hy H
    have hun := (mem_ready.1 hr).1
    refine ⟨fun h => (by rw [h] at hr; cases hr), fun j hj => ?_⟩
    have hjn : j < n := by
      rcases Nat.lt_or_ge j n with h | h
      · exact h
      · exact absurd hj (tail_waits hs hc hn inv _ i rfl hin hun j h)
    refine ⟨hjn, ?_⟩
    by_cases hji : j = i
    · subst hji; exact hy.qOp hi H
    · have h1 := (H.2 j (ready_mono hj hji)).2
      obtain ⟨hjun, oj, hoj, hall⟩ := mem_ready.1 hj
      have hnot : ∀ e ∈ oj.after, Region.binds md e = true → e.on ≠ i := fun e he hb heq => by
        have h1 := hall e he hb
        rw [heq, getD_both hun] at h1
        cases h1
      have h2 := qOp_put hoj (hfree j oj hoj hji hjun hnot) (fun cs b => hsel i oi cs b hi) (fun cs b => hsel j oj cs b hoj) hy h1
      have hfree' : ∀ k ok, ops[k]? = some ok → k ≠ i → (listed.setIfInBounds j true).getD k true = false →
          (∀ e ∈ ok.after, Region.binds md e = true → e.on ≠ i) → oi.apart ops ok = true := fun k ok hk hki hun hno => by
        refine hfree k ok hk hki ?_ hno
        by_cases hjk : j = k
        · subst hjk; exact hjun
        · rw [getD_set_ne true hjk] at hun; exact hun
      refine qOp_mono (fun a' h3 => ih (listed.setIfInBounds j true) a' (inv.set hj hjn) hfree' (ready_mono hr (Ne.symm hji)) h3.1 ?_) h2
      rw [Array.setIfInBounds_comm _ _ hji]
      exact h3.2
theorem wpAnyT_lex {n g : Nat} {Lq : Act → Prop} (hsel : Region.noSelect ops = true) (hs : Region.sinkB md ops n = true) (hc : Region.chainB md ops n = true) (hn : n < ops.size) :
    ∀ (l : List Oper) (k : Nat) (listed : Array Bool) (a : Act), (∀ j, j < l.length → l[j]? = ops[k + j]?) → k + l.length = n → HeadInv md ops n listed →
    Region.lexHead md ops g l.length k listed = true → wpQuiet P ops C Lq l a →
    wpAnyT P md ops C n (fun listed' a' => Region.seqB md ops g n listed' = true ∧ Lq a') l.length listed a
  | [], k, listed, a, _, hk, _, hB, h => by
    have : k = n := by simpa using hk
    subst this
    exact ⟨by simpa [Region.lexHead] using hB, h⟩
  | o :: l, k, listed, a, hl, hk, inv, hB, h => by
    have h0 : ops[k]? = some o := by simpa using (hl 0 (by simp)).symm
    simp only [List.length_cons, Region.lexHead, Bool.and_eq_true] at hB
    obtain ⟨⟨hr, hf⟩, hB'⟩ := hB
    have hkn : k < n := by simp only [List.length_cons] at hk; omega
    have hr' : k ∈ Region.ready md ops listed := by simpa using hr
    have hst : qOp P ops C k (wpQuiet P ops C Lq l) a := by unfold qOp; simp only [h0]; exact h
    obtain ⟨v, hy, hK⟩ := yieldsIn_of_qOp h0 hst
    exact wpAnyT_first h0 (Region.noSelect_spec hsel) hs hc hn hkn (fun listed' a' hL => seqB_ready hL.1) l.length listed a inv (Region.free_spec h0 hf) hr' hy
      (wpAnyT_lex hsel hs hc hn l (k + 1) _ _ (fun j hj => by have := hl (j + 1) (by simp; omega); simpa [Nat.add_assoc, Nat.add_comm 1 j] using this) (by simp only [List.length_cons] at hk; omega) (inv.set hr' hkn) hB' hK)
theorem wp_region_quiet_tail {id : Nat} {Q : Exit → Act → World → Prop} {a : Act} {w : World} {l : List Oper} (n : Nat) (hm : P.follows .mixedOrders = true) (hB : Region.lexTailB .any l.toArray n = true) (hC : C { w with drawn := w.drawn + 1 })
    (h : wpQuiet P l.toArray C (fun a' => ∀ w', C w' → wpList P l.toArray Q (l.drop n) a' w') (l.take n) a) : (Code.region id l.toArray true).wp P Q a w := by
  simp only [Region.lexTailB, Bool.and_eq_true, decide_eq_true_eq] at hB
  obtain ⟨⟨⟨⟨hsel, hn⟩, hs⟩, hc⟩, hlex⟩ := hB
  have hn' : n < l.length := by simpa using hn
  have htl : (l.take n).length = n := by simp; omega
  have hdl : (l.drop n).length = l.toArray.size - n := by simp
  have inv0 : HeadInv .any l.toArray n (Array.replicate l.toArray.size false) :=
    ⟨by simp, fun j oj _ hl => (by rw [getD_replicate_false] at hl; cases hl), fun t _ ht => getD_in (by simpa using ht) (getD_replicate_false _ _)⟩
  have H := wpAnyT_lex (md := .any) (g := l.toArray.size - n) hsel hs hc hn (l.take n) 0 _ a (fun j hj => by
    have hj' : j < n := by rw [htl] at hj; exact hj
    simp [hj']) (by simpa using htl) inv0 (by rw [htl]; exact hlex) h
  refine wp_region_any hm ?_
  have := wpAny_of_headT (Q' := Q) (g := l.toArray.size - n) (C := C) (fun listed a' w' hw' hL => by
    have := wpAny_of_seq (Q' := Q) (l.drop n) n listed a' w' (fun j => by simp) (by rw [hdl]; exact hL.1) (hL.2 w' hw')
    rwa [hdl] at this) _ _ _ _ hC H
  rw [htl, show n + (l.toArray.size - n) = l.toArray.size by omega] at this
  exact this
end
theorem wp_region_past_tail {P : Program} {id : Nat} {Q : Exit → Act → World → Prop} {a : Act} {w : World} {l : List Oper} (V : World) (n : Nat) (hm : P.follows .mixedOrders = true) (hB : Region.lexTailB .any l.toArray n = true) (hV : Below V.heap.size V w)
    (h : wpQuiet P l.toArray (fun w' => ∃ p : Past V, w' = p.w) (fun a' => ∀ w', (∃ p : Past V, w' = p.w) → wpList P l.toArray Q (l.drop n) a' w') (l.take n) a) : (Code.region id l.toArray true).wp P Q a w :=
  wp_region_quiet_tail (C := fun w' => ∃ p : Past V, w' = p.w) n hm hB ⟨⟨_, hV.drew⟩, rfl⟩ h
end Go.Proofs.Ytfelpjacccclkaa
namespace Go.Proofs.Ytfelpjacccclkaa
open Go Go.RowKit

theorem lies_take {w : World} {B : Nat} {A : Option Addr} {l : List Wr} {q : Nat} (h : Lies 4 Wr.cells w B A l) : Lies 4 Wr.cells w B A (l.take q) := fun hp => by
  have hl : 0 < l.length := by rw [List.length_take] at hp; omega
  obtain ⟨b, o, e, hb, hc⟩ := h hl
  refine ⟨b, o, e, hb, fun i x hi j u hj => hc i x ?_ j u hj⟩
  rw [List.getElem?_take] at hi
  split at hi
  · exact hi
  · cases hi
theorem visbox (w : World) : Below w.heap.size w (w.alloc (.cells #[.slice none 0 0, .int .i64 0] 55)).drew ∧ Own (w.alloc (.cells #[.slice none 0 0, .int .i64 0] 55)).drew w.heap.size 55 [.slice none 0 0, .int .i64 0] :=
  ⟨Below.drew ((Below.refl _ _).alloc (Nat.le_refl _) _), Own.made w _ _⟩
def CrashMid (w1 wx : World) (G : Nat) (m : List Fl) (b : Nat) : Prop :=
  ∃ A c l, VisAt wx w1.heap.size G 0 55 [.slice A l.length c, .int .i64 (szF (flV l) : Int)] A c l ∧ flV l = m ∧ wtV l ≤ b ∧ Below w1.heap.size w1 wx ∧ w1.heap.size ≤ G
theorem left_eq {x : Dl} {keep tear : Int} {q : Nat} (hq : q = keepN keep x.waits.length) : leftD x.d keep tear = tornF (lookF x.files (x.waits.take q)) x.waits[q]? tear := by
  rw [hq]; rfl
def CrashEnd (w wx w1 : World) (G : Nat) (x : Dl) (keep tear : Int) : Prop :=
  ∃ A c l cs, VisAt wx w1.heap.size G 0 55 cs A c l ∧ flV l = leftD x.d keep tear ∧ Own wx w.heap.size 25 x.cells ∧ Own wx (w.heap.size + 1) 25 zero5 ∧ Below w.heap.size w wx ∧ w1.heap.size ≤ G
theorem crash_mid1 {w1 W w2 : World} {A : Option Addr} {c b b' : Nat} {l : List Vf} {m : List Fl} (bW : Below w1.heap.size w1 W) (ob : Own w2 w1.heap.size 55 [.slice none 0 0, .int .i64 0]) (hv : Vis w2 W.heap.size A c l) (hfl : flV l = m) (hs : SortedN (namesV l)) (hwt : wtV l ≤ b') (hB : Below W.heap.size W w2) (hb : b ≤ 1099511627776) (hbb : b' ≤ b) (hin : w1.heap.size < W.heap.size := by simp) :
    CrashMid w1 ((w2.setCell ⟨w1.heap.size, 0, none⟩ (.slice A l.length c)).setCell ⟨w1.heap.size, 1, none⟩ (.int .i64 (szF (flV l) : Int))) w1.heap.size m b := by
  have kk : Kept w2 ((w2.setCell ⟨w1.heap.size, 0, none⟩ (.slice A l.length c)).setCell ⟨w1.heap.size, 1, none⟩ (.int .i64 (szF (flV l) : Int))) (fun k => k = w1.heap.size) := ((Kept.refl w2 (fun k => k = w1.heap.size)).set_ (.inl rfl) _).set_ (.inl rfl) _
  have hb2 : Below w1.heap.size w1 w2 := bW.trans (hB.mono bW.size)
  refine ⟨A, c, l, ⟨(ob.set_ 0 _).set_ 1 _, rfl, rfl, (hv.kept kk (fun k e he => by have := (hv.lt k e).1; omega)).lower (by omega), fun e => by have := (hv.lt _ e).1; omega, hs, by omega, Nat.le_trans hb2.size kk.size⟩, hfl, by omega, hb2.trans (kk.below (fun k e => by omega) hb2.size), Nat.le_refl _⟩
theorem crash_mid2 {w1 w2 : World} {A : Option Addr} {c b b' : Nat} {l : List Vf} {m : List Fl} (hv : Vis w2 w1.heap.size A c l) (hfl : flV l = m) (hs : SortedN (namesV l)) (hwt : wtV l ≤ b') (hB : Below w1.heap.size w1 w2) (hb : b ≤ 1099511627776) (hbb : b' ≤ b) :
    CrashMid w1 (w2.alloc (.cells #[.slice A l.length c, .int .i64 (szF (flV l) : Int)] 55)) w2.heap.size m b := by
  obtain ⟨V, hV, h1, h2, h3, h4⟩ := looked_box 55 hv hs hwt (by omega) hB
  rw [← hV]
  exact ⟨A, c, l, h4, hfl, by omega, h1, hB.size⟩
set_option maxRecDepth 100000 in
set_option maxHeartbeats 3200000 in
theorem dcrash_any (x : Dl) (keep tear : Int) (w : World) (h : DIn w w.heap.size x) (ok : DOk x) :
    Calls Try.prog 22 #[x.val, .int .i64 keep, .int .i64 tear] w fun e w' => Gives w w' e (crashD x.d keep tear) := by
  obtain ⟨V, hV, hVb, hVs, oD, oR⟩ := do_box w x
  have hk := h.keep hVb
  have y1 := Lib.hid (dcheck_any x V hk ok)
  have H := Lib.hid (And.intro hVb (And.intro hVs (And.intro oR (And.intro ok (And.intro hk oD)))))
  obtain ⟨d0, d1, d2, d3, d4⟩ := own5 oD
  unfold Dl.val at y1
  unfold chkD at y1
  unfold Dl.val crashD
  clear h ok hk hVb hVs oD oR
  cases hg : goodD x.d
  · rw [hg] at y1
    simp only [Bool.false_eq_true, if_false] at y1 ⊢
    clear hg
    go_enter Try.func22, Try.ntmps22
    go_upto_region 1 with fail
    rw [← hV]
    clear hV
    go_wp2_with fail
    refine y1.out.mono ?_
    rintro _ w1 ⟨rfl, b1⟩
    have oR1 := H.out.2.2.1.past b1 H.out.2.2.1.inside
    obtain ⟨r0, r1, r2, r3, r4⟩ := own5 oR1
    obtain ⟨f0, f1, f2, f3, f4⟩ := open5 oR1
    have oE := set5_own oR1 (.slice none 0 0) (.slice none 0 0) (.int .i64 0) (.bool false) (.int .i64 0)
    have kE := set5_kept w1 (w.heap.size + 1) (.slice none 0 0) (.slice none 0 0) (.int .i64 0) (.bool false) (.int .i64 0)
    have hbw : Below w.heap.size w w1 := H.out.1.trans (b1.mono H.out.1.size)
    have HX := Lib.hid (hbw.trans (kE.below (fun k e => by omega) hbw.size))
    unfold set5 at oE HX
    obtain ⟨e0, e1, e2, e3, e4⟩ := own5 oE
    clear oR1 oE kE hbw b1 y1 d0 d1 d2 d3 d4
    go_wp2_with fail
    exact bodyPost_ret (v := .tuple #[.agg #[.slice none 0 0, .slice none 0 0, .int .i64 0, .bool false, .int .i64 0], .int .i64 8]) (by simp [results, Try.results22, go_sem, e0, e1, e2, e3, e4]) rfl ⟨HX.out, zeroDl, rfl, rfl, zero_din _⟩
  · rw [hg] at y1
    simp only [if_true] at y1 ⊢
    clear hg
    obtain ⟨q, hq⟩ : ∃ q, q = keepN keep x.waits.length := ⟨_, rfl⟩
    have hq1 : q ≤ x.waits.length := by rw [hq]; unfold keepN; omega
    have hq2 : (min (max keep 0) (x.waits.length : Int)) = (q : Int) := by rw [hq]; unfold keepN; omega
    have HQ := Lib.hid hq
    have hlw : x.waits.length ≤ 1099511627776 := by have := len_le_wtW x.waits; have := H.out.2.2.2.1.wt; unfold wtD Dl.d at this; dsimp only at this; omega
    clear hq
    go_enter Try.func22, Try.ntmps22
    go_upto_region 1 with fail
    rw [← hV]
    clear hV
    go_wp2_with fail
    refine y1.out.mono ?_
    rintro _ w1 ⟨rfl, b1⟩
    have oD1 := H.out.2.2.2.2.2.past b1 H.out.2.2.2.2.2.inside
    have k1 := H.out.2.2.2.2.1.keep b1
    clear d0 d1 d2 d3 d4 y1
    obtain ⟨d0, d1, d2, d3, d4⟩ := own5 oD1
    have H1 := Lib.hid (And.intro b1 (And.intro oD1 k1))
    have hcap : (q : Int) ≤ (x.wc : Int) := by have := k1.cap; omega
    have hq0 : (0 : Int) ≤ (q : Int) := by omega
    have hq3 : (q : Int).toNat = q := by omega
    clear b1 oD1 k1
    have htk : (x.waits.take q).length = q := by rw [List.length_take]; omega
    have y2 := fun W (hb : Below w1.heap.size w1 W) => Lib.hid (look_any x.fA x.wA x.fc x.wc x.files (x.waits.take q) W (H1.out.2.2.keep hb).files (lies_take (H1.out.2.2.keep hb).waits) (by have := wtW_le x.waits q; have := H.out.2.2.2.1.wt; unfold wtD Dl.d at this; dsimp only at this; omega))
    rw [htk] at y2
    have hbx := visbox w1
    have hDw : w.heap.size < w1.heap.size := H1.out.2.1.inside
    have d0' : (w1.alloc (.cells #[.slice none 0 0, .int .i64 0] 55)).cell? ⟨w.heap.size, 0, none⟩ = some (.slice x.fA x.files.length x.fc) := (hbx.1.cell (p := ⟨w.heap.size, 0, none⟩) hDw).trans d0
    have d1' : (w1.alloc (.cells #[.slice none 0 0, .int .i64 0] 55)).cell? ⟨w.heap.size, 1, none⟩ = some (.slice x.wA x.waits.length x.wc) := (hbx.1.cell (p := ⟨w.heap.size, 1, none⟩) hDw).trans d1
    go_wp2_with fail
    go_cut [9] (fun s9 wx => ∃ G, s9 = .pointer (some ⟨G, 0, none⟩) ∧ CrashMid w1 wx G (lookF x.files (x.waits.take q)) (wtF x.files + wtW (x.waits.take q)))
    case first =>
      go_region_with (go_at_call 41; refine (y2 _ (by first | exact hbx.1 | exact Below.drew (Below.refl _ _))).out.mono ?_; rintro _ w2 ⟨A, c, l, rfl, hv, hfl, hs, hwt, hB⟩; replace hfl := Lib.hid hfl; first | (have ob := hbx.2.past hB hbx.2.inside; have p0 := ob.at_ 0; have p1 := ob.at_ 1; have z0 := ob.open_ 0; have z1 := ob.open_ 1; simp only [List.getElem?_cons_zero, List.getElem?_cons_succ] at p0 p1) | skip)
      all_goals
        go_wp2_with fail
        go_meet
        first
          | exact ⟨_, rfl, crash_mid1 (w1 := w1) hbx.1 ob hv hfl.out hs hwt hB (by have := wtW_le x.waits q; have := H.out.2.2.2.1.wt; unfold wtD Dl.d at this; dsimp only at this; omega) (Nat.le_refl _)⟩
          | exact ⟨_, rfl, crash_mid2 (w1 := w1) hv hfl.out hs hwt (below_undrew hB) (by have := wtW_le x.waits q; have := H.out.2.2.2.1.wt; unfold wtD Dl.d at this; dsimp only at this; omega) (Nat.le_refl _)⟩
    case rest =>
      obtain ⟨G, rfl, A, c, l, hat, hfl, hwt, hB, hGb⟩ := hcut
      have oD2 := H1.out.2.1.past hB H1.out.2.1.inside
      have k2 := H1.out.2.2.keep hB
      have oR2 := (H.out.2.2.1.past H1.out.1 H.out.2.2.1.inside).past hB (H.out.2.2.1.past H1.out.1 H.out.2.2.1.inside).inside
      have hbw : Below w.heap.size w wc := H.out.1.trans ((H1.out.1.trans (hB.mono H1.out.1.size)).mono H.out.1.size)
      clear d0 d1 d2 d3 d4 d0' d1' hbx y2
      obtain ⟨d0, d1, d2, d3, d4⟩ := own5 oD2
      have hGw := hat.inside
      have HC := Lib.hid (And.intro hat (And.intro hfl (And.intro hwt (And.intro oD2 (And.intro k2 (And.intro oR2 hbw))))))
      clear hat hfl hwt oD2 k2 oR2 hbw hB
      obtain ⟨t6, ht6⟩ : ∃ t6, t6 = (match x.waits[q]? with | some r => decide (r.k = 1 ∧ 1 ≤ tear) | none => false) := ⟨_, rfl⟩
      have HT := Lib.hid ht6
      clear ht6
      go_upto_region 6 with fail
      go_cut [47] (fun s47 wx => s47 = .bool t6 ∧ wc = wx)
      case first =>
        by_cases hlt : q < x.waits.length
        · have hx : x.waits[q]? = some x.waits[q] := List.getElem?_eq_getElem hlt
          have ht := HT.out
          rw [hx] at ht
          obtain ⟨b, o, hA, hB, hxs⟩ := HC.out.2.2.2.2.1.waits (by omega)
          have x0 := hxs q _ hx 0 _ rfl
          rw [hA] at d1
          generalize x.waits[q] = r at *
          dsimp only at ht
          simp only [Nat.add_zero] at x0
          have hwq : q < x.wc := by have := HC.out.2.2.2.2.1.cap; omega
          by_cases hk1 : r.k = 1
          · by_cases hte : 1 ≤ tear
            · have t1 : decide (1 ≤ tear) = true := decide_eq_true hte
              have hz := Lib.hid (show t6 = true by rw [ht]; exact decide_eq_true ⟨hk1, hte⟩)
              rw [hk1] at x0
              clear hte ht hk1 hx hxs
              go_wp2_with fail
              go_meet
              exact ⟨by rw [hz.out], rfl⟩
            · have t1 : decide (1 ≤ tear) = false := decide_eq_false hte
              have hz := Lib.hid (show t6 = false by rw [ht]; exact decide_eq_false (fun e => hte e.2))
              rw [hk1] at x0
              clear hte ht hk1 hx hxs
              go_wp2_with fail
              go_meet
              exact ⟨by rw [hz.out], rfl⟩
          · have t1 : (r.k == 1) = false := beq_eq_false_iff_ne.2 hk1
            have hz := Lib.hid (show t6 = false by rw [ht]; exact decide_eq_false (fun e => hk1 e.1))
            clear ht hk1 hx hxs
            go_wp2_with fail
            go_meet
            exact ⟨by rw [hz.out], rfl⟩
        · have hz := Lib.hid (show t6 = false by rw [HT.out, List.getElem?_eq_none (by omega)])
          have t1 : decide (q < x.waits.length) = false := decide_eq_false hlt
          have t2 : decide ((q : Int) < (x.waits.length : Int)) = false := decide_eq_false (by omega)
          clear hlt
          go_wp2_with fail
          go_meet
          exact ⟨by rw [hz.out], rfl⟩
      case rest =>
        obtain ⟨rfl, rfl⟩ := hcut
        go_upto_if 47 with fail
        go_cut [8] (fun s8 wx => s8 = .int .i64 0 ∧ CrashEnd w wx w1 G x keep tear)
        case first =>
          cases t6
          · have hz := HT.out
            have he : leftD x.d keep tear = lookF x.files (x.waits.take q) := by
              rw [left_eq HQ.out]
              cases hx : x.waits[q]? with
              | none => rfl
              | some r =>
                rw [hx] at hz
                have h2 := of_decide_eq_false hz.symm
                exact if_neg h2
            have HE := Lib.hid he
            clear hz he
            go_wp2_with fail
            go_meet
            exact ⟨rfl, A, c, l, _, HC.out.1, by rw [HE.out]; exact HC.out.2.1, HC.out.2.2.2.1, HC.out.2.2.2.2.2.1, HC.out.2.2.2.2.2.2, hGb⟩
          · obtain ⟨r, hx, hk1, hte⟩ : ∃ r, x.waits[q]? = some r ∧ r.k = 1 ∧ 1 ≤ tear := by
              have hz := HT.out
              cases hx : x.waits[q]? with
              | none => rw [hx] at hz; cases hz
              | some r =>
                rw [hx] at hz
                have h2 := of_decide_eq_true hz.symm
                exact ⟨r, rfl, h2.1, h2.2⟩
            have hlt := (List.getElem?_eq_some_iff.1 hx).1
            have he : leftD x.d keep tear = extF (lookF x.files (x.waits.take q)) r.n (r.d.extract 0 (min tear.toNat r.d.size)) := by
              rw [left_eq HQ.out, hx]
              exact if_pos ⟨hk1, hte⟩
            have HE := Lib.hid he
            obtain ⟨b, o, hA, hB, hxs⟩ := HC.out.2.2.2.2.1.waits (by omega)
            have x0 := hxs q _ hx 0 _ rfl
            have x1 := hxs q _ hx 1 _ rfl
            have x2 := hxs q _ hx 2 _ rfl
            have x3 := hxs q _ hx 3 _ rfl
            rw [hA] at d1
            clear hA
            simp only [Nat.add_zero] at x0
            obtain ⟨m, hm⟩ : ∃ m, m = min tear.toNat r.d.size := ⟨_, rfl⟩
            have hm1 : m ≤ r.d.size := by omega
            have hm2 : (min tear (r.d.size : Int)) = (m : Int) := by omega
            have hm3 : (m : Int) ≤ (r.d.size : Int) := by omega
            have hm0 : (0 : Int) ≤ (m : Int) := by omega
            have hsz : (r.d.extract 0 m).size ≤ r.d.size := by rw [ByteArray.size_extract]; omega
            rw [← hm] at HE
            have hwx : wtW (x.waits.take q) + 2 + r.d.size ≤ wtW x.waits := by have := wtW_take hx; have := wtW_le x.waits (q + 1); omega
            obtain ⟨W5, hW5, bW5, sW5, oW5⟩ := wrbox wc r
            have y5 := fun W (hb : Below W5.heap.size W5 W) => Lib.hid (extend_any w1.heap.size G 0 _ _ A c l r.n (r.d.extract 0 m) W ((HC.out.1.below bW5).below hb) (by have h1 := HC.out.2.2.1; have h2 := H.out.2.2.2.1.wt; unfold wtD Dl.d at h2; dsimp only at h2; omega))
            have e0 := oW5.at_ 0
            have e1 := oW5.at_ 1
            have e2 := oW5.at_ 2
            have e3 := oW5.at_ 3
            simp only [Wr.cells, List.getElem?_cons_zero, List.getElem?_cons_succ] at e0 e1 e2 e3
            have H5 := Lib.hid bW5
            have hB10 := oW5.inside
            have hwq : q < x.wc := by have := HC.out.2.2.2.2.1.cap; omega
            have hex : ByteArray.extract r.d 0 m = r.d.extract 0 m := rfl
            have hVs := Lib.hid H.out.2.1
            clear hx hk1 hte he hxs hsz hwx bW5 sW5 oW5 hm
            go_upto_region 8 with fail
            rw [← hW5]
            clear hW5
            have g0 := fun p : Past W5 => (p.h.cell (p := ⟨wc.heap.size, 0, none⟩) hB10).trans e0
            have g1 := fun p : Past W5 => (p.h.cell (p := ⟨wc.heap.size, 1, none⟩) hB10).trans e1
            have g2 := fun p : Past W5 => (p.h.cell (p := ⟨wc.heap.size, 2, none⟩) hB10).trans e2
            have g3 := fun p : Past W5 => (p.h.cell (p := ⟨wc.heap.size, 3, none⟩) hB10).trans e3
            clear e0 e1 e2 e3
            refine wp_region_past_tail W5 10 (by kernel_rfl) (by kernel_rfl) (Below.refl _ _) ?_
            repeat (first | go_big_quiet_step (fail) | quiet_step (fail))
            refine wpQuiet_nil ?_
            intro wz hw'
            obtain ⟨⟨wy, hbz⟩, hw''⟩ := hw'
            dsimp only at hw''
            subst hw''
            go_wp2_with fail
            refine (y5 _ hbz).out.mono ?_
            rintro _ w6 ⟨rfl, A', c', l', hv6, hfl6, _⟩
            replace hfl6 := Lib.hid hfl6
            have kk := hv6.kept
            have hG1 : w.heap.size + 1 < w1.heap.size := by have := H1.out.1.size; have := hVs.out; omega
            have hno : ∀ z, z < w1.heap.size → ¬ (z = G ∨ Fp A l z) := fun z hz e => by
              rcases e with e | e
              · omega
              · have := (HC.out.1.vis.lt z e).1; omega
            have oD6 := kk.own (((HC.out.2.2.2.1.past H5.out HC.out.2.2.2.1.inside).past hbz (HC.out.2.2.2.1.past H5.out HC.out.2.2.2.1.inside).inside)) (hno _ (by omega))
            have oR6 := kk.own (((HC.out.2.2.2.2.2.1.past H5.out HC.out.2.2.2.2.2.1.inside).past hbz (HC.out.2.2.2.2.2.1.past H5.out HC.out.2.2.2.2.2.1.inside).inside)) (hno _ (by omega))
            have hbz2 : Below w.heap.size w wz := HC.out.2.2.2.2.2.2.trans ((H5.out.trans (hbz.mono H5.out.size)).mono HC.out.2.2.2.2.2.2.size)
            have hbw6 : Below w.heap.size w w6 := hbz2.trans (kk.below (fun z e => by
              rcases e with e | e
              · omega
              · have := (HC.out.1.vis.lt z e).1; omega) hbz2.size)
            have HE6 := Lib.hid (And.intro hv6.at_ (And.intro oD6 (And.intro oR6 hbw6)))
            clear hv6 kk oD6 oR6 hbw6 hno y5
            go_wp2_with fail
            go_meet
            exact ⟨rfl, A', c', l', _, HE6.out.1, by rw [hfl6.out, HE.out, HC.out.2.1], HE6.out.2.1, HE6.out.2.2.1, HE6.out.2.2.2, hGb⟩
        case rest =>
          obtain ⟨rfl, A', c', l', cs', hat, hfl, oD2, oR2, hbw, _⟩ := hcut
          have y9 := fun W (hb : Below wc.heap.size wc W) => Lib.hid (list_any w1.heap.size G 0 _ _ A' c' l' W (hat.below hb))
          have hln : l'.length = (leftD x.d keep tear).length := by rw [← hfl]; unfold flV; simp
          rw [hfl, hln] at y9
          clear d0 d1 d2 d3 d4
          obtain ⟨d0, d1, d2, d3, d4⟩ := own5 oD2
          have HL := Lib.hid (And.intro oD2 (And.intro oR2 hbw))
          clear hat hfl hln oD2 oR2 hbw
          go_wp2_with fail
          go_region_with (go_at_call 31; refine (y9 _ (Below.drew (Below.refl _ _))).out.mono ?_; rintro _ w7 ⟨v, rfl, rv, b7⟩; obtain ⟨A2, c2', rfl⟩ := row_slice rv; have oD7 := (own_drew HL.out.1).past b7 (own_drew HL.out.1).inside; have oR7 := (own_drew HL.out.2.1).past b7 (own_drew HL.out.2.1).inside; obtain ⟨g0, g1, g2, g3, g4⟩ := own5 oD7; obtain ⟨r0, r1, r2, r3, r4⟩ := own5 oR7; obtain ⟨f0, f1, f2, f3, f4⟩ := open5 oR7)
          all_goals
            have oE := set5_own oR7 (.slice A2 (leftD x.d keep tear).length c2') (.slice none 0 0) (.int .i64 x.room) (.bool false) (.int .i64 (-1))
            have kE := set5_kept w7 (w.heap.size + 1) (.slice A2 (leftD x.d keep tear).length c2') (.slice none 0 0) (.int .i64 x.room) (.bool false) (.int .i64 (-1))
            have hbw7 : Below w.heap.size w w7 := HL.out.2.2.trans ((below_undrew b7).mono HL.out.2.2.size)
            have hRl : w.heap.size + 1 < wc.heap.size := HL.out.2.1.inside
            have HF := Lib.hid (And.intro (hbw7.trans (kE.below (fun k e => by omega) hbw7.size)) (row_lies (size := 2) (cells := Fl.cells) (by decide) (fun _ => rfl) (kE.row rv (fun k e he => by have h1 : wc.heap.size ≤ k := (rv.lt k e).1; omega))))
            unfold set5 at oE HF
            obtain ⟨e0, e1, e2, e3, e4⟩ := own5 oE
            clear oE kE hbw7 rv b7 oD7 oR7 y9
            go_wp2_with fail
            exact bodyPost_ret (v := .tuple #[.agg #[.slice A2 (leftD x.d keep tear).length c2', .slice none 0 0, .int .i64 x.room, .bool false, .int .i64 (-1)], .int .i64 0]) (by simp [results, Try.results22, go_sem, e0, e1, e2, e3, e4]) rfl ⟨HF.out.1, ⟨A2, c2', leftD x.d keep tear, none, 0, [], x.room, false, -1⟩, rfl, rfl, HF.out.2, fun h => absurd h (by simp), Nat.le_refl _⟩
end Go.Proofs.Ytfelpjacccclkaa
namespace Go.Proofs.Ytfelpjacccclkaa
open Go Go.RowKit

def nA : ByteArray := ⟨#[97]⟩
def nB : ByteArray := ⟨#[98]⟩
def nC : ByteArray := ⟨#[99]⟩
def tX : ByteArray := ⟨#[120]⟩
def tYZ : ByteArray := ⟨#[121, 122]⟩
def tXYZ : ByteArray := ⟨#[120, 121, 122]⟩
def tXY : ByteArray := ⟨#[120, 121]⟩
def t7 : ByteArray := ⟨#[49, 50, 51, 52, 53, 54, 55]⟩
def e0 : ByteArray := ⟨#[]⟩
def wA : Wr := ⟨1, nA, e0, tX⟩
def wB : Wr := ⟨1, nA, e0, tYZ⟩
def wC : Wr := ⟨2, nA, nB, e0⟩
def wD : Wr := ⟨1, nC, e0, t7⟩
def k0 : Dk := ⟨[], [], 9, false, -1⟩
def k1 : Dk := ⟨[], [wA], 9, false, -1⟩
def k2 : Dk := ⟨[⟨nA, tX⟩], [], 9, false, -1⟩
def k3 : Dk := ⟨[⟨nA, tX⟩], [wB, wC], 9, false, -1⟩
def k4 : Dk := ⟨[⟨nA, tXY⟩], [], 9, false, -1⟩
theorem lv1 : doD k0 [wA] = (k1, 0) := by kernel_rfl
theorem lv2 : syncD k1 = (k2, 0) := by kernel_rfl
theorem lv3 : doD k2 [wB, wC] = (k3, 0) := by kernel_rfl
theorem lv4 : readD k3 nB = (tXYZ, 0) := by kernel_rfl
theorem lv5 : crashD k3 0 1 = (k4, 0) := by kernel_rfl
theorem lv6 : readD k4 nA = (tXY, 0) := by kernel_rfl
theorem lv7 : (doD k3 [wD]).2 = 9 := by kernel_rfl
set_option maxHeartbeats 1600000 in
theorem add_any (a b : ByteArray) (w : World) :
    Calls Try.prog 33 #[.string a, .string b] w fun e w' => e = .returned (.agg #[.int .u8 1, .string a, .string ⟨#[]⟩, .string b]) ∧ Below w.heap.size w w' := by
  obtain ⟨V, hV, bV, sV, oV⟩ := wrbox w ⟨0, ⟨#[]⟩, ⟨#[]⟩, ⟨#[]⟩⟩
  have f0 := oV.open_ 0
  have f1 := oV.open_ 1
  have f2 := oV.open_ 2
  have f3 := oV.open_ 3
  have c0 := oV.at_ 0
  have c1 := oV.at_ 1
  have c2 := oV.at_ 2
  have c3 := oV.at_ 3
  have oE := (((oV.set_ 0 (.int .u8 1)).set_ 1 (.string a)).set_ 2 (.string ⟨#[]⟩)).set_ 3 (.string b)
  have kE := ((((Kept.refl V (fun k => k = w.heap.size)).set_ (o := 0) (.inl rfl) (.int .u8 1)).set_ (o := 1) (.inl rfl) (.string a)).set_ (o := 2) (.inl rfl) (.string ⟨#[]⟩)).set_ (o := 3) (.inl rfl) (.string b)
  have HX := Lib.hid (bV.trans (kE.below (fun k e => by omega) bV.size))
  have g0 := oE.at_ 0
  have g1 := oE.at_ 1
  have g2 := oE.at_ 2
  have g3 := oE.at_ 3
  simp only [Wr.cells, List.set, List.getElem?_cons_zero, List.getElem?_cons_succ] at c0 c1 c2 c3 g0 g1 g2 g3
  clear oE kE bV sV oV
  go_enter Try.func33, Try.ntmps33
  go_upto_region 1 with fail
  rw [← hV]
  clear hV
  go_wp2_with fail
  exact bodyPost_ret (v := .agg #[.int .u8 1, .string a, .string ⟨#[]⟩, .string b]) (by simp [results, Try.results33, go_sem, g0, g1, g2, g3]) rfl ⟨rfl, HX.out⟩
end Go.Proofs.Ytfelpjacccclkaa
namespace Go.Proofs.Ytfelpjacccclkaa
open Go Go.RowKit

theorem lies4_own {W : World} {G : Nat} {t : TypeId} {l : List Wr} (h : Own W G t (l.flatMap Wr.cells)) : Lies 4 Wr.cells W W.heap.size (some ⟨G, 0, none⟩) l := fun _ =>
  ⟨G, 0, rfl, h.inside, fun i x hi j u hj => by rw [show 0 + i * 4 + j = i * 4 + j by omega, h.at_]; exact flat_of (size := 4) (cells := Wr.cells) (fun _ => rfl) l i j x u hi hj⟩
structure DTold (k : Dk) (n : Nat) : Prop where
  wt : wtD k + n ≤ 1099511627776
  fuse : -9223372036854775808 ≤ k.fuse ∧ k.fuse ≤ 9223372036854775807
theorem DTold.ok {y : Dl} {k : Dk} {n : Nat} (h : DTold k n) (e : y.d = k) : DOk y := by
  subst e; exact ⟨by have := h.wt; omega, h.fuse⟩
/-- a disk told and an error, handed back -/
def Gv (w w' : World) (e : Ending) (k : Dk) (n : Int) : Prop :=
  Below w.heap.size w w' ∧ ∃ z : Dl, e = .returned (.tuple #[.agg #[.slice z.fA z.files.length z.fc, .slice z.wA z.waits.length z.wc, .int .i64 z.room, .bool z.down, .int .i64 z.fuse], .int .i64 n]) ∧ z.d = k ∧ DIn w' w'.heap.size z
theorem do_at {W : World} {y : Dl} {k k' : Dk} {n : Int} {ws : List Wr} {B : Option Addr} (c : Nat) (hd : DIn W W.heap.size y) (hk : y.d = k) (hs : doD k ws = (k', n)) (hws : Lies 4 Wr.cells W W.heap.size B ws) (ht : DTold k (wtW ws)) :
    RowKit.Hid (Calls Try.prog 9 #[.agg #[.slice y.fA y.files.length y.fc, .slice y.wA y.waits.length y.wc, .int .i64 y.room, .bool y.down, .int .i64 y.fuse], .slice B ws.length c] W fun e w' => Gv W w' e k' n) := by
  subst hk
  have h := do_any y B c ws W hd hws (ht.ok rfl) ht.wt
  rw [hs] at h
  exact Lib.hid h
theorem sync_at {W : World} {y : Dl} {k k' : Dk} {n : Int} (hd : DIn W W.heap.size y) (hk : y.d = k) (hs : syncD k = (k', n)) (ht : DTold k 0) :
    RowKit.Hid (Calls Try.prog 11 #[.agg #[.slice y.fA y.files.length y.fc, .slice y.wA y.waits.length y.wc, .int .i64 y.room, .bool y.down, .int .i64 y.fuse]] W fun e w' => Gv W w' e k' n) := by
  subst hk
  have h := dsync_any y W hd (ht.ok rfl)
  rw [hs] at h
  exact Lib.hid h
theorem crash_at {W : World} {y : Dl} {k k' : Dk} {n : Int} (a b : Int) (hd : DIn W W.heap.size y) (hk : y.d = k) (hs : crashD k a b = (k', n)) (ht : DTold k 0) :
    RowKit.Hid (Calls Try.prog 22 #[.agg #[.slice y.fA y.files.length y.fc, .slice y.wA y.waits.length y.wc, .int .i64 y.room, .bool y.down, .int .i64 y.fuse], .int .i64 a, .int .i64 b] W fun e w' => Gv W w' e k' n) := by
  subst hk
  have h := dcrash_any y a b W hd (ht.ok rfl)
  rw [hs] at h
  exact Lib.hid h
theorem read_at {W : World} {y : Dl} {k : Dk} {n : Int} {s : ByteArray} (a : ByteArray) (hd : DIn W W.heap.size y) (hk : y.d = k) (hs : readD k a = (s, n)) (ht : DTold k 0) :
    RowKit.Hid (Calls Try.prog 17 #[.agg #[.slice y.fA y.files.length y.fc, .slice y.wA y.waits.length y.wc, .int .i64 y.room, .bool y.down, .int .i64 y.fuse], .string a] W fun e w' => e = .returned (.tuple #[.string s, .int .i64 n]) ∧ Below W.heap.size W w') := by
  subst hk
  have h := dread_any y a W hd (ht.ok rfl)
  rw [hs] at h
  exact Lib.hid h
/-- what lies as files or writes lies in no variable of a disk -/
theorem off_files {w : World} {B G : Nat} {t : TypeId} {y : Dl} {A : Option Addr} {l : List Fl} (h : Lies 2 Fl.cells w B A l) (o : Own w G t y.cells) : 0 < l.length → ∀ b q, A = some ⟨b, q, none⟩ → b ≠ G := fun hp b q e hb => by
  subst hb
  obtain ⟨b', q', e', _, hc⟩ := h hp
  rw [e] at e'
  obtain ⟨rfl, rfl⟩ : b = b' ∧ q = q' := by
    injection e' with e'; injection e' with e1 e2; exact ⟨e1, e2⟩
  have h0 := hc 0 l[0] (List.getElem?_eq_getElem hp) 0 _ rfl
  rw [o.at_] at h0
  unfold Dl.cells at h0
  match q, h0 with
  | 0, h0 => cases h0
  | 1, h0 => cases h0
  | 2, h0 => cases h0
  | 3, h0 => cases h0
  | 4, h0 => cases h0
  | q + 5, h0 => simp at h0
theorem off_waits {w : World} {B G : Nat} {t : TypeId} {y : Dl} {A : Option Addr} {l : List Wr} (h : Lies 4 Wr.cells w B A l) (o : Own w G t y.cells) : 0 < l.length → ∀ b q, A = some ⟨b, q, none⟩ → b ≠ G := fun hp b q e hb => by
  subst hb
  obtain ⟨b', q', e', _, hc⟩ := h hp
  rw [e] at e'
  obtain ⟨rfl, rfl⟩ : b = b' ∧ q = q' := by
    injection e' with e'; injection e' with e1 e2; exact ⟨e1, e2⟩
  have h0 := hc 0 l[0] (List.getElem?_eq_getElem hp) 0 _ rfl
  rw [o.at_] at h0
  unfold Dl.cells at h0
  match q, h0 with
  | 0, h0 => cases h0
  | 1, h0 => cases h0
  | 2, h0 => cases h0
  | 3, h0 => cases h0
  | 4, h0 => cases h0
  | q + 5, h0 => simp at h0
theorem kept_cell {w w' : World} {S : Nat → Prop} {b q : Nat} {u : Value} (k : Kept w w' S) (hn : ¬ S b) (hb : b < w.heap.size) (h : w.cell? ⟨b, q, none⟩ = some u) : w'.cell? ⟨b, q, none⟩ = some u := by
  have e := k.block b hb hn
  unfold World.cell? at h ⊢
  dsimp only at h ⊢
  rw [e]; exact h
/-- a variable that holds a disk, another one stored to it -/
theorem var_set {w : World} {G : Nat} {y z : Dl} (o : Own w G 25 y.cells) (h : DIn w w.heap.size z) :
    ∃ W, W = ((((w.setCell ⟨G, 0, none⟩ (.slice z.fA z.files.length z.fc)).setCell ⟨G, 1, none⟩ (.slice z.wA z.waits.length z.wc)).setCell ⟨G, 2, none⟩ (.int .i64 z.room)).setCell ⟨G, 3, none⟩ (.bool z.down)).setCell ⟨G, 4, none⟩ (.int .i64 z.fuse) ∧
      Own W G 25 z.cells ∧ DIn W W.heap.size z ∧ (∀ B, B ≤ G → Below B w W) := by
  have k := set5_kept w G (.slice z.fA z.files.length z.fc) (.slice z.wA z.waits.length z.wc) (.int .i64 z.room) (.bool z.down) (.int .i64 z.fuse)
  have oE := set5_own o (.slice z.fA z.files.length z.fc) (.slice z.wA z.waits.length z.wc) (.int .i64 z.room) (.bool z.down) (.int .i64 z.fuse)
  refine ⟨_, rfl, oE, ⟨fun hp => ?_, fun hp => ?_, h.cap⟩, fun B hB => k.below (fun b e => by omega) (by have := o.inside; omega)⟩
  · obtain ⟨b, q, e, hb, hc⟩ := h.files hp
    exact ⟨b, q, e, Nat.lt_of_lt_of_le hb k.size, fun i x hi j u hj => kept_cell k (off_files h.files o hp b q e) hb (hc i x hi j u hj)⟩
  · obtain ⟨b, q, e, hb, hc⟩ := h.waits hp
    exact ⟨b, q, e, Nat.lt_of_lt_of_le hb k.size, fun i x hi j u hj => kept_cell k (off_waits h.waits o hp b q e) hb (hc i x hi j u hj)⟩
theorem var_new {w : World} {z : Dl} (h : DIn w w.heap.size z) :
    ∃ W, W = w.alloc (.cells #[.slice z.fA z.files.length z.fc, .slice z.wA z.waits.length z.wc, .int .i64 z.room, .bool z.down, .int .i64 z.fuse] 25) ∧
      Own W w.heap.size 25 z.cells ∧ DIn W W.heap.size z ∧ Below w.heap.size w W := by
  obtain ⟨W, hW, hb, _, o⟩ := dbox w z
  exact ⟨W, hW, o, h.keep hb, hb⟩
end Go.Proofs.Ytfelpjacccclkaa
namespace Go.Proofs.Ytfelpjacccclkaa
open Go Go.RowKit

theorem grd_file (op : BinOp) (x y : Operand) (xs ys : Array Value) (w : World) : (eqGuard op 67 x y (.agg xs) (.agg ys)).run Try.prog w = .ok () w := run_eqGuard_agg w op _ x y xs ys (by kernel_rfl)
theorem grd_write (op : BinOp) (x y : Operand) (xs ys : Array Value) (w : World) : (eqGuard op 45 x y (.agg xs) (.agg ys)).run Try.prog w = .ok () w := run_eqGuard_agg w op _ x y xs ys (by kernel_rfl)
theorem neq_file (x : Fl) (w : World) : (binOp .neq 67 (.agg #[.string x.n, .string x.d]) (.agg #[.string x.n, .string x.d])).run Try.prog w = .ok (.bool false) w := by
  have u2 := Try.underlying9
  have z2 := Try.sizeOf9
  have a2 := Try.isAgg9
  have hS : Try.prog.underlying 67 = some (.struct (Try.prog.fieldsOf 67)) := by kernel_rfl
  have hp : Try.prog.stoodInHeld 67 = false := by kernel_rfl
  have h : (Op.equalIn 10000 67 (.agg #[.string x.n, .string x.d]) (.agg #[.string x.n, .string x.d])).run Try.prog w = .ok true w := by
    rw [show (10000 : Nat) = 9998 + 1 + 1 from rfl, run_equalIn_agg w _ _ _ _ hS hp]
    simp only [Program.fieldsOf, Try.underlying67]
    simp [Op.eqFields, part, a2, z2, run_equalIn_string w _ _ _ _ u2, go_sem]
  rw [run_neq_struct, h]; rfl
theorem neq_write (x : Wr) (w : World) : (binOp .neq 45 (.agg #[.int .u8 x.k, .string x.n, .string x.t, .string x.d]) (.agg #[.int .u8 x.k, .string x.n, .string x.t, .string x.d])).run Try.prog w = .ok (.bool false) w := by
  have u1 := Try.underlying43
  have u2 := Try.underlying9
  have z1 := Try.sizeOf43
  have a1 := Try.isAgg43
  have z2 := Try.sizeOf9
  have a2 := Try.isAgg9
  have hS : Try.prog.underlying 45 = some (.struct (Try.prog.fieldsOf 45)) := by kernel_rfl
  have hp : Try.prog.stoodInHeld 45 = false := by kernel_rfl
  have h : (Op.equalIn 10000 45 (.agg #[.int .u8 x.k, .string x.n, .string x.t, .string x.d]) (.agg #[.int .u8 x.k, .string x.n, .string x.t, .string x.d])).run Try.prog w = .ok true w := by
    rw [show (10000 : Nat) = 9998 + 1 + 1 from rfl, run_equalIn_agg w _ _ _ _ hS hp]
    simp only [Program.fieldsOf, Try.underlying45]
    simp [Op.eqFields, part, a1, a2, z1, z2, run_equalIn_int w _ _ _ _ _ _ u1, run_equalIn_string w _ _ _ _ u2, go_sem]
  rw [run_neq_struct, h]; rfl
set_option maxRecDepth 100000 in
set_option maxHeartbeats 1600000 in
theorem sameF_yes (A A' : Option Addr) (c c' : Nat) (l : List Fl) (w : World) (hl : Lies 2 Fl.cells w w.heap.size A l) (hm : Lies 2 Fl.cells w w.heap.size A' l) (hn : l.length ≤ 1099511627776) :
    Calls Try.prog 19 #[.slice A l.length c, .slice A' l.length c'] w fun e w' => e = .returned (.bool true) ∧ Below w.heap.size w w' := by
  have hlb : ((l.length : Int) != (l.length : Int)) = false := by simp
  have Hl := Lib.hid (And.intro hl hm)
  clear hl hm
  go_enter Try.func19, Try.ntmps19
  go_wp2_with fail
  go_loopw [13] (fun i wr => ∃ k : Nat, i = .int .i64 (k : Int) ∧ k ≤ l.length ∧ Below w.heap.size w wr)
    (fun i _ => l.length - (intOf i).toNat)
  case atStart => exact ⟨0, rfl, by omega, Below.refl _ _⟩
  case round =>
    obtain ⟨k, rfl, hk, hb⟩ := hrel
    by_cases hlt : k < l.length
    · obtain ⟨hl, hm⟩ := Hl.out
      have hx : l[k]? = some l[k] := List.getElem?_eq_getElem hlt
      obtain ⟨b, o, rfl, hB, hl⟩ := hl (by omega)
      obtain ⟨b', o', rfl, hB', hm⟩ := hm (by omega)
      have c0 := (hb.cell (p := ⟨b, o + k * 2 + 0, none⟩) hB).trans (hl k _ hx 0 _ rfl)
      have c1 := (hb.cell (p := ⟨b, o + k * 2 + 1, none⟩) hB).trans (hl k _ hx 1 _ rfl)
      have d0 := (hb.cell (p := ⟨b', o' + k * 2 + 0, none⟩) hB').trans (hm k _ hx 0 _ rfl)
      have d1 := (hb.cell (p := ⟨b', o' + k * 2 + 1, none⟩) hB').trans (hm k _ hx 1 _ rfl)
      generalize l[k] = s at *
      simp only [Nat.add_zero] at c0 d0
      have hne := neq_file s
      have hgd := fun (x1 y1 : Operand) (xs ys : Array Value) (w : World) => grd_file .neq x1 y1 xs ys w
      have HH := Lib.hid hb
      have q0 : (0 : Int) ≤ (k : Int) := by omega
      have q1 : (k : Int) < (l.length : Int) := by omega
      clear hb hx hl hm
      go_wp2_with fail
      go_quiet (fail)
      go_wp2_with fail
      go_roundw
      case rel => exact ⟨k + 1, by go_num, by omega, below_draws HH.out _⟩
      case measure => simp [intOf]; omega
    · have hk2 : k = l.length := by omega
      have HH := Lib.hid (And.intro hb hk2)
      clear hb hk2
      go_wp2_with fail
      go_ret
      exact ⟨rfl, HH.out.1⟩
def two_of (w : World) (x y : Dl) : World := (w.alloc (.cells #[.slice x.fA x.files.length x.fc, .slice x.wA x.waits.length x.wc, .int .i64 x.room, .bool x.down, .int .i64 x.fuse] 25)).alloc (.cells #[.slice y.fA y.files.length y.fc, .slice y.wA y.waits.length y.wc, .int .i64 y.room, .bool y.down, .int .i64 y.fuse] 25)
theorem two_box (w : World) (x y : Dl) : ∃ W, W = two_of w x y ∧ Below w.heap.size w W ∧ Own W w.heap.size 25 x.cells ∧ Own W (w.heap.size + 1) 25 y.cells := by
  refine ⟨_, rfl, ((Below.refl _ _).alloc (Nat.le_refl _) _).alloc (by simp) _, (Own.made w _ _).more _, ?_⟩
  have h := Own.made (w.alloc (.cells #[.slice x.fA x.files.length x.fc, .slice x.wA x.waits.length x.wc, .int .i64 x.room, .bool x.down, .int .i64 x.fuse] 25)) 25 y.cells
  simp only [World.size_alloc] at h
  exact h
set_option maxRecDepth 100000 in
set_option maxHeartbeats 3200000 in
theorem same_yesL (fA fA' : Option Addr) (fc fc' : Nat) (fs : List Fl) (wA wA' : Option Addr) (wc wc' : Nat) (ws : List Wr) (r : Int) (dn : Bool) (fu : Int) (w : World) (hx : DIn w w.heap.size ⟨fA, fc, fs, wA, wc, ws, r, dn, fu⟩) (hy : DIn w w.heap.size ⟨fA', fc', fs, wA', wc', ws, r, dn, fu⟩) (hn : fs.length ≤ 1099511627776) (hn' : ws.length ≤ 1099511627776) :
    Calls Try.prog 14 #[.agg #[.slice fA fs.length fc, .slice wA ws.length wc, .int .i64 r, .bool dn, .int .i64 fu], .agg #[.slice fA' fs.length fc', .slice wA' ws.length wc', .int .i64 r, .bool dn, .int .i64 fu]] w fun e w' => e = .returned (.bool true) ∧ Below w.heap.size w w' := by
  obtain ⟨V, hV, bV, oX, oY⟩ := two_box w ⟨fA, fc, fs, wA, wc, ws, r, dn, fu⟩ ⟨fA', fc', fs, wA', wc', ws, r, dn, fu⟩
  unfold two_of at hV
  dsimp only at hV
  have hlb : ((ws.length : Int) != (ws.length : Int)) = false := by simp
  have HV := Lib.hid (And.intro bV (And.intro oX (And.intro oY (And.intro (hx.keep bV) (hy.keep bV)))))
  obtain ⟨d0, d1, d2, d3, d4⟩ := own5 oX
  obtain ⟨g0, g1, g2, g3, g4⟩ := own5 oY
  clear hx hy bV oX oY
  go_enter Try.func14, Try.ntmps14
  go_upto_region 1 with fail
  rw [← hV]
  clear hV
  go_wp2_with fail
  clear d0 d1 d2 d3 d4 g0 g1 g2 g3 g4
  go_loopw [16] (fun i wr => ∃ k : Nat, i = .int .i64 (k : Int) ∧ k ≤ ws.length ∧ Below V.heap.size V wr)
    (fun i _ => ws.length - (intOf i).toNat)
  case atStart => exact ⟨0, rfl, by omega, Below.refl _ _⟩
  case round =>
    obtain ⟨k, rfl, hk, hb⟩ := hrel
    obtain ⟨d0, d1, d2, d3, d4⟩ := own5 (HV.out.2.1.past hb HV.out.2.1.inside)
    obtain ⟨g0, g1, g2, g3, g4⟩ := own5 (HV.out.2.2.1.past hb HV.out.2.2.1.inside)
    by_cases hlt : k < ws.length
    · have hl := HV.out.2.2.2.1.waits
      have hm := HV.out.2.2.2.2.waits
      have hx : ws[k]? = some ws[k] := List.getElem?_eq_getElem hlt
      dsimp only at hl hm
      obtain ⟨b, o, rfl, hB, hl⟩ := hl (by omega)
      obtain ⟨b', o', rfl, hB', hm⟩ := hm (by omega)
      have c0 := (hb.cell (p := ⟨b, o + k * 4 + 0, none⟩) hB).trans (hl k _ hx 0 _ rfl)
      have c1 := (hb.cell (p := ⟨b, o + k * 4 + 1, none⟩) hB).trans (hl k _ hx 1 _ rfl)
      have c2 := (hb.cell (p := ⟨b, o + k * 4 + 2, none⟩) hB).trans (hl k _ hx 2 _ rfl)
      have c3 := (hb.cell (p := ⟨b, o + k * 4 + 3, none⟩) hB).trans (hl k _ hx 3 _ rfl)
      have e0 := (hb.cell (p := ⟨b', o' + k * 4 + 0, none⟩) hB').trans (hm k _ hx 0 _ rfl)
      have e1 := (hb.cell (p := ⟨b', o' + k * 4 + 1, none⟩) hB').trans (hm k _ hx 1 _ rfl)
      have e2 := (hb.cell (p := ⟨b', o' + k * 4 + 2, none⟩) hB').trans (hm k _ hx 2 _ rfl)
      have e3 := (hb.cell (p := ⟨b', o' + k * 4 + 3, none⟩) hB').trans (hm k _ hx 3 _ rfl)
      generalize ws[k] = s at *
      simp only [Nat.add_zero] at c0 e0
      have hne := neq_write s
      have hgd := fun (x1 y1 : Operand) (xs ys : Array Value) (w : World) => grd_write .neq x1 y1 xs ys w
      have HH := Lib.hid hb
      have q0 : (0 : Int) ≤ (k : Int) := by omega
      have q1 : (k : Int) < (ws.length : Int) := by omega
      clear hb hx hl hm
      go_wp2_with fail
      go_quiet (fail)
      go_wp2_with fail
      go_roundw
      case rel => exact ⟨k + 1, by go_num, by omega, below_draws HH.out _⟩
      case measure => simp [intOf]; omega
    · have hk2 : k = ws.length := by omega
      have yF := Lib.hid (sameF_yes fA fA' fc fc' fs wr (HV.out.2.2.2.1.keep hb).files (HV.out.2.2.2.2.keep hb).files hn)
      have HH := Lib.hid (And.intro hb hk2)
      clear hk2
      go_wp2_with fail
      refine yF.out.mono ?_
      rintro _ w9 ⟨rfl, b9⟩
      have hb9 := belows hb b9
      clear d0 d1 d2 d3 d4 g0 g1 g2 g3 g4
      obtain ⟨d0, d1, d2, d3, d4⟩ := own5 (HV.out.2.1.past hb9 HV.out.2.1.inside)
      obtain ⟨g0, g1, g2, g3, g4⟩ := own5 (HV.out.2.2.1.past hb9 HV.out.2.2.1.inside)
      have HE := Lib.hid (HV.out.1.trans (hb9.mono HV.out.1.size))
      clear hb hb9 b9
      go_wp2_with fail
      go_ret
      exact ⟨rfl, HE.out⟩
/-- told by their contents -/
theorem same_yes (x y : Dl) (w : World) (h : x.d = y.d) (hx : DIn w w.heap.size x) (hy : DIn w w.heap.size y) (ok : wtD x.d ≤ 1099511627776) :
    Calls Try.prog 14 #[.agg #[.slice x.fA x.files.length x.fc, .slice x.wA x.waits.length x.wc, .int .i64 x.room, .bool x.down, .int .i64 x.fuse], .agg #[.slice y.fA y.files.length y.fc, .slice y.wA y.waits.length y.wc, .int .i64 y.room, .bool y.down, .int .i64 y.fuse]] w fun e w' => e = .returned (.bool true) ∧ Below w.heap.size w w' := by
  obtain ⟨fA, fc, fs, wA, wc, ws, r, dn, fu⟩ := x
  obtain ⟨fA', fc', fs', wA', wc', ws', r', dn', fu'⟩ := y
  unfold Dl.d at h ok
  dsimp only at h ok
  injection h with h1 h2 h3 h4 h5
  subst h1 h2 h3 h4 h5
  unfold wtD at ok
  dsimp only at ok
  have hf := len_le_wtF fs
  exact same_yesL fA fA' fc fc' fs wA wA' wc wc' ws r dn fu w hx hy (by omega) (by have := len_le_wtW ws; omega)
end Go.Proofs.Ytfelpjacccclkaa
namespace Go.Proofs.Ytfelpjacccclkaa
open Go Go.RowKit

set_option maxRecDepth 100000 in
set_option maxHeartbeats 800000 in
theorem rname_any (n : ByteArray) (w : World) : Calls Try.prog 38 #[.string n] w fun e w' => e = .returned (.bool (rightN n)) ∧ w = w' := by
  have e2 : decide ((n.size : Int) ≤ 32) = decide (n.size ≤ 32) := by rw [Bool.eq_iff_iff]; simp; omega
  have q1 := noB_emp n
  have q2 := empty_eq n
  have e1 : decide (1 ≤ n.size) = !noB n := by
    unfold noB
    by_cases h : n.size = 0
    · rw [decide_eq_true h, decide_eq_false (show ¬ 1 ≤ n.size by omega)]; rfl
    · rw [decide_eq_false h, decide_eq_true (show 1 ≤ n.size by omega)]; rfl
  unfold rightN
  rw [← e2, e1]
  clear e2 e1
  cases h1 : noB n
  · rw [h1] at q1 q2
    go_enter Try.func38, Try.ntmps38
    go_wp2_with fail
    go_ret
    exact ⟨by rw [Bool.not_false, Bool.true_and]; rfl, rfl⟩
  · rw [h1] at q1 q2
    go_enter Try.func38, Try.ntmps38
    go_wp2_with fail
    go_ret
    exact ⟨rfl, rfl⟩
/-- where a file is -/
def Found (l : List Fl) (n : ByteArray) (r : Int) : Prop := (∃ (i : Nat) (f : Fl), l[i]? = some f ∧ f.n = n ∧ r = (i : Int) ∧ ∀ (m : Nat) (g : Fl), m < i → l[m]? = some g → g.n ≠ n) ∨ (r = -1 ∧ ∀ f ∈ l, f.n ≠ n)
set_option maxRecDepth 100000 in
set_option maxHeartbeats 1600000 in
theorem find_ref (A : Option Addr) (c : Nat) (l : List Fl) (n : ByteArray) (w : World) (hl : Lies 2 Fl.cells w w.heap.size A l) (hn : l.length ≤ 1099511627776) :
    Calls Try.prog 35 #[.slice A l.length c, .string n] w fun e w' => ∃ r : Int, e = .returned (.int .i64 r) ∧ Found l n r ∧ Below w.heap.size w w' := by
  have Hl := Lib.hid hl
  clear hl
  go_enter Try.func35, Try.ntmps35
  go_wp2_with fail
  go_loopw [9] (fun i wr => ∃ k : Nat, i = .int .i64 (k : Int) ∧ k ≤ l.length ∧ Below w.heap.size w wr ∧ ∀ (m : Nat) (g : Fl), m < k → l[m]? = some g → g.n ≠ n)
    (fun i _ => l.length - (intOf i).toNat)
  case atStart => exact ⟨0, rfl, by omega, Below.refl _ _, fun m g hm => by omega⟩
  case round =>
    obtain ⟨k, rfl, hk, hb, hno⟩ := hrel
    by_cases hlt : k < l.length
    · have hx : l[k]? = some l[k] := List.getElem?_eq_getElem hlt
      obtain ⟨b, o, rfl, hB, hxs⟩ := Hl.out (by omega)
      have x0 := (hb.cell (p := ⟨b, o + k * 2 + 0, none⟩) hB).trans (hxs k _ hx 0 _ rfl)
      have x1 := (hb.cell (p := ⟨b, o + k * 2 + 1, none⟩) hB).trans (hxs k _ hx 1 _ rfl)
      generalize l[k] = f at *
      simp only [Nat.add_zero] at x0
      obtain ⟨W, hW, bW, sW, oW⟩ := flbox wr f
      have f0 := oW.at_ 0
      have f1 := oW.at_ 1
      simp only [Fl.cells, List.getElem?_cons_zero, List.getElem?_cons_succ] at f0 f1
      have HH := Lib.hid (And.intro (hb.trans (bW.mono hb.size)) (And.intro hno hx))
      have q0 : (0 : Int) ≤ (k : Int) := by omega
      have q1 : (k : Int) < (l.length : Int) := by omega
      clear hb hno hx hxs bW sW oW
      by_cases hfn : f.n = n
      · have t1 : (f.n.toList == n.toList) = true := by rw [hfn]; exact beq_self_eq_true _
        have HF := Lib.hid hfn
        clear hfn
        go_upto_region 4 with fail
        rw [← hW]
        clear hW
        go_wp2_with fail
        go_ret
        exact ⟨(k : Int), rfl, .inl ⟨k, f, HH.out.2.2, HF.out, rfl, HH.out.2.1⟩, HH.out.1⟩
      · have t1 : (f.n.toList == n.toList) = false := beq_eq_false_iff_ne.2 (fun e => hfn (by rw [ByteArray.toList_eq, ByteArray.toList_eq] at e; exact bytes_eq.1 e))
        have HF := Lib.hid hfn
        clear hfn
        go_upto_region 4 with fail
        rw [← hW]
        clear hW
        go_wp2_with fail
        go_roundw
        case rel =>
          refine ⟨k + 1, by go_num, by omega, HH.out.1, fun m g hm hg => ?_⟩
          by_cases hmk : m = k
          · subst hmk
            rw [HH.out.2.2] at hg
            injection hg with hg
            rw [← hg]; exact HF.out
          · exact HH.out.2.1 m g (by omega) hg
        case measure => simp [intOf]; omega
    · have hk2 : k = l.length := by omega
      have HH := Lib.hid (And.intro hb (And.intro hno hk2))
      clear hb hno hk2
      go_wp2_with fail
      go_ret
      refine ⟨-1, rfl, .inr ⟨rfl, fun f hf => ?_⟩, HH.out.1⟩
      obtain ⟨m, hm⟩ := List.getElem?_of_mem hf
      exact HH.out.2.1 m f (by have := (List.getElem?_eq_some_iff.1 hm).1; have := HH.out.2.2; omega) hm
end Go.Proofs.Ytfelpjacccclkaa
namespace Go.Proofs.Ytfelpjacccclkaa
open Go Go.RowKit

def woF (l : List Fl) (n : ByteArray) : List Fl := l.filter (fun f => decide (f.n ≠ n))
theorem woF_app (A B : List Fl) (n : ByteArray) : woF (A ++ B) n = woF A n ++ woF B n := by unfold woF; rw [List.filter_append]
theorem woF_all {l : List Fl} {n : ByteArray} (h : ∀ f ∈ l, f.n ≠ n) : woF l n = l := by
  unfold woF; rw [List.filter_eq_self]; intro f hf; simpa using h f hf
theorem woF_snoc {l : List Fl} {k : Nat} {f : Fl} (n : ByteArray) (h : l[k]? = some f) : woF (l.take (k + 1)) n = if f.n = n then woF (l.take k) n else woF (l.take k) n ++ [f] := by
  have hlt := (List.getElem?_eq_some_iff.1 h).1
  rw [List.take_succ_eq_append_getElem hlt, (List.getElem?_eq_some_iff.1 h).2, woF_app]
  by_cases hn : f.n = n
  · rw [if_pos hn]; unfold woF; simp [hn]
  · rw [if_neg hn]; unfold woF; simp [hn]
theorem woF_len (l : List Fl) (n : ByteArray) : (woF l n).length ≤ l.length := List.length_filter_le _ _
theorem lt_ne {a b : ByteArray} (h : cmpN a b < 0) : a ≠ b := fun e => by subst e; rw [cmpN_self] at h; omega
theorem gt_ne {a b : ByteArray} (h : cmpN b a < 0) : a ≠ b := fun e => by subst e; rw [cmpN_self] at h; omega
theorem woF_take {l : List Fl} {n : ByteArray} (hs : SortedF l) : woF l n = takeF l n := by
  by_cases h : hasF l n = true
  · obtain ⟨A, d, B, e, hp, ha, hb, _⟩ := parted hs h
    obtain ⟨e1, _, e3, _⟩ := take_of_parts e hp
    unfold takeF
    rw [if_pos h, e1, e3, e, woF_app, woF_all fun f hf => lt_ne (ha f hf), show (⟨n, d⟩ :: B : List Fl) = [⟨n, d⟩] ++ B from rfl, woF_app, woF_all (l := B) fun f hf => gt_ne (hb f hf)]
    simp [woF]
  · have h0 : hasF l n = false := by simpa using h
    unfold takeF
    rw [if_neg h]
    refine woF_all fun f hf e => ?_
    unfold hasF namesF at h0
    rw [hasN_not] at h0
    exact h0 (e ▸ List.mem_map_of_mem hf)
/-- where it is put -/
theorem pos_of {l : List Fl} {n : ByteArray} {p : Nat} (hs : SortedF l) (hp : p ≤ l.length) (h1 : ∀ (i : Nat) (f : Fl), i < p → l[i]? = some f → cmpN f.n n < 0) (h2 : ∀ f, l[p]? = some f → ¬ cmpN f.n n < 0) : p = posF l n := by
  have hat := posN_at (n := n) hs
  have hle := posF_le l n
  rcases Nat.lt_trichotomy p (posF l n) with h | h | h
  · exfalso
    have hlt : p < l.length := by omega
    have hx : l[p]? = some l[p] := List.getElem?_eq_getElem hlt
    exact h2 _ hx ((hat p l[p].n (by unfold namesF; rw [List.getElem?_map, hx]; rfl)).1 h)
  · exact h
  · exfalso
    have hlt : posF l n < l.length := by omega
    have hx : l[posF l n]? = some l[posF l n] := List.getElem?_eq_getElem hlt
    have := (hat (posF l n) l[posF l n].n (by unfold namesF; rw [List.getElem?_map, hx]; rfl)).2 (h1 _ _ h hx)
    unfold posF at this
    omega
def withF (l : List Fl) (x : Fl) : List Fl := putF (takeF l x.n) x
theorem sorted_with {l : List Fl} {x : Fl} (hs : SortedF l) : SortedF (withF l x) := sorted_put (sorted_take hs) (has_take hs)
theorem len_with (l : List Fl) (x : Fl) : (withF l x).length ≤ l.length + 1 := by unfold withF; rw [len_put]; have := len_take (l := l) (n := x.n); omega
theorem old_get {l : List Fl} {n : ByteArray} (hs : SortedF l) (h : hasF l n = true) : (oldF l n).n = n ∧ (oldF l n).d = (getF l n).getD ⟨#[]⟩ := by
  obtain ⟨A, d, B, e, hp, ha, hb, ho⟩ := parted hs h
  rw [get_old hs h, ho]; exact ⟨rfl, rfl⟩
theorem ext_with {l : List Fl} {n d : ByteArray} (hs : SortedF l) : withF l ⟨n, (getF l n).getD ⟨#[]⟩ ++ d⟩ = extF l n d := by
  refine files_ext (sorted_with hs) (sorted_ext hs) fun m => ?_
  unfold withF
  rw [get_put (f := ⟨n, _⟩) (has_take hs), get_ext hs, get_take hs]
  dsimp only
  split <;> rfl
/-- what find tells, of files that ascend -/
theorem found_get {l : List Fl} {n : ByteArray} {i : Nat} {f : Fl} (hs : SortedF l) (h : l[i]? = some f) (e : f.n = n) : hasF l n = true ∧ getF l n = some f.d ∧ oldF l n = f := by
  have hh : hasF l n = true := by unfold hasF namesF; rw [hasN_mem]; exact e ▸ List.mem_map_of_mem (List.mem_of_getElem? h)
  have hp := parted hs hh
  obtain ⟨A, d, B, el, hl, ha, hb, ho⟩ := hp
  have hf : f = ⟨n, d⟩ := by
    have hm : f ∈ l := List.mem_of_getElem? h
    rw [el] at hm
    rcases List.mem_append.1 hm with hm | hm
    · exact absurd e (lt_ne (ha f hm))
    · rcases List.mem_cons.1 hm with hm | hm
      · exact hm
      · exact absurd e (gt_ne (hb f hm))
  subst hf
  exact ⟨hh, by rw [get_old hs hh, ho], ho⟩
theorem not_found {l : List Fl} {n : ByteArray} (h : ∀ f ∈ l, f.n ≠ n) : hasF l n = false ∧ getF l n = none := by
  have hh : hasF l n = false := by
    unfold hasF namesF; rw [hasN_not]; intro hm
    obtain ⟨f, hf, rfl⟩ := List.mem_map.1 hm
    exact h f hf rfl
  exact ⟨hh, get_none.2 hh⟩
/-- emptied files: their names alone -/
def bareF (l : List Fl) : List Fl := l.map fun f => ⟨f.n, ⟨#[]⟩⟩
def bareW (w : Wr) : Wr := ⟨w.k, w.n, w.t, ⟨#[]⟩⟩
theorem bare_names (l : List Fl) : namesF (bareF l) = namesF l := by unfold bareF namesF; rw [List.map_map]; rfl
theorem bare_pos (l : List Fl) (n : ByteArray) : posF (bareF l) n = posF l n := by unfold posF; rw [bare_names]
theorem bare_has (l : List Fl) (n : ByteArray) : hasF (bareF l) n = hasF l n := by unfold hasF; rw [bare_names]
theorem bare_sorted {l : List Fl} (h : SortedF l) : SortedF (bareF l) := by unfold SortedF; rw [bare_names]; exact h
theorem bare_len (l : List Fl) : (bareF l).length = l.length := List.length_map _
theorem get_bare (l : List Fl) (m : ByteArray) : getF (bareF l) m = (getF l m).map fun _ => ⟨#[]⟩ := by
  induction l with
  | nil => rfl
  | cons f l ih =>
    show getF (⟨f.n, ⟨#[]⟩⟩ :: bareF l) m = _
    rw [get_cons, get_cons, ih]
    split <;> rfl
theorem get_ren' {l : List Fl} {n t : ByteArray} (hs : SortedF l) (m : ByteArray) : getF (renF l n t) m = if hasF l n = true then (if m = t then getF l n else if m = n then none else getF l m) else getF l m := by
  by_cases h : hasF l n = true
  · rw [if_pos h, get_ren hs h]
  · rw [if_neg h]; unfold renF; rw [if_neg h]
theorem bare_app {l : List Fl} (w : Wr) (hs : SortedF l) : appF (bareF l) (bareW w) = bareF (appF l w) := by
  refine files_ext (sorted_app (bare_sorted hs)) (bare_sorted (sorted_app hs)) fun m => ?_
  have hb := bare_sorted hs
  rw [get_bare]
  unfold appF bareW
  dsimp only
  split
  · rw [get_ext hb, get_ext hs, get_bare, get_bare]
    split
    · cases getF l w.n <;> rfl
    · rfl
  · split
    · rw [get_ren' hb, get_ren' hs, bare_has, get_bare, get_bare]
      split
      · split
        · rfl
        · split <;> rfl
      · rfl
    · split
      · rw [get_take hb, get_take hs, get_bare]
        split <;> rfl
      · rw [get_bare]
/-- the reference's walk over the waiting writes -/
def okN : List Fl → List Wr → Bool
  | _, [] => true
  | l, w :: ws => decide ((appF l (bareW w)).length ≤ 256) && okN (appF l (bareW w)) ws
theorem okN_eq : ∀ (ws : List Wr) {l : List Fl}, SortedF l → okW l ws = ((ws.all rightW) && okN (bareF l) ws)
  | [], _, _ => rfl
  | w :: ws, l, hs => by
    have ih := okN_eq ws (sorted_app (w := w) hs)
    unfold okW okN
    rw [bare_app w hs, bare_len, ih, List.all_cons]
    cases rightW w <;> cases (ws.all rightW) <;> cases decide ((appF l w).length ≤ 256) <;> simp
theorem okN_snoc : ∀ (ws : List Wr) (k : Nat) (w : Wr) (l : List Fl), ws[k]? = some w → okN l (ws.take (k + 1)) = (okN l (ws.take k) && decide ((appF ((ws.take k).foldl (fun a x => appF a (bareW x)) l) (bareW w)).length ≤ 256))
  | [], k, w, l, h => by simp at h
  | y :: ws, 0, w, l, h => by
    obtain rfl : y = w := by simpa using h
    show (decide _ && true) = (true && decide _)
    rw [Bool.and_true, Bool.true_and]; rfl
  | y :: ws, k + 1, w, l, h => by
    have ih := okN_snoc ws k w (appF l (bareW y)) (by simpa using h)
    rw [List.take_succ_cons, List.take_succ_cons, List.foldl_cons]
    unfold okN
    rw [ih, Bool.and_assoc]
theorem fold_snoc {α β : Type} (g : β → α → β) (l : List α) (k : Nat) (x : α) (b : β) (h : l[k]? = some x) : (l.take (k + 1)).foldl g b = g ((l.take k).foldl g b) x := by
  have hlt := (List.getElem?_eq_some_iff.1 h).1
  rw [List.take_succ_eq_append_getElem hlt, (List.getElem?_eq_some_iff.1 h).2, List.foldl_append]; rfl
theorem len_appF {l : List Fl} (w : Wr) (hs : SortedF l) : (appF l w).length ≤ l.length + 1 := by
  unfold appF
  split
  · rw [← ext_with hs]; exact len_with _ _
  · split
    · unfold renF
      split
      · rw [len_put]; have := len_take (l := takeF l w.n) (n := w.t); have := len_take (l := l) (n := w.n); omega
      · omega
    · split
      · have := len_take (l := l) (n := w.n); omega
      · omega
/-- files too great for a room -/
def greatF (l : List Fl) (r : Int) : Bool := decide (r < (szF l : Int)) || decide (256 < l.length)
theorem sz_snoc {l : List Fl} {k : Nat} {f : Fl} (h : l[k]? = some f) : szF (l.take (k + 1)) = szF (l.take k) + f.d.size := by
  have hlt := (List.getElem?_eq_some_iff.1 h).1
  rw [List.take_succ_eq_append_getElem hlt, (List.getElem?_eq_some_iff.1 h).2, szF_app, szF_cons]; rfl
theorem sz_take (l : List Fl) (k : Nat) : szF (l.take k) ≤ szF l := by
  have : szF l = szF (l.take k) + szF (l.drop k) := by rw [← szF_app, List.take_append_drop]
  omega
end Go.Proofs.Ytfelpjacccclkaa
