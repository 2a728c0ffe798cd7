/- Facts and contracts on which DiskFull rests besides. -/
import Derived.Test.YtcgplhmicfmjeaaDiskTogetherM5
namespace Go.Proofs.Ytcgplhmicfmjeaa
open Go Go.RowKit

structure FInv (k : Dk) (sz : Nat) : Prop where
  good : goodD k = true
  up : k.down = false
  fuse : k.fuse = -1
  room : k.room = (sz : Int)
  fit : szF (seen k) ≤ sz
theorem full_zero (sz : Nat) : FInv ⟨[], [], (sz : Int), false, -1⟩ sz := by
  refine ⟨?_, rfl, rfl, rfl, ?_⟩
  · rw [good_iff]
    refine ⟨by dsimp only; omega, ⟨by simp, fun f hf => by simp at hf, by unfold SortedF namesF SortedN; simp⟩, by simp, rfl⟩
  · have : seen ⟨[], [], (sz : Int), false, -1⟩ = [] := rfl
    rw [this]; show 0 ≤ _; omega
theorem full_step {k k' : Dk} {n : Int} {r : Wr} {sz : Nat} (h : FInv k sz) (hd : doD k [r] = (k', n)) : FInv k' sz ∧ (n ≠ 0 → k' = k) := by
  obtain ⟨g1, g2⟩ := write_good (w := r) h.good rfl
  have key : ((writeD k (seen k) r).1 = k ∧ (writeD k (seen k) r).2.2 ≠ 0) ∨ ((writeD k (seen k) r).2.2 = 0 ∧ (writeD k (seen k) r).1 = ⟨k.files, k.waits ++ [r], k.room, k.down, lessN k.fuse⟩ ∧ (writeD k (seen k) r).2.1 = appF (seen k) r ∧ ¬ (k.room < (szF (appF (seen k) r) : Int))) := by
    unfold writeD
    rw [if_neg (by rw [h.up]; decide)]
    split
    · exact .inl ⟨rfl, by simp⟩
    split
    · exact .inl ⟨rfl, by simp⟩
    split
    · exact .inl ⟨rfl, by simp⟩
    rename_i q
    rw [if_neg (by rw [h.fuse]; decide)]
    exact .inr ⟨rfl, rfl, rfl, fun e => q (.inr (.inr e))⟩
  have hk : k' = (writeD k (seen k) r).1 ∧ n = (writeD k (seen k) r).2.2 := by
    unfold doD at hd
    rw [if_pos h.good] at hd
    simp only [doS] at hd
    split at hd
    · rename_i hz
      injection hd with e1 e2
      exact ⟨e1.symm, by rw [hz]; exact e2.symm⟩
    · injection hd with e1 e2
      exact ⟨e1.symm, e2.symm⟩
  obtain ⟨rfl, rfl⟩ := hk
  rcases key with ⟨e, hne⟩ | ⟨hz, e, es, hr⟩
  · rw [e]; exact ⟨h, fun _ => rfl⟩
  · refine ⟨⟨g1, ?_, ?_, ?_, ?_⟩, fun hne => absurd hz hne⟩
    · rw [e]; exact h.up
    · rw [e]; show lessN k.fuse = -1; rw [h.fuse]; decide
    · rw [e]; exact h.room
    · rw [← (g2 hz).1, es]
      have := h.room
      omega
theorem seen_len {k : Dk} (h : goodD k = true) : (seen k).length ≤ 256 := by
  rw [seen_good h]
  exact okW_len _ (good_iff.1 h).2.1.1 (good_iff.1 h).2.2.2
theorem szF_more {l : List Fl} {m : Nat} {f : Fl} (h : l[m]? = some f) : szF (l.take (m + 1)) = szF (l.take m) + f.d.size := by
  rw [List.take_add_one, h, Option.toList_some, szF_app, szF_cons]; rfl
theorem szF_part (l : List Fl) (m : Nat) : szF (l.take m) ≤ szF l := by
  have := szF_app (l.take m) (l.drop m)
  rw [List.take_append_drop] at this
  omega
theorem wtW_more {l : List Wr} {m : Nat} {f : Wr} (h : l[m]? = some f) : wtW (l.take (m + 1)) = wtW (l.take m) + wtW [f] := by
  rw [List.take_add_one, h, Option.toList_some, wtW_append]
theorem wtW_part (l : List Wr) (m : Nat) : wtW (l.take m) ≤ wtW l := by
  have := wtW_append (l.take m) (l.drop m)
  rw [List.take_append_drop] at this
  omega
theorem doD_wt {k k' : Dk} {n : Int} {a : List Wr} (hd : doD k a = (k', n)) : wtD k' ≤ wtD k + wtW a := by
  have e : k' = (doD k a).1 := by rw [hd]
  subst e
  unfold doD
  split
  · exact doS_wt a k (seen k)
  · show 0 ≤ _; omega
theorem see_at {W : World} {y : Dl} {k : Dk} {l : List Fl} (hd : DIn W W.heap.size y) (hk : y.d = k) (hs : seeD k = (l, 0)) (ht : DTold k 0) :
    RowKit.Hid (Calls Try.prog 15 #[.agg #[.slice y.fA y.files.length y.fc, .slice y.wA y.waits.length y.wc, .int .i64 y.room, .bool y.down, .int .i64 y.fuse]] W fun e w' => Below W.heap.size W w' ∧ ∃ A c, e = .returned (.tuple #[.slice A l.length c, .int .i64 0]) ∧ Lies 2 Fl.cells w' w'.heap.size A l) := by
  subst hk
  have h := dsee_any y W hd (ht.ok rfl)
  rw [hs] at h
  exact Lib.hid h
theorem check_at {W : World} {y : Dl} {k : Dk} (hd : DIn W W.heap.size y) (hk : y.d = k) (hs : goodD k = true) (ht : DTold k 0) :
    RowKit.Hid (Calls Try.prog 16 #[.agg #[.slice y.fA y.files.length y.fc, .slice y.wA y.waits.length y.wc, .int .i64 y.room, .bool y.down, .int .i64 y.fuse]] W fun e w' => e = .returned (.int .i64 0) ∧ Below W.heap.size W w') := by
  subst hk
  have h := dcheck_any y W hd (ht.ok rfl)
  unfold chkD at h
  rw [if_pos hs] at h
  exact Lib.hid h
end Go.Proofs.Ytcgplhmicfmjeaa
namespace Go.Proofs.Ytcgplhmicfmjeaa
open Go Go.RowKit

def FullAt (w wr : World) (G sz : Nat) (ws : List Wr) (j : Nat) : Prop := ∃ y : Dl, FInv y.d sz ∧ wtD y.d ≤ wtW (ws.take j) ∧ Own wr G 25 y.cells ∧ DIn wr wr.heap.size y ∧ Below w.heap.size w wr
set_option maxRecDepth 100000 in
set_option maxHeartbeats 6400000 in
theorem full_true (sz : Nat) (A : Option Addr) (c : Nat) (ws : List Wr) (w : World) (hsz : sz ≤ 65535) (hws : Lies 4 Wr.cells w w.heap.size A ws) (hn : wtW ws ≤ 1048576) :
    Calls Try.prog 5 #[.int .u16 (sz : Int), .slice A ws.length c] w fun e w' => e = .returned (.bool true) ∧ Below w.heap.size w w' := by
  have y0 := Lib.hid (lives_true w)
  have HW := Lib.hid (And.intro hws hn)
  have hwl : ws.length ≤ 1048576 := by have := len_le_wtW ws; omega
  clear hws hn
  go_enter Try.func5, Try.ntmps5
  go_wp2_with fail
  refine y0.out.mono ?_
  rintro _ w1 ⟨rfl, b1⟩
  obtain ⟨W1, hW1, oW1, iW1, bW1⟩ := var_new (w := w1) (z := ⟨none, 0, [], none, 0, [], (sz : Int), false, -1⟩) ⟨fun h => absurd h (Nat.lt_irrefl 0), fun h => absurd h (Nat.lt_irrefl 0), Nat.le_refl _⟩
  simp only [List.length_nil] at hW1
  have HI : FullAt w W1 w1.heap.size sz ws 0 := ⟨⟨none, 0, [], none, 0, [], (sz : Int), false, -1⟩, full_zero sz, Nat.zero_le _, oW1, iW1, b1.trans (bW1.mono b1.size)⟩
  have HII := Lib.hid (And.intro HI b1.size)
  have HG := Lib.hid b1.size
  clear HI oW1 iW1 bW1 b1 y0
  go_upto_region 4 with fail
  rw [← hW1]
  clear hW1
  go_wp2_with fail
  go_loopw [22] (fun i wr => ∃ j : Nat, i = .int .i64 (j : Int) ∧ j ≤ ws.length ∧ FullAt w wr w1.heap.size sz ws j) (fun i _ => ws.length - (intOf i).toNat)
  case atStart => exact ⟨0, rfl, by omega, HII.out.1⟩
  case round =>
    obtain ⟨j, rfl, hj, y, hfi, hwt, oy, iy, hb⟩ := hrel
    by_cases hlt : j < ws.length
    case neg =>
      have HB := Lib.hid hb
      clear hfi hwt oy iy hb HII
      go_wp2_with fail
      go_ret
      exact ⟨rfl, HB.out⟩
    have hx : ws[j]? = some ws[j] := List.getElem?_eq_getElem hlt
    obtain ⟨b, o, rfl, hB, hxs⟩ := HW.out.1 (by omega)
    have x0 := (hb.cell (p := ⟨b, o + j * 4 + 0, none⟩) hB).trans (hxs j _ hx 0 _ rfl)
    have x1 := (hb.cell (p := ⟨b, o + j * 4 + 1, none⟩) hB).trans (hxs j _ hx 1 _ rfl)
    have x2 := (hb.cell (p := ⟨b, o + j * 4 + 2, none⟩) hB).trans (hxs j _ hx 2 _ rfl)
    have x3 := (hb.cell (p := ⟨b, o + j * 4 + 3, none⟩) hB).trans (hxs j _ hx 3 _ rfl)
    have hwm := wtW_more hx
    have hwp := wtW_part ws (j + 1)
    generalize ws[j] = f at *
    simp only [Nat.add_zero] at x0
    by_cases hj50 : j = 50
    · have t1 : ((j : Int) == 50) = true := by rw [hj50]; rfl
      have HB := Lib.hid hb
      have q0 : (0 : Int) ≤ (j : Int) := by omega
      have q1 : (j : Int) < (ws.length : Int) := by omega
      clear hfi hwt oy iy hb HII hj50 hx hxs hwm hwp
      go_wp2_with fail
      go_ret
      exact ⟨rfl, by exact HB.out.alloc HB.out.size _⟩
    have t1 : ((j : Int) == 50) = false := by rw [beq_eq_false_iff_ne]; omega
    obtain ⟨W2, hW2, bW2, sW2, oW2⟩ := wrbox wr f
    obtain ⟨W3, hW3, bW3, sW3, oW3⟩ := wrbox W2 f
    have oy2 := oy.past bW2 oy.inside
    obtain ⟨d0, d1, d2, d3, d4⟩ := own5 oy2
    have f0 := oW2.at_ 0
    have f1 := oW2.at_ 1
    have f2 := oW2.at_ 2
    have f3 := oW2.at_ 3
    simp only [Wr.cells, List.getElem?_cons_zero, List.getElem?_cons_succ] at f0 f1 f2 f3
    obtain ⟨k', n, hdo⟩ : ∃ k n, doD y.d [f] = (k, n) := ⟨_, _, rfl⟩
    have hst := full_step hfi hdo
    have hk'w := doD_wt hdo
    have hc1 := do_at (W := W3) (B := some ⟨W2.heap.size, 0, none⟩) 1 ((iy.keep bW2).keep bW3) rfl hdo (lies4_own (t := 36) (l := [f]) oW3) ⟨by have := HW.out.2; omega, by rw [hfi.fuse]; decide⟩
    have hdone : wtD k' ≤ 1048576 := by have := HW.out.2; omega
    have HJ := Lib.hid (And.intro hst (And.intro (show wtD k' ≤ wtW (ws.take (j + 1)) by omega) (And.intro (oy2.past bW3 oy2.inside) (And.intro ((iy.keep bW2).keep bW3) (And.intro (hb.trans ((bW2.trans (bW3.mono bW2.size)).mono hb.size)) (And.intro hdone hfi))))))
    have q0 : (0 : Int) ≤ (j : Int) := by omega
    have q1 : (j : Int) < (ws.length : Int) := by omega
    clear hfi hwt oy iy hb HII hj50 hx hxs hwm hwp hst hk'w hdo hdone oy2 bW2 sW2 oW2 bW3 sW3 oW3
    go_upto_region 7 with fail
    rw [← hW2]
    clear hW2
    go_wp2_with fail
    rw [← hW3]
    clear hW3
    refine hc1.out.mono ?_
    rintro _ w4 ⟨b4, z, rfl, hz, iz⟩
    obtain ⟨W4, hW4, oW4, iW4, bW4⟩ := var_new iz
    have o5 := (HJ.out.2.2.1.past b4 HJ.out.2.2.1.inside).past bW4 (HJ.out.2.2.1.past b4 HJ.out.2.2.1.inside).inside
    have i5 := (HJ.out.2.2.2.1.keep b4).keep bW4
    have HK := Lib.hid (And.intro o5 (And.intro i5 (And.intro oW4 (And.intro iW4 (And.intro hz (HJ.out.2.2.2.2.1.trans ((b4.trans (bW4.mono b4.size)).mono HJ.out.2.2.2.2.1.size)))))))
    clear d0 d1 d2 d3 d4 f0 f1 f2 f3 x0 x1 x2 x3
    obtain ⟨d0, d1, d2, d3, d4⟩ := own5 o5
    obtain ⟨g0, g1, g2, g3, g4⟩ := own5 oW4
    clear o5 i5 oW4 iW4 bW4 b4 iz hz hc1
    go_upto_region 9 with fail
    rw [← hW4]
    clear hW4
    go_cut [43] (fun s43 wx => s43 = .bool false ∧ Below W4.heap.size W4 wx)
    case first =>
      by_cases hn0 : n = 0
      · subst hn0
        go_wp2_with fail
        go_meet
        exact ⟨rfl, Below.refl _ _⟩
      · have t3 : (n != 0) = true := bne_iff_ne.2 hn0
        have yS := Lib.hid (same_yes y z W4 (by rw [HK.out.2.2.2.2.1]; exact (HJ.out.1.2 hn0).symm) HK.out.2.1 HK.out.2.2.2.1 (by rw [← HJ.out.1.2 hn0]; have := HJ.out.2.2.2.2.2.1; omega))
        clear hn0
        go_wp2_with fail
        refine yS.out.mono ?_
        rintro _ w5 ⟨rfl, b5⟩
        go_wp2_with fail
        go_meet
        exact ⟨rfl, b5⟩
    case rest =>
      obtain ⟨rfl, b5⟩ := hcut
      have o6 := HK.out.1.past b5 HK.out.1.inside
      have o6' := HK.out.2.2.1.past b5 HK.out.2.2.1.inside
      have i6 := HK.out.2.2.2.1.keep b5
      obtain ⟨e0, e1, e2, e3, e4⟩ := open5 o6
      clear d0 d1 d2 d3 d4 g0 g1 g2 g3 g4
      obtain ⟨d0, d1, d2, d3, d4⟩ := own5 o6
      obtain ⟨g0, g1, g2, g3, g4⟩ := own5 o6'
      obtain ⟨W6, hW6, oW6, iW6, bW6⟩ := var_set o6 i6
      have hbw6 : Below w.heap.size w W6 := (HK.out.2.2.2.2.2.trans (b5.mono HK.out.2.2.2.2.2.size)).trans (bW6 _ HG.out)
      have hfk := HJ.out.1.1
      obtain ⟨l, hl⟩ : ∃ l, l = seen k' := ⟨_, rfl⟩
      have hsee : seeD k' = (l, 0) := by unfold seeD; rw [if_pos hfk.good, hfk.up, hl]; rfl
      have hfit : szF l ≤ sz := by rw [hl]; exact hfk.fit
      have hlen : l.length ≤ 256 := by rw [hl]; exact seen_len hfk.good
      have tk : DTold k' 0 := ⟨by have := HJ.out.2.2.2.2.2.1; omega, by rw [hfk.fuse]; decide⟩
      have hc6 := see_at iW6 HK.out.2.2.2.2.1 hsee tk
      have HM := Lib.hid (And.intro oW6 (And.intro iW6 (And.intro hbw6 (And.intro hfk (And.intro tk (And.intro hfit HK.out.2.2.2.2.1))))))
      clear hl hsee
      go_upto_region 12 with fail
      rw [← hW6]
      clear hW6 d0 d1 d2 d3 d4 g0 g1 g2 g3 g4 e0 e1 e2 e3 e4
      obtain ⟨d0, d1, d2, d3, d4⟩ := own5 oW6
      clear oW6 iW6 bW6 hbw6 hfk tk o6 o6' i6 b5
      go_wp2_with fail
      refine hc6.out.mono ?_
      rintro _ w7 ⟨b7, A7, c7, rfl, l7⟩
      have HN := Lib.hid (And.intro b7 l7)
      clear b7 l7 hc6 d0 d1 d2 d3 d4 hfit
      go_wp2_with fail
      go_loopw [12, 52] (fun s12 s52 wx => ∃ m : Nat, s52 = .int .i64 (m : Int) ∧ m ≤ l.length ∧ s12 = .int .i64 (szF (l.take m) : Int) ∧ Below w7.heap.size w7 wx) (fun _ s52 _ => l.length - (intOf s52).toNat)
      case atStart => exact ⟨0, rfl, by omega, rfl, Below.refl _ _⟩
      case round =>
        obtain ⟨m, rfl, hm, rfl, hbm⟩ := hrel
        by_cases hmt : m < l.length
        · have hx : l[m]? = some l[m] := List.getElem?_eq_getElem hmt
          obtain ⟨b', o', rfl, hB', hxs⟩ := HN.out.2 (by omega)
          have x0 := (hbm.cell (p := ⟨b', o' + m * 2 + 0, none⟩) hB').trans (hxs m _ hx 0 _ rfl)
          have x1 := (hbm.cell (p := ⟨b', o' + m * 2 + 1, none⟩) hB').trans (hxs m _ hx 1 _ rfl)
          have hmo := szF_more hx
          have hpa := szF_part l (m + 1)
          have hft := HM.out.2.2.2.2.2.1
          generalize l[m] = g at *
          simp only [Nat.add_zero] at x0
          obtain ⟨W8, hW8, bW8, oW8⟩ : ∃ W, W = wr.alloc (.cells #[.string g.n, .string g.d] 42) ∧ Below wr.heap.size wr W ∧ Own W wr.heap.size 42 [.string g.n, .string g.d] := ⟨_, rfl, (Below.refl _ _).alloc (Nat.le_refl _) _, Own.made _ _ _⟩
          have f0 := oW8.at_ 0
          have f1 := oW8.at_ 1
          simp only [List.getElem?_cons_zero, List.getElem?_cons_succ] at f0 f1
          obtain ⟨a, ha⟩ : ∃ a, a = szF (l.take m) := ⟨_, rfl⟩
          rw [← ha] at hmo ⊢
          have HQ := Lib.hid (And.intro hmo (belows hbm bW8))
          have q0 : (0 : Int) ≤ (m : Int) := by omega
          have q1 : (m : Int) < (l.length : Int) := by omega
          have q2 : (a : Int) + (g.d.size : Int) ≤ 65535 := by omega
          clear hx hxs hmo hpa hft hbm bW8 oW8 ha
          go_upto_region 17 with fail
          rw [← hW8]
          clear hW8
          go_wp2_with fail
          go_roundw
          case rel => exact ⟨m + 1, by go_num, by omega, by rw [HQ.out.1]; go_num, HQ.out.2⟩
          case measure => simp [intOf]; omega
        · have hml : m = l.length := by omega
          subst hml
          have htl : szF (l.take l.length) = szF l := by rw [List.take_length]
          rw [htl]
          have t5 : szF l ≤ sz := HM.out.2.2.2.2.2.1
          have t6 : decide (sz < szF l) = false := decide_eq_false (by omega)
          have hbm6 := belows HN.out.1 hbm
          obtain ⟨d0, d1, d2, d3, d4⟩ := own5 (HM.out.1.past hbm6 HM.out.1.inside)
          have hc9 := check_at (HM.out.2.1.keep hbm6) HM.out.2.2.2.2.2.2 HM.out.2.2.2.1.good HM.out.2.2.2.2.1
          have HR := Lib.hid hbm6
          clear hbm hbm6 htl
          go_wp2_with fail
          refine hc9.out.mono ?_
          rintro _ w9 ⟨rfl, b9⟩
          have hb9 := belows HR.out b9
          have HZ := Lib.hid (And.intro (HM.out.1.past hb9 HM.out.1.inside) (And.intro (HM.out.2.1.keep hb9) (HM.out.2.2.1.trans (hb9.mono HM.out.2.2.1.size))))
          clear b9 hb9 hc9 d0 d1 d2 d3 d4
          go_wp2_with fail
          go_roundw
          case rel => exact ⟨j + 1, by go_num, by omega, z, by rw [HM.out.2.2.2.2.2.2]; exact HM.out.2.2.2.1, by rw [HM.out.2.2.2.2.2.2]; exact HJ.out.2.1, HZ.out.1, HZ.out.2.1, HZ.out.2.2⟩
          case measure => simp [intOf]; omega
theorem full_law (s : Int) (A : Option Addr) (c : Nat) (ws : List Wr) (w : World) (h0 : 0 ≤ s) (h1 : s ≤ 65535) (_ : ws.length ≤ c) (_ : c ≤ maxLen) (hws : Lies 4 Wr.cells w w.heap.size A ws) (hn : wtW ws ≤ 1048576) (_ : (0 : Nat) ≤ 1) :
    Calls Try.prog 5 #[.int .u16 s, .slice A ws.length c] w fun e w' => e = .returned (.bool true) ∧ Below w.heap.size w w' := by
  obtain ⟨sz, rfl⟩ : ∃ sz : Nat, s = sz := ⟨s.toNat, by omega⟩
  exact full_true sz A c ws w (by omega) hws hn
end Go.Proofs.Ytcgplhmicfmjeaa
