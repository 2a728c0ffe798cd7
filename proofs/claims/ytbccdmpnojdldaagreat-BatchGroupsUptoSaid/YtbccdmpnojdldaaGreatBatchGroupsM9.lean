/- Facts and contracts on which BatchGroups rests besides. -/
import Derived.Test.YtbccdmpnojdldaaGreatBatchStepsM9
namespace Go.Proofs.YtbccdmpnojdldaaGreat
open Go Go.RowKit

set_option maxRecDepth 100000 in
set_option maxHeartbeats 3200000 in
theorem seek1_any (P Q : Nat) (b : Bt) (A : Option Addr) (c : Nat) (key : List Vl) (k : Nat) (u : Up) (w : World) (hb : Own w P 26 b.cells) (hk : Own w Q 35 [.slice A key.length c]) (hin : BtIn w w.heap.size b) (hv : Vals w w.heap.size A key) (hn : key.length ≤ maxLen) (hok : UOk u) (hu : b.l[k]? = some u) :
    Calls Tryz.prog 53 #[.int .i64 (k : Int), .pointer (some ⟨P, 0, none⟩), .pointer (some ⟨Q, 0, none⟩)] w fun e w' => e = .returned (.bool (decide (0 ≤ cmpRows u.key key))) ∧ Below w.heap.size w w' := by
  have hlt : k < b.l.length := (List.getElem?_eq_some_iff.1 hu).1
  have hui := hin.ups.each_ u (List.mem_of_getElem? hu)
  obtain ⟨b', o, hA, hB, hxs⟩ := lies_up hin.ups.head (by omega)
  have hX := fun p : Past w => own2 (hb.past p.h hb.inside)
  have hQ := fun p : Past w => (hk.past p.h hk.inside).at_ 0
  simp only [List.getElem?_cons_zero] at hQ
  have hE := fun p : Past w => ((hxs k u hu).past_ p.h hB).six
  have e0 := fun p : Past w => (hE p).1
  have x1 := fun p : Past w => (hX p).2
  rw [hA] at x1
  have u1 := fun p : Past w => calls_past ((rows_gr u.kA A u.kc c u.key key p.w ((hui.key.past p.h (Nat.le_refl _)).wide p.h.size) ((hv.past p.h (Nat.le_refl _)).wide p.h.size) (Nat.le_trans hok.kn (by unfold maxLen; omega)) hn).mono fun x w' h => ⟨h.1, h.2.below⟩)
  have q0 : (0 : Int) ≤ (k : Int) := by omega
  have q1 : (k : Int) < (b.l.length : Int) := by omega
  obtain ⟨z, hz⟩ : ∃ z, cmpRows u.key key = z := ⟨_, rfl⟩
  rw [hz] at u1 ⊢
  obtain ⟨B, hB'⟩ : ∃ B, decide (0 ≤ z) = B := ⟨_, rfl⟩
  rw [hB']
  clear hb hk hin hv hn hok hu hui hxs hX hE hz hA hB hlt
  go_enter Tryz.func53, Tryz.ntmps53
  go_upto_region 1 with fail
  refine wp_region_past w (by kernel_rfl) (by kernel_rfl) (Below.refl _ _) ?_
  repeat (first | go_big_quiet_step (fail) | quiet_step (fail))
  quiet_step ((go_at_call 54; exact u1 _))
  repeat (first | go_big_quiet_step (fail) | quiet_step (fail))
  clear u1
  refine wpQuiet_nil ?_
  intro wz hw'
  obtain ⟨⟨wy, hbz⟩, hw''⟩ := hw'
  dsimp only at hw''
  subst hw''
  go_wp2_with fail
  go_ret
  exact ⟨rfl, hbz⟩
/-- what the function that is handed in answers -/
def Seeks (P Q : Nat) (l : List Up) (key : List Vl) (w : World) : Prop :=
  ∀ (k : Nat) (u : Up) (W : World), l[k]? = some u → Below w.heap.size w W → Calls Tryz.prog 53 #[.int .i64 (k : Int), .pointer (some ⟨P, 0, none⟩), .pointer (some ⟨Q, 0, none⟩)] W fun e w' => e = .returned (.bool (decide (0 ≤ cmpRows u.key key))) ∧ Below W.heap.size W w'
set_option maxRecDepth 100000 in
set_option maxHeartbeats 3200000 in
theorem searchS_any (P Q : Nat) (l : List Up) (key : List Vl) (w : World) (hl : KeysUp l) (hn : l.length ≤ 1099511627776) (hs : Seeks P Q l key w) :
    Calls Tryz.prog 52 #[.int .i64 (l.length : Int), .func (.func 53) #[] #[.pointer (some ⟨P, 0, none⟩), .pointer (some ⟨Q, 0, none⟩)]] w fun x w' => x = .returned (.int .i64 (seekB l key : Int)) ∧ Below w.heap.size w w' := by
  have HS := Lib.hid hs
  have HK := Lib.hid hl
  clear hs hl
  go_enter Tryz.func52, Tryz.ntmps52
  go_wp2_with fail
  go_loopw [5, 6] (fun v5 v6 wr => ∃ i j : Nat, v5 = .int .i64 (i : Int) ∧ v6 = .int .i64 (j : Int) ∧ i ≤ seekB l key ∧ seekB l key ≤ j ∧ j ≤ l.length ∧ Below w.heap.size w wr) (fun v5 v6 _ => (intOf v6).toNat - (intOf v5).toNat)
  case atStart => exact ⟨0, l.length, rfl, rfl, Nat.zero_le _, seek_len l key, Nat.le_refl _, Below.refl _ _⟩
  case round =>
    obtain ⟨i, j, rfl, rfl, h1, h2, h3, hb⟩ := hrel
    by_cases hlt : i < j
    · have t0 : decide ((i : Int) < (j : Int)) = true := decide_eq_true (by omega)
      have t0' : decide (i < j) = true := decide_eq_true hlt
      obtain ⟨m, hm⟩ : ∃ m, m = (i + j) / 2 := ⟨_, rfl⟩
      have hmI : ((i : Int) + (j : Int)) / 2 = (m : Int) := by omega
      have him : i ≤ m := by omega
      have hmj : m < j := by omega
      have hml : m < l.length := by omega
      have hx : l[m]? = some l[m] := List.getElem?_eq_getElem hml
      have hlo := fun h => seek_lt l key m l[m] h hx
      have hhi := fun h => seek_ge (k := key) HK.out h hx
      have y1 := Lib.hid (HS.out m _ wr hx hb)
      generalize l[m] = u at *
      obtain ⟨B, hB⟩ : ∃ B, decide (0 ≤ cmpRows u.key key) = B := ⟨_, rfl⟩
      rw [hB] at y1
      cases B with
      | true =>
        have h4 : seekB l key ≤ m := by
          apply Decidable.byContradiction
          intro h
          have := hlo (by omega)
          have := of_decide_eq_true hB
          omega
        have HH := Lib.hid (And.intro hb (And.intro h1 (And.intro h4 hml)))
        clear hb h1 h2 hx hlo hhi hB h4 hm
        go_wp2_with fail
        refine y1.out.mono ?_
        rintro _ w2 ⟨rfl, b2⟩
        have H2 := Lib.hid (HH.out.1.trans (b2.mono HH.out.1.size))
        clear b2
        go_wp2_with fail
        go_roundw
        case rel => exact ⟨i, m, rfl, by first | rfl | go_num, HH.out.2.1, HH.out.2.2.1, by omega, H2.out⟩
        case measure => simp [intOf]; omega
      | false =>
        have h4 : m + 1 ≤ seekB l key := by
          apply Decidable.byContradiction
          intro h
          have h5 := hhi (by omega)
          have := of_decide_eq_false hB
          omega
        have HH := Lib.hid (And.intro hb (And.intro h2 (And.intro h4 hml)))
        clear hb h1 h2 hx hlo hhi hB h4 hm
        go_wp2_with fail
        refine y1.out.mono ?_
        rintro _ w2 ⟨rfl, b2⟩
        have H2 := Lib.hid (HH.out.1.trans (b2.mono HH.out.1.size))
        clear b2
        go_wp2_with fail
        go_roundw
        case rel => exact ⟨m + 1, j, by go_num, rfl, HH.out.2.2.1, HH.out.2.1, h3, H2.out⟩
        case measure => simp [intOf]; omega
    · have t0 : decide ((i : Int) < (j : Int)) = false := decide_eq_false (by omega)
      have t0' : decide (i < j) = false := decide_eq_false hlt
      have HH := Lib.hid (And.intro hb (show i = seekB l key by omega))
      clear hb h1 h2
      go_wp2_with fail
      go_ret
      exact ⟨by rw [HH.out.2]; rfl, HH.out.1⟩
/-- a batch and a key in variables -/
theorem sk_box (w : World) (b : Bt) (A : Option Addr) (n c : Nat) : ∃ V, V = (w.alloc (.cells #[.slice b.sA b.f.length b.sc, .slice b.uA b.l.length b.uc] 26)).alloc (.cells #[.slice A n c] 35) ∧ Below w.heap.size w V ∧ Own V w.heap.size 26 b.cells ∧ Own V (w.heap.size + 1) 35 [.slice A n c] := by
  obtain ⟨V1, e1, b1, s1, o1⟩ := btbox w b
  obtain ⟨V2, e2, s2, b2, o2⟩ := boxd V1 [.slice A n c] 35
  exact ⟨V2, by rw [e2, e1], b1.trans (b2.mono b1.size), o1.past b2 o1.inside, by rw [← s1]; exact o2⟩
theorem seeks_of {P Q : Nat} {b : Bt} {A : Option Addr} {c : Nat} {key : List Vl} {w : World} (hb : Own w P 26 b.cells) (hk : Own w Q 35 [.slice A key.length c]) (hin : BtIn w w.heap.size b) (hv : Vals w w.heap.size A key) (hn : key.length ≤ maxLen) (hok : ∀ u ∈ b.l, UOk u) : Seeks P Q b.l key w := fun k u W hu hW =>
  seek1_any P Q b A c key k u W (hb.past hW hb.inside) (hk.past hW hk.inside) (hin.keep hW) ((hv.past hW (Nat.le_refl _)).wide hW.size) hn (hok u (List.mem_of_getElem? hu)) hu
def SeekSays (b : Bt) (key : List Vl) (w : World) (x : Ending) (w' : World) : Prop :=
  ∃ (n : Nat) (E : Int), x = .returned (.tuple #[.int .i64 (n : Int), .int .i64 E]) ∧ (BatchOk b.f b.l ∧ n = seekB b.l key ∧ E = 0 ∨ ¬ BatchOk b.f b.l ∧ n = 0 ∧ E = 4) ∧ Below w.heap.size w w'
set_option maxRecDepth 100000 in
set_option maxHeartbeats 3200000 in
theorem seek_any (b : Bt) (A : Option Addr) (c : Nat) (key : List Vl) (w : World) (hin : BtIn w w.heap.size b) (ok : BtOk b) (hv : Vals w w.heap.size A key) (hn : key.length ≤ maxLen) :
    Calls Tryz.prog 17 #[b.val, .slice A key.length c] w (SeekSays b key w) := by
  obtain ⟨V, hV, hvb, hv1, hv2⟩ := sk_box w b A key.length c
  have hi := hin.keep hvb
  have hvV := (hv.past hvb (Nat.le_refl _)).wide hvb.size
  obtain ⟨E, hE⟩ := code_of (BatchOk b.f b.l) 4
  have y1 := Lib.hid ((bcheck_any b V hi ok).mono fun x w' h => codes_is hE h)
  have HV := Lib.hid (And.intro hvb (And.intro hv1 (And.intro hv2 (And.intro hi hvV))))
  have HO := Lib.hid (And.intro ok hn)
  have HP := Lib.hid (show ∀ (n : Nat) (x : Ending) (w' : World), x = .returned (.tuple #[.int .i64 (n : Int), .int .i64 E]) ∧ (BatchOk b.f b.l ∧ n = seekB b.l key ∧ E = 0 ∨ ¬ BatchOk b.f b.l ∧ n = 0 ∧ E = 4) ∧ Below w.heap.size w w' → SeekSays b key w x w' from fun n x w' h => ⟨n, E, h⟩)
  rw [show b.val = .agg #[.slice b.sA b.f.length b.sc, .slice b.uA b.l.length b.uc] from rfl] at y1 ⊢
  obtain ⟨a0, a1⟩ := own2 hv1
  clear hin ok hv hn hvb hv1 hv2 hi hvV
  by_cases h0 : E = 0
  · subst h0
    have hB : BatchOk b.f b.l := by rcases hE with ⟨h, _⟩ | ⟨_, h⟩; exact h; omega
    have HB := Lib.hid hB
    clear hE hB
    go_enter Tryz.func17, Tryz.ntmps17
    go_upto_region 1 with fail
    rw [← hV]
    clear hV
    go_wp2_with fail
    refine y1.out.mono ?_
    rintro _ w2 ⟨rfl, b2⟩
    have hP2 := HV.out.2.1.past b2 HV.out.2.1.inside
    have hQ2 := HV.out.2.2.1.past b2 HV.out.2.2.1.inside
    have y2 := Lib.hid (searchS_any w.heap.size (w.heap.size + 1) b.l key w2 (even_keys HB.out.2.1) HO.out.1.l.n (seeks_of hP2 hQ2 (HV.out.2.2.2.1.keep b2) ((HV.out.2.2.2.2.past b2 (Nat.le_refl _)).wide b2.size) HO.out.2 HO.out.1.l.ok))
    have H2 := Lib.hid (HV.out.1.trans (b2.mono HV.out.1.size))
    clear a0 a1 y1
    obtain ⟨a0, a1⟩ := own2 hP2
    clear b2 hP2 hQ2
    go_wp2_with fail
    refine y2.out.mono ?_
    rintro _ w3 ⟨rfl, b3⟩
    have H3 := Lib.hid (H2.out.trans (b3.mono H2.out.size))
    clear b3 a0 a1 y2
    go_wp2_with fail
    exact bodyPost_ret (v := .tuple #[.int .i64 (seekB b.l key : Int), .int .i64 0]) (by simp [results, Tryz.results17, go_sem]) rfl (HP.out (seekB b.l key) _ _ ⟨rfl, .inl ⟨HB.out, rfl, by first | trivial | rfl⟩, H3.out⟩)
  · have t1 : (E != 0) = true := bne_iff_ne.2 h0
    have hB : ¬ BatchOk b.f b.l ∧ E = 4 := by rcases hE with ⟨_, h⟩ | h; exact absurd h h0; exact h
    have HB := Lib.hid hB
    clear hE hB h0
    go_enter Tryz.func17, Tryz.ntmps17
    go_upto_region 1 with fail
    rw [← hV]
    clear hV
    go_wp2_with fail
    refine y1.out.mono ?_
    rintro _ w2 ⟨rfl, b2⟩
    have H2 := Lib.hid (HV.out.1.trans (b2.mono HV.out.1.size))
    clear a0 a1 y1 b2
    go_wp2_with fail
    exact bodyPost_ret (v := .tuple #[.int .i64 0, .int .i64 E]) (by simp [results, Tryz.results17, go_sem]) rfl (HP.out 0 _ _ ⟨rfl, .inr ⟨HB.out.1, rfl, HB.out.2⟩, H2.out⟩)
end Go.Proofs.YtbccdmpnojdldaaGreat
namespace Go.Proofs.YtbccdmpnojdldaaGreat
open Go Go.RowKit

set_option maxRecDepth 100000 in
set_option maxHeartbeats 6400000 in
theorem grpG_any (cap : Value) (p : Up → Bool) (b o c : Nat) (l : List Up) (i : Nat) (w : World) (hl : Ups w w.heap.size (some ⟨b, o, none⟩) l) (hc : l.length ≤ c) (hcm : c ≤ maxLen) (hi : i ≤ l.length) (hp : Asks 58 cap p l w) :
    Calls Tryz.prog 57 #[.slice (some ⟨b, o, none⟩) l.length c, .int .i64 (i : Int), .func (.func 58) #[] #[cap]] w fun x w' => x = .returned (partV (some ⟨b, o, none⟩) i ((l.drop i).takeWhile p).length) ∧ Below w.heap.size w w' := by
  have HL := Lib.hid (And.intro hl hp)
  clear hl hp
  unfold maxLen at hcm
  go_enter Tryz.func57, Tryz.ntmps57
  go_wp2_with fail
  go_loopw [7] (fun v7 wr => ∃ n : Nat, v7 = .int .i64 ((i + n : Nat) : Int) ∧ i + n ≤ l.length ∧ Below w.heap.size w wr ∧ ∀ x ∈ (l.drop i).take n, p x = true) (fun v7 _ => l.length - (intOf v7).toNat)
  case atStart => exact ⟨0, rfl, by omega, Below.refl _ _, fun x hx => by simp at hx⟩
  case round =>
    obtain ⟨n, rfl, hn, hb, hall⟩ := hrel
    obtain ⟨j, hj⟩ : ∃ j, j = i + n := ⟨_, rfl⟩
    rw [← hj] at hn ⊢
    have hij : i ≤ j := by omega
    by_cases hlt : j < l.length
    · have hx : l[j]? = some l[j] := List.getElem?_eq_getElem hlt
      have hxm := List.mem_of_getElem? hx
      generalize l[j] = u at *
      obtain ⟨b', o', hA, hB, hys⟩ := lies_up HL.out.1.head (by omega)
      simp only [Option.some.injEq, Addr.mk.injEq, and_true] at hA
      obtain ⟨rfl, rfl⟩ := hA
      obtain ⟨e0, e1, e2, e3, e4, e5⟩ := ((hys j u hx).past_ hb hB).six
      have y1 := Lib.hid (HL.out.2 u wr hxm hb)
      have q0 : (0 : Int) ≤ (j : Int) := by omega
      have q1 : (j : Int) < (l.length : Int) := by omega
      have q2 : decide ((j : Int) < (l.length : Int)) = true := decide_eq_true q1
      have q2' : decide (j < l.length) = true := decide_eq_true hlt
      obtain ⟨B, hpu⟩ : ∃ B, p u = B := ⟨_, rfl⟩
      rw [hpu] at y1
      have HH := Lib.hid (And.intro hb (And.intro hall (And.intro hx (And.intro hpu hj))))
      clear hb hall hx hxm hys hpu hj
      cases B with
      | true =>
        go_wp2_with fail
        refine y1.out.mono ?_
        rintro _ w2 ⟨rfl, b2⟩
        have H2 := Lib.hid (HH.out.1.trans (b2.mono HH.out.1.size))
        clear b2 e0 e1 e2 e3 e4 e5
        go_wp2_with fail
        go_roundw
        case rel =>
          refine ⟨n + 1, by rw [HH.out.2.2.2.2]; go_num, by have := HH.out.2.2.2.2; omega, H2.out, fun x hx => ?_⟩
          have h3 : (l.drop i)[n]? = some u := by rw [List.getElem?_drop, ← HH.out.2.2.2.2]; exact HH.out.2.2.1
          rw [List.take_add_one, h3] at hx
          rcases List.mem_append.1 hx with hx | hx
          · exact HH.out.2.1 x hx
          · obtain rfl : x = u := by simpa using hx
            exact HH.out.2.2.2.1
        case measure => simp [intOf]; omega
      | false =>
        have HW := Lib.hid (show ((l.drop i).takeWhile p).length = n from tw_more (by rw [List.length_drop]; have := HH.out.2.2.2.2; omega) HH.out.2.1 fun x hx => by
          rw [List.getElem?_drop, ← HH.out.2.2.2.2, HH.out.2.2.1] at hx
          cases hx
          exact HH.out.2.2.2.1)
        go_wp2_with fail
        refine y1.out.mono ?_
        rintro _ w2 ⟨rfl, b2⟩
        have H2 := Lib.hid (HH.out.1.trans (b2.mono HH.out.1.size))
        have HJ := Lib.hid HH.out.2.2.2.2
        clear b2 e0 e1 e2 e3 e4 e5
        have r0 : (0 : Int) ≤ (i : Int) := by omega
        have r1 : (i : Int) ≤ (j : Int) := by omega
        have r2 : (j : Int) ≤ (c : Int) := by omega
        go_wp2_with fail
        · go_ret
          have hn0 : n = 0 := by have := HJ.out; omega
          exact ⟨by rw [HW.out, hn0]; rfl, H2.out⟩
        · go_ret
          have hj2 := HJ.out
          exact ⟨by rw [HW.out]; exact ret_part (by omega) (by omega) (by unfold subA; rw [if_neg (by omega)]), H2.out⟩
    · have hjl : j = l.length := by omega
      have q2 : decide ((j : Int) < (l.length : Int)) = false := decide_eq_false (by omega)
      have q2' : decide (j < l.length) = false := decide_eq_false hlt
      have HW := Lib.hid (show ((l.drop i).takeWhile p).length = n from tw_more (by rw [List.length_drop]; omega) hall fun x hx => by
        rw [List.getElem?_drop, ← hj, List.getElem?_eq_none (by omega)] at hx
        cases hx)
      have H2 := Lib.hid hb
      have HJ := Lib.hid hj
      clear hb hall hj
      have r0 : (0 : Int) ≤ (i : Int) := by omega
      have r1 : (i : Int) ≤ (j : Int) := by omega
      have r2 : (j : Int) ≤ (c : Int) := by omega
      go_wp2_with fail
      · go_ret
        have hn0 : n = 0 := by have := HJ.out; omega
        exact ⟨by rw [HW.out, hn0]; rfl, H2.out⟩
      · go_ret
        have hj2 := HJ.out
        exact ⟨by rw [HW.out]; exact ret_part (by omega) (by omega) (by unfold subA; rw [if_neg (by omega)]), H2.out⟩
end Go.Proofs.YtbccdmpnojdldaaGreat
namespace Go.Proofs.YtbccdmpnojdldaaGreat
open Go Go.RowKit

/-- the function that is handed in: whether an update has the key in the variable -/
theorem asks_grp (Q : Nat) (A : Option Addr) (c : Nat) (key : List Vl) (l : List Up) (w : World) (hk : Own w Q 35 [.slice A key.length c]) (hv : Vals w w.heap.size A key) (hn : key.length ≤ maxLen) (hl : ∀ u ∈ l, UIn w w.heap.size u) (ol : ∀ u ∈ l, UOk u) :
    Asks 58 (.pointer (some ⟨Q, 0, none⟩)) (fun x => decide (cmpRows x.key key = 0)) l w := by
  intro u W hu hW
  have hkW := hk.past hW hk.inside
  have hvW := (hv.past hW (Nat.le_refl _)).wide hW.size
  have huW := ((hl u hu).past hW (Nat.le_refl _)).wide hW.size
  have ou := ol u hu
  obtain ⟨V, hV, hvb, hvs, hvo⟩ := upbox W u
  have y1 := Lib.hid ((rows_gr u.kA A u.kc c u.key key V (huW.keep hvb).key ((hvW.past hvb (Nat.le_refl _)).wide hvb.size) (Nat.le_trans ou.kn (by unfold maxLen; omega)) hn).mono fun x w' h => And.intro h.1 h.2.below)
  obtain ⟨a0, a1, a2, a3, a4, a5⟩ := own6 hvo
  have b0 := (hkW.past hvb hkW.inside).at_ 0
  simp only [List.getElem?_cons_zero] at b0
  have HB := Lib.hid hvb
  obtain ⟨z, hzz⟩ : ∃ z, cmpRows u.key key = z := ⟨_, rfl⟩
  rw [hzz] at y1
  clear hk hv hn hl ol hu hW hkW hvW huW ou hvb hvs hvo
  obtain ⟨B, hB⟩ : ∃ B, (z == 0) = B := ⟨_, rfl⟩
  have HD := Lib.hid (show decide (cmpRows u.key key = 0) = B by rw [hzz, ← hB]; rfl)
  clear hzz
  go_enter Tryz.func58, Tryz.ntmps58
  go_upto_region 1 with fail
  rw [← hV]
  clear hV
  go_wp2_with fail
  refine y1.out.mono ?_
  rintro _ w2 ⟨rfl, c2⟩
  have H2 := Lib.hid (HB.out.trans (c2.mono HB.out.size))
  clear c2 a0 a1 a2 a3 a4 a5 b0
  go_wp2_with fail
  go_ret
  exact ⟨by show _ = Ending.returned (.bool (decide (cmpRows u.key key = 0))); rw [HD.out]; rfl, H2.out⟩
def GroupSays (b : Bt) (key : List Vl) (w : World) (x : Ending) (w' : World) : Prop :=
  ∃ (A : Option Addr) (outL : List Up) (E : Int), x = .returned (.tuple #[.slice A outL.length outL.length, .int .i64 E]) ∧ (BatchOk b.f b.l ∧ outL.map Up.p = (groupB b.l key).map Up.p ∧ E = 0 ∨ ¬ BatchOk b.f b.l ∧ outL = [] ∧ E = 4) ∧ Ups w' w'.heap.size A outL ∧ UsOk outL ∧ Below w.heap.size w w'
theorem group_take (l : List Up) (k : List Vl) : (l.drop (seekB l k)).take (groupB l k).length = groupB l k := by
  unfold groupB
  exact List.prefix_iff_eq_take.1 (List.takeWhile_prefix _) |>.symm
set_option maxRecDepth 100000 in
set_option maxHeartbeats 3200000 in
theorem grp0 (cap : Value) (A : Option Addr) (c : Nat) (hcm : c ≤ maxLen) (w : World) :
    Calls Tryz.prog 57 #[.slice A 0 c, .int .i64 0, .func (.func 58) #[] #[cap]] w fun x w' => (∃ A', x = .returned (.slice A' 0 0)) ∧ Below w.heap.size w w' := by
  unfold maxLen at hcm
  cases A with
  | none =>
    go_enter Tryz.func57, Tryz.ntmps57
    go_wp2_with fail
    go_loopw [7] (fun v7 wr => v7 = .int .i64 0 ∧ wr = w) (fun _ _ => 0)
    case atStart => exact ⟨rfl, rfl⟩
    case round =>
      obtain ⟨rfl, rfl⟩ := hrel
      go_wp2_with fail
      go_ret
      exact ⟨⟨_, rfl⟩, Below.refl _ _⟩
  | some ad =>
    go_enter Tryz.func57, Tryz.ntmps57
    go_wp2_with fail
    go_loopw [7] (fun v7 wr => v7 = .int .i64 0 ∧ wr = w) (fun _ _ => 0)
    case atStart => exact ⟨rfl, rfl⟩
    case round =>
      obtain ⟨rfl, rfl⟩ := hrel
      go_wp2_with fail
      go_ret
      exact ⟨⟨_, rfl⟩, Below.refl _ _⟩
theorem grp_gen (Q : Nat) (A : Option Addr) (c cc : Nat) (kA : Option Addr) (key : List Vl) (l : List Up) (w : World) (hl : Ups w w.heap.size A l) (ol : ∀ u ∈ l, UOk u) (hc : l.length ≤ c) (hcm : c ≤ maxLen) (hk : Own w Q 35 [.slice kA key.length cc]) (hv : Vals w w.heap.size kA key) (hn : key.length ≤ maxLen) :
    Calls Tryz.prog 57 #[.slice A l.length c, .int .i64 (seekB l key : Int), .func (.func 58) #[] #[.pointer (some ⟨Q, 0, none⟩)]] w fun x w' => ∃ A1, x = .returned (.slice A1 (groupB l key).length (groupB l key).length) ∧ Ups w' w'.heap.size A1 (groupB l key) ∧ Below w.heap.size w w' := by
  by_cases hpos : 0 < l.length
  · obtain ⟨b, o, rfl, hB, _⟩ := hl.head hpos
    refine (grpG_any (.pointer (some ⟨Q, 0, none⟩)) (fun x => decide (cmpRows x.key key = 0)) b o c l (seekB l key) w hl hc hcm (seek_len _ _) (asks_grp Q kA cc key l w hk hv hn hl.each_ ol)).mono fun x w' ⟨h1, h2⟩ => ?_
    obtain ⟨A1, hpv, hu1, _⟩ := part_lies (i := seekB l key) (n := (groupB l key).length) (hl.keep h2) (fun h => by rw [h] at hpos; simp at hpos) (group_len _ _)
    rw [group_take] at hu1
    exact ⟨A1, by rw [h1, ← hpv]; rfl, hu1, h2⟩
  · have h0 : l = [] := List.eq_nil_of_length_eq_zero (by omega)
    subst h0
    exact (grp0 (.pointer (some ⟨Q, 0, none⟩)) A c hcm w).mono fun x w' ⟨⟨A', h1⟩, h2⟩ => ⟨A', h1, ⟨Lies.nil_, fun u hu => by cases hu⟩, h2⟩
set_option maxRecDepth 100000 in
set_option maxHeartbeats 6400000 in
theorem group_any (b : Bt) (A : Option Addr) (c : Nat) (key : List Vl) (w : World) (hin : BtIn w w.heap.size b) (ok : BtOk b) (hc : b.l.length ≤ b.uc) (hcm : b.uc ≤ maxLen) (hln : b.l.length ≤ 1048576) (hv : Vals w w.heap.size A key) (hn : key.length ≤ maxLen) :
    Calls Tryz.prog 19 #[b.val, .slice A key.length c] w (GroupSays b key w) := by
  obtain ⟨V, hV, hvb, hv1, hv2⟩ := sk_box w b A key.length c
  have hi := hin.keep hvb
  have hvV := (hv.past hvb (Nat.le_refl _)).wide hvb.size
  have y1 := Lib.hid (seek_any b A c key V hi ok hvV hn)
  unfold SeekSays at y1
  have HV := Lib.hid (And.intro hvb (And.intro hv1 (And.intro hv2 (And.intro hi hvV))))
  have HO := Lib.hid (And.intro ok (And.intro hn (And.intro hc (And.intro hcm hln))))
  have HP := Lib.hid (show ∀ (A' : Option Addr) (outL : List Up) (E : Int) (x : Ending) (w' : World), x = .returned (.tuple #[.slice A' outL.length outL.length, .int .i64 E]) ∧ (BatchOk b.f b.l ∧ outL.map Up.p = (groupB b.l key).map Up.p ∧ E = 0 ∨ ¬ BatchOk b.f b.l ∧ outL = [] ∧ E = 4) ∧ Ups w' w'.heap.size A' outL ∧ UsOk outL ∧ Below w.heap.size w w' → GroupSays b key w x w' from fun A' n E x w' h => ⟨A', n, E, h⟩)
  rw [show b.val = .agg #[.slice b.sA b.f.length b.sc, .slice b.uA b.l.length b.uc] from rfl] at y1 ⊢
  obtain ⟨a0, a1⟩ := own2 hv1
  have b0 := hv2.at_ 0
  simp only [List.getElem?_cons_zero] at b0
  clear hin ok hv hn hvb hv1 hv2 hi hvV hc hcm hln
  go_enter Tryz.func19, Tryz.ntmps19
  go_upto_region 1 with fail
  rw [← hV]
  clear hV
  go_wp2_with fail
  refine y1.out.mono ?_
  rintro _ w2 ⟨n, E, rfl, hE, b2⟩
  have hP2 := HV.out.2.1.past b2 HV.out.2.1.inside
  have hQ2 := HV.out.2.2.1.past b2 HV.out.2.2.1.inside
  have hi2 := HV.out.2.2.2.1.keep b2
  have H2 := Lib.hid (And.intro (HV.out.1.trans (b2.mono HV.out.1.size)) hi2)
  clear a0 a1 b0 y1
  by_cases h0 : E = 0
  case neg =>
    have t1 : (E != 0) = true := bne_iff_ne.2 h0
    have HE := Lib.hid (show ¬ BatchOk b.f b.l ∧ E = 4 by rcases hE with ⟨_, _, h⟩ | ⟨h, _, h'⟩; exact absurd h h0; exact ⟨h, h'⟩)
    clear hE h0 hP2 hQ2 hi2 b2
    go_wp2_with fail
    exact bodyPost_ret (v := .tuple #[.slice none 0 0, .int .i64 E]) (by simp [results, Tryz.results19, go_sem]) rfl (HP.out none [] E _ _ ⟨rfl, .inr ⟨HE.out.1, rfl, HE.out.2⟩, ⟨Lies.nil_, fun u hu => by cases hu⟩, us_nil, H2.out.1⟩)
  subst h0
  have HE := Lib.hid (show BatchOk b.f b.l ∧ n = seekB b.l key by rcases hE with ⟨h, h', _⟩ | ⟨_, _, h⟩; exact ⟨h, h'⟩; omega)
  obtain ⟨rfl⟩ : n = seekB b.l key := HE.out.2
  have y2 := Lib.hid (grp_gen (w.heap.size + 1) b.uA b.uc c A key b.l w2 hi2.ups HO.out.1.l.ok HO.out.2.2.1 HO.out.2.2.2.1 hQ2 ((HV.out.2.2.2.2.past b2 (Nat.le_refl _)).wide b2.size) HO.out.2.1)
  obtain ⟨a0, a1⟩ := own2 hP2
  clear hE hP2 hQ2 hi2 b2
  go_wp2_with fail
  refine y2.out.mono ?_
  rintro _ w3 ⟨A1, rfl, hu1, b3⟩
  have hsub : ∀ u ∈ groupB b.l key, u ∈ b.l := fun u hu => List.mem_of_mem_drop ((List.takeWhile_sublist _).subset hu)
  have hlen : (groupB b.l key).length ≤ 1048576 := by have := group_len b.l key; have := HO.out.2.2.2.2; omega
  have y3 := Lib.hid (copyUps_any A1 (groupB b.l key).length (groupB b.l key) w3 hu1 ⟨by omega, fun u hu => HO.out.1.l.ok u (hsub u hu)⟩ (chkUs_all.2 fun u hu => chkUs_all.1 HE.out.1.2.1.2.2 u (hsub u hu)) (by omega))
  unfold CopyUps at y3
  have H3 := Lib.hid (H2.out.1.trans (b3.mono H2.out.1.size))
  clear a0 a1 y2 hu1 b3 hsub
  go_wp2_with fail
  refine y3.out.mono ?_
  rintro _ w4 ⟨A4, outL, rfl, hp4, hu4, ok4, _, b4, _⟩
  have hl4 : outL.length ≤ 1099511627776 := by have := congrArg List.length hp4; simp at this; omega
  have H4 := Lib.hid (And.intro (H3.out.trans (b4.mono H3.out.size)) (And.intro hp4 (And.intro hu4 (And.intro hl4 ok4))))
  clear hp4 hu4 ok4 b4 hl4 y3
  go_wp2_with fail
  exact bodyPost_ret (v := .tuple #[.slice A4 outL.length outL.length, .int .i64 0]) (by simp [results, Tryz.results19, go_sem]) rfl (HP.out A4 outL 0 _ _ ⟨rfl, .inl ⟨HE.out.1, H4.out.2.1, by first | trivial | rfl⟩, H4.out.2.2.1, ⟨H4.out.2.2.2.1, H4.out.2.2.2.2⟩, H4.out.1⟩)
end Go.Proofs.YtbccdmpnojdldaaGreat
namespace Go.Proofs.YtbccdmpnojdldaaGreat
open Go Go.RowKit

/-- an update that holds a key alone -/
def kOnly (u : Up) : Up := ⟨u.kA, u.kc, u.key, none, 0, [], ⟨0, 0, 0⟩, 0⟩
theorem kOnly_cmp (x u : Up) : (kOnly x).k.cmp (kOnly u).k = cmpRows x.key u.key := by
  show (if cmpRows x.key u.key = 0 then (if cmpRows [] [] = 0 then Tm.cmp ⟨0, 0, 0⟩ ⟨0, 0, 0⟩ else cmpRows [] []) else cmpRows x.key u.key) = _
  by_cases h : cmpRows x.key u.key = 0
  · rw [if_pos h, h]; decide
  · rw [if_neg h]
theorem kOnly_in {w : World} {B : Nat} {u : Up} (h : UIn w B u) : UIn w B (kOnly u) := ⟨h.key, Vals.nil_⟩
theorem kOnly_ok {u : Up} (h : UOk u) : UOk (kOnly u) := ⟨h.kn, Nat.zero_le _, h.ks, (fun v hv => by cases hv), by show (-9223372036854775808 : Int) ≤ 0 ∧ (0 : Int) ≤ 9223372036854775807; omega⟩
/-- what has been counted: the updates up to the last key -/
def UpTo (l : List Up) (k s : Nat) : Prop := k = 0 ∧ s = 0 ∨ ∃ u, 0 < k ∧ l[k - 1]? = some u ∧ s = (leB l u.key).length
theorem leB_len (l : List Up) (k : List Vl) : (leB l k).length ≤ l.length := List.length_filter_le ..
theorem upTo_le {l : List Up} {k s : Nat} (h : UpTo l k s) : s ≤ l.length := by
  rcases h with ⟨_, rfl⟩ | ⟨u, _, _, rfl⟩
  · exact Nat.zero_le _
  · exact leB_len _ _
theorem upTo_at {l : List Up} {i s : Nat} {x : Up} (h : UpTo l (i + 1) s) (hx : l[i]? = some x) : s = (leB l x.key).length := by
  rcases h with ⟨h, _⟩ | ⟨u, _, hu, hs⟩
  · omega
  · rw [Nat.add_sub_cancel, hx] at hu
    cases hu
    exact hs
set_option maxRecDepth 100000 in
set_option maxHeartbeats 12800000 in
theorem bgroups_right (b : Bt) (A : Option Addr) (c : Nat) (key : List Vl) (w : World) (hin : BtIn w w.heap.size b) (ok : BtOk b) (hc : b.l.length ≤ b.uc) (hcm : b.uc ≤ maxLen) (hln : b.l.length ≤ 1048576) (hv : Vals w w.heap.size A key) (hn : key.length ≤ maxLen) (hB : BatchOk b.f b.l) (hpos : 0 < b.l.length) :
    Calls Tryz.prog 7 #[b.val, .slice A key.length c] w fun e w' => e = .returned (.bool true) ∧ Below w.heap.size w w' := by
  have y0 := fun W => Lib.hid (blives_true W)
  obtain ⟨V, hV, hvb, hvs, hvo⟩ := btbox w b
  have HL := Lib.hid (And.intro hin (And.intro ok (And.intro hc (And.intro hcm (And.intro hln (And.intro hv hn))))))
  have HV := Lib.hid (And.intro hvb hvo)
  have HB := Lib.hid hB
  rw [show b.val = .agg #[.slice b.sA b.f.length b.sc, .slice b.uA b.l.length b.uc] from rfl]
  clear hin ok hc hcm hln hv hn hvb hvs hvo hB
  go_enter Tryz.func7, Tryz.ntmps7
  go_upto_region 1 with fail
  rw [← hV]
  clear hV
  go_wp2_with fail
  refine (y0 _).out.mono ?_
  rintro e w1 ⟨rfl, b1⟩
  have hb1 := belows HV.out.1 b1
  have ho1 := HV.out.2.past b1 HV.out.2.inside
  have z1 := Lib.hid (seek_any b A c key w1 (HL.out.1.keep hb1) HL.out.2.1 ((HL.out.2.2.2.2.2.1.past hb1 (Nat.le_refl _)).wide hb1.size) HL.out.2.2.2.2.2.2)
  unfold SeekSays at z1
  rw [show b.val = .agg #[.slice b.sA b.f.length b.sc, .slice b.uA b.l.length b.uc] from rfl] at z1
  have H1 := Lib.hid (And.intro hb1 ho1)
  obtain ⟨d0, d1⟩ := own2 ho1
  clear b1 hb1 ho1
  go_wp2_with fail
  refine z1.out.mono ?_
  rintro _ w2 ⟨n, E, rfl, hE, b2⟩
  have hb2 := belows H1.out.1 b2
  have ho2 := H1.out.2.past b2 H1.out.2.inside
  have z2 := Lib.hid (group_any b A c key w2 (HL.out.1.keep hb2) HL.out.2.1 HL.out.2.2.1 HL.out.2.2.2.1 HL.out.2.2.2.2.1 ((HL.out.2.2.2.2.2.1.past hb2 (Nat.le_refl _)).wide hb2.size) HL.out.2.2.2.2.2.2)
  unfold GroupSays at z2
  rw [show b.val = .agg #[.slice b.sA b.f.length b.sc, .slice b.uA b.l.length b.uc] from rfl] at z2
  have H2 := Lib.hid (And.intro hb2 ho2)
  obtain ⟨rfl, rfl⟩ : n = seekB b.l key ∧ E = 0 := by rcases hE with ⟨_, h⟩ | ⟨h, _⟩; exact h; exact absurd HB.out h
  clear d0 d1 b2 hb2 z1 hE
  obtain ⟨d0, d1⟩ := own2 ho2
  clear ho2
  go_wp2_with fail
  refine z2.out.mono ?_
  rintro _ w3 ⟨G, outL, E', rfl, hE', hu, ou, b3⟩
  have H3 := Lib.hid (belows H2.out.1 b3)
  have hG : outL.map Up.p = (groupB b.l key).map Up.p ∧ E' = 0 := by rcases hE' with ⟨_, h⟩ | ⟨h, _⟩; exact h; exact absurd HB.out h
  obtain ⟨hp, rfl⟩ := hG
  have hlen : outL.length = (groupB b.l key).length := by have := congrArg List.length hp; simpa using this
  have hle : seekB b.l key + outL.length ≤ b.l.length := by rw [hlen]; exact group_len _ _
  have ho3 := H2.out.2.past b3 H2.out.2.inside
  obtain ⟨bb, o, hA, hbb, hcc⟩ := (HL.out.1.keep H3.out).ups.head hpos
  have HS3 := Lib.hid (And.intro (HL.out.1.keep H3.out) hA)
  obtain ⟨n, hnn⟩ : ∃ n, seekB b.l key = n := ⟨_, rfl⟩
  rw [hnn] at hle ⊢
  have HN := Lib.hid hnn
  have HU := Lib.hid (And.intro hu (And.intro ou (And.intro hp hlen)))
  have hln := HL.out.2.2.2.2.1
  have hcu := HL.out.2.2.1
  have hcm := HL.out.2.2.2.1
  unfold maxLen at hcm
  clear d0 d1 b3 z2 hE' hu ou hp hlen hnn hcc hbb
  obtain ⟨d0, d1⟩ := own2 ho3
  rw [hA] at d1
  clear hA
  have t1 : decide ((b.l.length : Int) < (n : Int) + (outL.length : Int)) = false := decide_eq_false (by omega)
  have t2 : decide (b.l.length < n + outL.length) = false := decide_eq_false (by omega)
  have r0 : (n : Int) ≤ (n : Int) + (outL.length : Int) := by omega
  have r1 : (n : Int) + (outL.length : Int) ≤ (b.uc : Int) := by omega
  have hpart : ∀ A' : Option Addr, (0 < outL.length → A' = some ⟨bb, o + n * 6, none⟩) → ∀ cc, Hid (Calls Tryz.prog 21 #[.slice A' outL.length cc, .slice G outL.length outL.length] w3 fun x w' => x = .returned (.bool true) ∧ Below w3.heap.size w3 w') := fun A' hA' cc => by
    have hg : Ups w3 w3.heap.size A' (groupB b.l key) := by
      by_cases h0 : 0 < outL.length
      · rw [hA' h0]
        obtain ⟨A1, hpv, hu1, _⟩ := part_lies (i := seekB b.l key) (n := (groupB b.l key).length) HS3.out.1.ups (fun h => by rw [h] at hpos; simp at hpos) (group_len _ _)
        rw [group_take] at hu1
        rw [HS3.out.2, HN.out] at hpv
        have : A1 = some ⟨bb, o + n * 6, none⟩ := by
          have hz : (groupB b.l key).length ≠ 0 := by rw [← HU.out.2.2.2]; omega
          unfold partV subA at hpv
          simp only [if_neg hz] at hpv
          injection hpv with h
          exact h.symm
        rw [← this]
        exact hu1
      · have : groupB b.l key = [] := List.eq_nil_of_length_eq_zero (by rw [← HU.out.2.2.2]; omega)
        rw [this]
        exact ⟨Lies.nil_, fun u hu => by cases hu⟩
    have := sameups_yes A' G cc outL.length (groupB b.l key) outL w3 hg HU.out.1 ⟨by have := group_len b.l key; omega, fun u hu => HL.out.2.1.l.ok u (List.mem_of_mem_drop ((List.takeWhile_sublist _).subset hu))⟩ HU.out.2.1 HU.out.2.2.1.symm
    rw [← HU.out.2.2.2] at this
    exact Lib.hid this
  have q1 := fun cc => hpart (some ⟨bb, o + n * 6, none⟩) (fun _ => rfl) cc
  have q2 := fun (h : ¬ 0 < outL.length) cc => hpart (some ⟨bb, o, none⟩) (fun h' => absurd h' h) cc
  clear hpart
  go_wp2_with fail
  -- LOOP
  · refine (q2 (by omega) 0).out.mono ?_
    rintro _ w4 ⟨rfl, b4⟩
    have hb4 := belows H3.out b4
    have ho4 := ho3.past b4 ho3.inside
    have H4 := Lib.hid (And.intro hb4 (And.intro ho4 (HL.out.1.keep hb4)))
    clear d0 d1 b4 hb4 ho3 t1 t2 r0 r1 q1 q2 hle
    obtain ⟨d0, d1⟩ := own2 ho4
    rw [HS3.out.2] at d1
    clear ho4
    go_wp2_with fail
    go_loopw [9, 70] (fun v9 v70 wr => ∃ k s : Nat, v9 = .int .i64 (s : Int) ∧ v70 = .int .i64 (k : Int) ∧ k ≤ b.l.length ∧ UpTo b.l k s ∧ Below w4.heap.size w4 wr) (fun _ v70 _ => b.l.length - (intOf v70).toNat)
    case atStart => exact ⟨0, 0, rfl, rfl, by omega, .inl ⟨rfl, rfl⟩, Below.refl _ _⟩
    case round =>
      obtain ⟨k, s, rfl, rfl, hk, hs, hb⟩ := hrel
      obtain ⟨wi, hwi⟩ : ∃ wi, wi = wr := ⟨_, rfl⟩
      subst hwi
      have hsl := upTo_le hs
      have hP := H4.out.2.1.past hb H4.out.2.1.inside
      clear d0 d1
      by_cases hlt : k < b.l.length
      · have hx : b.l[k]? = some b.l[k] := List.getElem?_eq_getElem hlt
        have hxm := List.mem_of_getElem? hx
        obtain ⟨u, hu0⟩ : ∃ u, u = b.l[k] := ⟨_, rfl⟩
        rw [← hu0] at hx hxm
        have hin3 := H4.out.2.2.keep hb
        obtain ⟨g, o', hAe, hB', hys⟩ := lies_up hin3.ups.head (by omega)
        rw [HS3.out.2] at hAe
        obtain ⟨rfl, rfl⟩ : bb = g ∧ o = o' := by simpa using hAe
        obtain ⟨e0, e1, e2, e3, e4, e5⟩ := (hys k u hx).six
        obtain ⟨V2, hV2, hvb2, hvs2, hvo2⟩ := upbox wi u
        have hb3 := hb.trans (hvb2.mono hb.size)
        have hu := HL.out.2.1.l.ok u hxm
        have hin4 := hin3.keep hvb2
        have hP2 := hP.past hvb2 hP.inside
        have HJ := Lib.hid (And.intro hb3 (And.intro hP2 (And.intro hin4 (And.intro hu (And.intro hx (And.intro hs hvo2))))))
        have q0 : (0 : Int) ≤ (k : Int) := by omega
        have q1 : (k : Int) < (b.l.length : Int) := by omega
        have q2 : decide ((k : Int) < (b.l.length : Int)) = true := decide_eq_true q1
        have z2 := fun (W : World) (hW : Below V2.heap.size V2 W) => Lib.hid (group_any b u.kA u.kc u.key W (hin4.keep hW) HL.out.2.1 HL.out.2.2.1 HL.out.2.2.2.1 HL.out.2.2.2.2.1 (((hin4.ups.each_ u hxm).keep hW).key) (by have := hu.kn; unfold maxLen; omega))
        unfold GroupSays at z2
        rw [show b.val = .agg #[.slice b.sA b.f.length b.sc, .slice b.uA b.l.length b.uc] from rfl] at z2
        have hend := Lib.hid (show ∀ (wz : World) (sx : Nat) (outG : List Up), outG.map Up.p = (groupB b.l u.key).map Up.p → True from fun _ _ _ _ => trivial)
        clear hend
        have HG := Lib.hid z2
        have HX := Lib.hid (fun p : Past V2 => own6 (hvo2.past p.h hvo2.inside))
        have HY := Lib.hid (fun p : Past V2 => own2 (hP2.past p.h hP2.inside))
        have hX := HX.out
        have hY := HY.out
        rw [HS3.out.2] at hY
        rcases Nat.eq_zero_or_pos k with h0 | h0
        · subst h0
          simp only [Nat.zero_mul, Nat.add_zero] at e0 e1 e2 e3 e4 e5
          have q3 : decide ((0 : Int) < ((0 : Nat) : Int)) = false := by decide
          clear hb hx hxm hu0 hin3 hAe hB' hys hvb2 hvs2 hvo2 hb3 hu hin4 hP hP2 z2 hs
          go_upto_region 13 with fail
          rw [← hV2]
          clear hV2 e0 e1 e2 e3 e4 e5
          refine wp_region_past V2 (by kernel_rfl) (by kernel_rfl) (Below.refl _ _) ?_
          repeat (first | go_big_quiet_step (fail) | quiet_step (fail))
          refine wpQuiet_nil ?_
          intro wz hw'
          obtain ⟨⟨wy, hbz⟩, hw''⟩ := hw'
          dsimp only at hw''
          subst hw''
          have HZ := Lib.hid (And.intro (HJ.out.1.trans (hbz.mono HJ.out.1.size)) hbz)
          have z3 := Lib.hid (HG.out wz hbz)
          obtain ⟨a0, a1⟩ := hY ⟨wz, hbz⟩
          obtain ⟨e0, e1, e2, e3, e4, e5⟩ := hX ⟨wz, hbz⟩
          dsimp only at a0 a1 e0 e1 e2 e3 e4 e5
          rw [HS3.out.2] at z3
          (first | rw [h] at z3 | skip)
          clear hbz hX hY
          go_wp2_with fail
          refine z3.out.out.mono ?_
          rintro _ w6 ⟨A6, outG, E6, rfl, hE6, _, _, b6⟩
          have hg6 : outG.length = (groupB b.l u.key).length := by
            rcases hE6 with ⟨_, h, _⟩ | ⟨h, _⟩
            · simpa using congrArg List.length h
            · exact absurd HB.out h
          have hfirst := heads_first (even_keys HB.out.2.1) HJ.out.2.2.2.2.1
          have hll := leB_len b.l u.key
          have H6 := Lib.hid (And.intro (HZ.out.1.trans (b6.mono HZ.out.1.size)) (hg6.trans hfirst.symm))
          have hs0 : s = 0 := by rcases HJ.out.2.2.2.2.2.1 with ⟨_, h⟩ | ⟨_, h, _⟩; exact h; omega
          have hlg : outG.length ≤ 1048576 := by omega
          clear b6 hE6 z3 a0 a1 e0 e1 e2 e3 e4 e5 hg6 hfirst
          subst hs0
          go_wp2_with fail
          go_roundw
          case rel => exact ⟨1, outG.length, by go_num, by go_num, by omega, .inr ⟨u, by omega, HJ.out.2.2.2.2.1, H6.out.2⟩, H6.out.1⟩
          case measure => simp [intOf]; omega
        · obtain ⟨i, rfl⟩ : ∃ i, k = i + 1 := ⟨k - 1, by omega⟩
          have hx1 : b.l[i]? = some (b.l[i]'(by omega)) := List.getElem?_eq_getElem _
          have hxm1 := List.mem_of_getElem? hx1
          obtain ⟨x, hx0⟩ : ∃ x, x = b.l[i]'(by omega) := ⟨_, rfl⟩
          rw [← hx0] at hx1 hxm1
          have hxs := fun p : Past V2 => ((hys i x hx1).past_ (hvb2.trans (p.h.mono hvb2.size)) hB').six
          have hinz := fun (z : Up) (hz : z ∈ b.l) (p : Past V2) => (hin4.keep p.h).ups.each_ z hz
          have u1 : ∀ p : Past V2, Calls Tryz.prog 32 #[.agg #[.slice x.kA x.key.length x.kc, .slice none 0 0, .int .u64 0, .int .u64 0, .int .u64 0, .int .i64 0], .agg #[.slice u.kA u.key.length u.kc, .slice none 0 0, .int .u64 0, .int .u64 0, .int .u64 0, .int .i64 0]] p.w fun e w' => e = .returned (.int .i64 (cmpRows x.key u.key)) ∧ ∃ q : Past V2, w' = q.w := fun p =>
            calls_past ((dcompare_gr (kOnly x) (kOnly u) p.w (kOnly_in (hinz x hxm1 p)) (kOnly_in (hinz u hxm p)) (kOnly_ok (HL.out.2.1.l.ok x hxm1)) (kOnly_ok hu)).mono fun e w' h => ⟨by rw [h.1, kOnly_cmp], h.2.below⟩)
          obtain ⟨r, hr⟩ : ∃ r, cmpRows x.key u.key = r := ⟨_, rfl⟩
          rw [hr] at u1
          have hsx := upTo_at hs hx1
          have HR := Lib.hid (And.intro hx1 (And.intro hr hsx))
          have q3 : (0 : Int) ≤ (i : Int) := by omega
          have q4 : (i : Int) < (b.l.length : Int) := by omega
          have q5 : decide (((i + 1 : Nat) : Int) > 0) = true := decide_eq_true (by omega)
          have q5' : decide ((0 : Int) < (i : Int) + 1) = true := decide_eq_true (by omega)
          obtain ⟨Bv, hBv⟩ : ∃ Bv, (r == 0) = Bv := ⟨_, rfl⟩
          have HBv := Lib.hid hBv
          clear hb hx hxm hu0 hin3 hAe hB' hys hvb2 hvs2 hvo2 hb3 hu hin4 hP hP2 z2 hs hx1 hxm1 hx0 hinz hr hsx h0
          cases Bv with
          | true =>
            go_upto_region 13 with fail
            rw [← hV2]
            clear hV2 e0 e1 e2 e3 e4 e5
            refine wp_region_past V2 (by kernel_rfl) (by kernel_rfl) (Below.refl _ _) ?_
            repeat (first | go_big_quiet_step ((go_at_call 32; exact u1 _)) | quiet_step ((go_at_call 32; exact u1 _)))
            refine wpQuiet_nil ?_
            intro wz hw'
            obtain ⟨⟨wy, hbz⟩, hw''⟩ := hw'
            dsimp only at hw''
            subst hw''
            have HZ := Lib.hid (HJ.out.1.trans (hbz.mono HJ.out.1.size))
            clear hbz hX hY hxs u1
            go_wp2_with fail
            go_roundw
            case rel => exact ⟨i + 1 + 1, s, by go_num, by go_num, by omega, .inr ⟨u, by omega, HJ.out.2.2.2.2.1, by rw [heads_same (HR.out.2.1.trans (beq_iff_eq.1 HBv.out))]; exact HR.out.2.2⟩, HZ.out⟩
            case measure => simp [intOf]; omega
          | false =>
            go_upto_region 13 with fail
            rw [← hV2]
            clear hV2 e0 e1 e2 e3 e4 e5
            refine wp_region_past V2 (by kernel_rfl) (by kernel_rfl) (Below.refl _ _) ?_
            repeat (first | go_big_quiet_step ((go_at_call 32; exact u1 _)) | quiet_step ((go_at_call 32; exact u1 _)))
            refine wpQuiet_nil ?_
            intro wz hw'
            obtain ⟨⟨wy, hbz⟩, hw''⟩ := hw'
            dsimp only at hw''
            subst hw''
            have HZ := Lib.hid (And.intro (HJ.out.1.trans (hbz.mono HJ.out.1.size)) hbz)
            have z3 := Lib.hid (HG.out wz hbz)
            obtain ⟨a0, a1⟩ := hY ⟨wz, hbz⟩
            obtain ⟨e0, e1, e2, e3, e4, e5⟩ := hX ⟨wz, hbz⟩
            dsimp only at a0 a1 e0 e1 e2 e3 e4 e5
            rw [HS3.out.2] at z3
            (first | rw [h] at z3 | skip)
            clear hbz hX hY hxs u1
            go_wp2_with fail
            refine z3.out.out.mono ?_
            rintro _ w6 ⟨A6, outG, E6, rfl, hE6, _, _, b6⟩
            have hg6 : outG.length = (groupB b.l u.key).length := by
              rcases hE6 with ⟨_, h, _⟩ | ⟨h, _⟩
              · simpa using congrArg List.length h
              · exact absurd HB.out h
            have hstep := heads_step (even_keys HB.out.2.1) HR.out.1 HJ.out.2.2.2.2.1 (by rw [HR.out.2.1]; exact beq_eq_false_iff_ne.1 HBv.out)
            have hll := leB_len b.l u.key
            have hsum : s + outG.length = (leB b.l u.key).length := by rw [hstep, ← hg6, ← HR.out.2.2]
            have H6 := Lib.hid (And.intro (HZ.out.1.trans (b6.mono HZ.out.1.size)) hsum)
            have hlg : s + outG.length ≤ 1048576 := by omega
            clear b6 hE6 z3 a0 a1 e0 e1 e2 e3 e4 e5 hg6 hstep hsum
            go_wp2_with fail
            go_roundw
            case rel => exact ⟨i + 1 + 1, s + outG.length, by go_num, by go_num, by omega, .inr ⟨u, by omega, HJ.out.2.2.2.2.1, H6.out.2⟩, H6.out.1⟩
            case measure => simp [intOf]; omega
      · have hk2 : k = b.l.length := by omega
        have hse : s = b.l.length := by
          rcases hs with ⟨h, _⟩ | ⟨u, h, hu, hsu⟩
          · omega
          · rw [hsu]; exact heads_last (even_keys HB.out.2.1) hu (by omega)
        have q2 : decide ((k : Int) < (b.l.length : Int)) = false := decide_eq_false (by omega)
        have HE := Lib.hid hb
        have t3 : ((s : Int) == (b.l.length : Int)) = true := by rw [hse]; simp
        obtain ⟨a0, a1⟩ := own2 hP
        rw [HS3.out.2] at a1
        clear hb hs hP hse hk2
        go_wp2_with fail
        go_ret
        exact ⟨rfl, belows H4.out.1 HE.out⟩
  · refine (q1 _).out.mono ?_
    rintro _ w4 ⟨rfl, b4⟩
    have hb4 := belows H3.out b4
    have ho4 := ho3.past b4 ho3.inside
    have H4 := Lib.hid (And.intro hb4 (And.intro ho4 (HL.out.1.keep hb4)))
    clear d0 d1 b4 hb4 ho3 t1 t2 r0 r1 q1 q2 hle
    obtain ⟨d0, d1⟩ := own2 ho4
    rw [HS3.out.2] at d1
    clear ho4
    go_wp2_with fail
    go_loopw [9, 70] (fun v9 v70 wr => ∃ k s : Nat, v9 = .int .i64 (s : Int) ∧ v70 = .int .i64 (k : Int) ∧ k ≤ b.l.length ∧ UpTo b.l k s ∧ Below w4.heap.size w4 wr) (fun _ v70 _ => b.l.length - (intOf v70).toNat)
    case atStart => exact ⟨0, 0, rfl, rfl, by omega, .inl ⟨rfl, rfl⟩, Below.refl _ _⟩
    case round =>
      obtain ⟨k, s, rfl, rfl, hk, hs, hb⟩ := hrel
      obtain ⟨wi, hwi⟩ : ∃ wi, wi = wr := ⟨_, rfl⟩
      subst hwi
      have hsl := upTo_le hs
      have hP := H4.out.2.1.past hb H4.out.2.1.inside
      clear d0 d1
      by_cases hlt : k < b.l.length
      · have hx : b.l[k]? = some b.l[k] := List.getElem?_eq_getElem hlt
        have hxm := List.mem_of_getElem? hx
        obtain ⟨u, hu0⟩ : ∃ u, u = b.l[k] := ⟨_, rfl⟩
        rw [← hu0] at hx hxm
        have hin3 := H4.out.2.2.keep hb
        obtain ⟨g, o', hAe, hB', hys⟩ := lies_up hin3.ups.head (by omega)
        rw [HS3.out.2] at hAe
        obtain ⟨rfl, rfl⟩ : bb = g ∧ o = o' := by simpa using hAe
        obtain ⟨e0, e1, e2, e3, e4, e5⟩ := (hys k u hx).six
        obtain ⟨V2, hV2, hvb2, hvs2, hvo2⟩ := upbox wi u
        have hb3 := hb.trans (hvb2.mono hb.size)
        have hu := HL.out.2.1.l.ok u hxm
        have hin4 := hin3.keep hvb2
        have hP2 := hP.past hvb2 hP.inside
        have HJ := Lib.hid (And.intro hb3 (And.intro hP2 (And.intro hin4 (And.intro hu (And.intro hx (And.intro hs hvo2))))))
        have q0 : (0 : Int) ≤ (k : Int) := by omega
        have q1 : (k : Int) < (b.l.length : Int) := by omega
        have q2 : decide ((k : Int) < (b.l.length : Int)) = true := decide_eq_true q1
        have z2 := fun (W : World) (hW : Below V2.heap.size V2 W) => Lib.hid (group_any b u.kA u.kc u.key W (hin4.keep hW) HL.out.2.1 HL.out.2.2.1 HL.out.2.2.2.1 HL.out.2.2.2.2.1 (((hin4.ups.each_ u hxm).keep hW).key) (by have := hu.kn; unfold maxLen; omega))
        unfold GroupSays at z2
        rw [show b.val = .agg #[.slice b.sA b.f.length b.sc, .slice b.uA b.l.length b.uc] from rfl] at z2
        have hend := Lib.hid (show ∀ (wz : World) (sx : Nat) (outG : List Up), outG.map Up.p = (groupB b.l u.key).map Up.p → True from fun _ _ _ _ => trivial)
        clear hend
        have HG := Lib.hid z2
        have HX := Lib.hid (fun p : Past V2 => own6 (hvo2.past p.h hvo2.inside))
        have HY := Lib.hid (fun p : Past V2 => own2 (hP2.past p.h hP2.inside))
        have hX := HX.out
        have hY := HY.out
        rw [HS3.out.2] at hY
        rcases Nat.eq_zero_or_pos k with h0 | h0
        · subst h0
          simp only [Nat.zero_mul, Nat.add_zero] at e0 e1 e2 e3 e4 e5
          have q3 : decide ((0 : Int) < ((0 : Nat) : Int)) = false := by decide
          clear hb hx hxm hu0 hin3 hAe hB' hys hvb2 hvs2 hvo2 hb3 hu hin4 hP hP2 z2 hs
          go_upto_region 13 with fail
          rw [← hV2]
          clear hV2 e0 e1 e2 e3 e4 e5
          refine wp_region_past V2 (by kernel_rfl) (by kernel_rfl) (Below.refl _ _) ?_
          repeat (first | go_big_quiet_step (fail) | quiet_step (fail))
          refine wpQuiet_nil ?_
          intro wz hw'
          obtain ⟨⟨wy, hbz⟩, hw''⟩ := hw'
          dsimp only at hw''
          subst hw''
          have HZ := Lib.hid (And.intro (HJ.out.1.trans (hbz.mono HJ.out.1.size)) hbz)
          have z3 := Lib.hid (HG.out wz hbz)
          obtain ⟨a0, a1⟩ := hY ⟨wz, hbz⟩
          obtain ⟨e0, e1, e2, e3, e4, e5⟩ := hX ⟨wz, hbz⟩
          dsimp only at a0 a1 e0 e1 e2 e3 e4 e5
          rw [HS3.out.2] at z3
          (first | rw [h] at z3 | skip)
          clear hbz hX hY
          go_wp2_with fail
          refine z3.out.out.mono ?_
          rintro _ w6 ⟨A6, outG, E6, rfl, hE6, _, _, b6⟩
          have hg6 : outG.length = (groupB b.l u.key).length := by
            rcases hE6 with ⟨_, h, _⟩ | ⟨h, _⟩
            · simpa using congrArg List.length h
            · exact absurd HB.out h
          have hfirst := heads_first (even_keys HB.out.2.1) HJ.out.2.2.2.2.1
          have hll := leB_len b.l u.key
          have H6 := Lib.hid (And.intro (HZ.out.1.trans (b6.mono HZ.out.1.size)) (hg6.trans hfirst.symm))
          have hs0 : s = 0 := by rcases HJ.out.2.2.2.2.2.1 with ⟨_, h⟩ | ⟨_, h, _⟩; exact h; omega
          have hlg : outG.length ≤ 1048576 := by omega
          clear b6 hE6 z3 a0 a1 e0 e1 e2 e3 e4 e5 hg6 hfirst
          subst hs0
          go_wp2_with fail
          go_roundw
          case rel => exact ⟨1, outG.length, by go_num, by go_num, by omega, .inr ⟨u, by omega, HJ.out.2.2.2.2.1, H6.out.2⟩, H6.out.1⟩
          case measure => simp [intOf]; omega
        · obtain ⟨i, rfl⟩ : ∃ i, k = i + 1 := ⟨k - 1, by omega⟩
          have hx1 : b.l[i]? = some (b.l[i]'(by omega)) := List.getElem?_eq_getElem _
          have hxm1 := List.mem_of_getElem? hx1
          obtain ⟨x, hx0⟩ : ∃ x, x = b.l[i]'(by omega) := ⟨_, rfl⟩
          rw [← hx0] at hx1 hxm1
          have hxs := fun p : Past V2 => ((hys i x hx1).past_ (hvb2.trans (p.h.mono hvb2.size)) hB').six
          have hinz := fun (z : Up) (hz : z ∈ b.l) (p : Past V2) => (hin4.keep p.h).ups.each_ z hz
          have u1 : ∀ p : Past V2, Calls Tryz.prog 32 #[.agg #[.slice x.kA x.key.length x.kc, .slice none 0 0, .int .u64 0, .int .u64 0, .int .u64 0, .int .i64 0], .agg #[.slice u.kA u.key.length u.kc, .slice none 0 0, .int .u64 0, .int .u64 0, .int .u64 0, .int .i64 0]] p.w fun e w' => e = .returned (.int .i64 (cmpRows x.key u.key)) ∧ ∃ q : Past V2, w' = q.w := fun p =>
            calls_past ((dcompare_gr (kOnly x) (kOnly u) p.w (kOnly_in (hinz x hxm1 p)) (kOnly_in (hinz u hxm p)) (kOnly_ok (HL.out.2.1.l.ok x hxm1)) (kOnly_ok hu)).mono fun e w' h => ⟨by rw [h.1, kOnly_cmp], h.2.below⟩)
          obtain ⟨r, hr⟩ : ∃ r, cmpRows x.key u.key = r := ⟨_, rfl⟩
          rw [hr] at u1
          have hsx := upTo_at hs hx1
          have HR := Lib.hid (And.intro hx1 (And.intro hr hsx))
          have q3 : (0 : Int) ≤ (i : Int) := by omega
          have q4 : (i : Int) < (b.l.length : Int) := by omega
          have q5 : decide (((i + 1 : Nat) : Int) > 0) = true := decide_eq_true (by omega)
          have q5' : decide ((0 : Int) < (i : Int) + 1) = true := decide_eq_true (by omega)
          obtain ⟨Bv, hBv⟩ : ∃ Bv, (r == 0) = Bv := ⟨_, rfl⟩
          have HBv := Lib.hid hBv
          clear hb hx hxm hu0 hin3 hAe hB' hys hvb2 hvs2 hvo2 hb3 hu hin4 hP hP2 z2 hs hx1 hxm1 hx0 hinz hr hsx h0
          cases Bv with
          | true =>
            go_upto_region 13 with fail
            rw [← hV2]
            clear hV2 e0 e1 e2 e3 e4 e5
            refine wp_region_past V2 (by kernel_rfl) (by kernel_rfl) (Below.refl _ _) ?_
            repeat (first | go_big_quiet_step ((go_at_call 32; exact u1 _)) | quiet_step ((go_at_call 32; exact u1 _)))
            refine wpQuiet_nil ?_
            intro wz hw'
            obtain ⟨⟨wy, hbz⟩, hw''⟩ := hw'
            dsimp only at hw''
            subst hw''
            have HZ := Lib.hid (HJ.out.1.trans (hbz.mono HJ.out.1.size))
            clear hbz hX hY hxs u1
            go_wp2_with fail
            go_roundw
            case rel => exact ⟨i + 1 + 1, s, by go_num, by go_num, by omega, .inr ⟨u, by omega, HJ.out.2.2.2.2.1, by rw [heads_same (HR.out.2.1.trans (beq_iff_eq.1 HBv.out))]; exact HR.out.2.2⟩, HZ.out⟩
            case measure => simp [intOf]; omega
          | false =>
            go_upto_region 13 with fail
            rw [← hV2]
            clear hV2 e0 e1 e2 e3 e4 e5
            refine wp_region_past V2 (by kernel_rfl) (by kernel_rfl) (Below.refl _ _) ?_
            repeat (first | go_big_quiet_step ((go_at_call 32; exact u1 _)) | quiet_step ((go_at_call 32; exact u1 _)))
            refine wpQuiet_nil ?_
            intro wz hw'
            obtain ⟨⟨wy, hbz⟩, hw''⟩ := hw'
            dsimp only at hw''
            subst hw''
            have HZ := Lib.hid (And.intro (HJ.out.1.trans (hbz.mono HJ.out.1.size)) hbz)
            have z3 := Lib.hid (HG.out wz hbz)
            obtain ⟨a0, a1⟩ := hY ⟨wz, hbz⟩
            obtain ⟨e0, e1, e2, e3, e4, e5⟩ := hX ⟨wz, hbz⟩
            dsimp only at a0 a1 e0 e1 e2 e3 e4 e5
            rw [HS3.out.2] at z3
            (first | rw [h] at z3 | skip)
            clear hbz hX hY hxs u1
            go_wp2_with fail
            refine z3.out.out.mono ?_
            rintro _ w6 ⟨A6, outG, E6, rfl, hE6, _, _, b6⟩
            have hg6 : outG.length = (groupB b.l u.key).length := by
              rcases hE6 with ⟨_, h, _⟩ | ⟨h, _⟩
              · simpa using congrArg List.length h
              · exact absurd HB.out h
            have hstep := heads_step (even_keys HB.out.2.1) HR.out.1 HJ.out.2.2.2.2.1 (by rw [HR.out.2.1]; exact beq_eq_false_iff_ne.1 HBv.out)
            have hll := leB_len b.l u.key
            have hsum : s + outG.length = (leB b.l u.key).length := by rw [hstep, ← hg6, ← HR.out.2.2]
            have H6 := Lib.hid (And.intro (HZ.out.1.trans (b6.mono HZ.out.1.size)) hsum)
            have hlg : s + outG.length ≤ 1048576 := by omega
            clear b6 hE6 z3 a0 a1 e0 e1 e2 e3 e4 e5 hg6 hstep hsum
            go_wp2_with fail
            go_roundw
            case rel => exact ⟨i + 1 + 1, s + outG.length, by go_num, by go_num, by omega, .inr ⟨u, by omega, HJ.out.2.2.2.2.1, H6.out.2⟩, H6.out.1⟩
            case measure => simp [intOf]; omega
      · have hk2 : k = b.l.length := by omega
        have hse : s = b.l.length := by
          rcases hs with ⟨h, _⟩ | ⟨u, h, hu, hsu⟩
          · omega
          · rw [hsu]; exact heads_last (even_keys HB.out.2.1) hu (by omega)
        have q2 : decide ((k : Int) < (b.l.length : Int)) = false := decide_eq_false (by omega)
        have HE := Lib.hid hb
        have t3 : ((s : Int) == (b.l.length : Int)) = true := by rw [hse]; simp
        obtain ⟨a0, a1⟩ := own2 hP
        rw [HS3.out.2] at a1
        clear hb hs hP hse hk2
        go_wp2_with fail
        go_ret
        exact ⟨rfl, belows H4.out.1 HE.out⟩
end Go.Proofs.YtbccdmpnojdldaaGreat
namespace Go.Proofs.YtbccdmpnojdldaaGreat
open Go Go.RowKit

set_option maxRecDepth 100000 in
set_option maxHeartbeats 12800000 in
theorem bgroups_wrong (b : Bt) (A : Option Addr) (c : Nat) (key : List Vl) (w : World) (hin : BtIn w w.heap.size b) (ok : BtOk b) (hc : b.l.length ≤ b.uc) (hcm : b.uc ≤ maxLen) (hln : b.l.length ≤ 1048576) (hv : Vals w w.heap.size A key) (hn : key.length ≤ maxLen) (hB : ¬ BatchOk b.f b.l) :
    Calls Tryz.prog 7 #[b.val, .slice A key.length c] w fun e w' => e = .returned (.bool true) ∧ Below w.heap.size w w' := by
  have y0 := fun W => Lib.hid (blives_true W)
  obtain ⟨V, hV, hvb, hvs, hvo⟩ := btbox w b
  have HL := Lib.hid (And.intro hin (And.intro ok (And.intro hc (And.intro hcm (And.intro hln (And.intro hv hn))))))
  have HV := Lib.hid (And.intro hvb hvo)
  have HB := Lib.hid hB
  rw [show b.val = .agg #[.slice b.sA b.f.length b.sc, .slice b.uA b.l.length b.uc] from rfl]
  clear hin ok hc hcm hln hv hn hvb hvs hvo hB
  go_enter Tryz.func7, Tryz.ntmps7
  go_upto_region 1 with fail
  rw [← hV]
  clear hV
  go_wp2_with fail
  refine (y0 _).out.mono ?_
  rintro e w1 ⟨rfl, b1⟩
  have hb1 := belows HV.out.1 b1
  have ho1 := HV.out.2.past b1 HV.out.2.inside
  have z1 := Lib.hid (seek_any b A c key w1 (HL.out.1.keep hb1) HL.out.2.1 ((HL.out.2.2.2.2.2.1.past hb1 (Nat.le_refl _)).wide hb1.size) HL.out.2.2.2.2.2.2)
  unfold SeekSays at z1
  rw [show b.val = .agg #[.slice b.sA b.f.length b.sc, .slice b.uA b.l.length b.uc] from rfl] at z1
  have H1 := Lib.hid (And.intro hb1 ho1)
  obtain ⟨d0, d1⟩ := own2 ho1
  clear b1 hb1 ho1
  go_wp2_with fail
  refine z1.out.mono ?_
  rintro _ w2 ⟨n, E, rfl, hE, b2⟩
  have hb2 := belows H1.out.1 b2
  have ho2 := H1.out.2.past b2 H1.out.2.inside
  have z2 := Lib.hid (group_any b A c key w2 (HL.out.1.keep hb2) HL.out.2.1 HL.out.2.2.1 HL.out.2.2.2.1 HL.out.2.2.2.2.1 ((HL.out.2.2.2.2.2.1.past hb2 (Nat.le_refl _)).wide hb2.size) HL.out.2.2.2.2.2.2)
  unfold GroupSays at z2
  rw [show b.val = .agg #[.slice b.sA b.f.length b.sc, .slice b.uA b.l.length b.uc] from rfl] at z2
  have H2 := Lib.hid (And.intro hb2 ho2)
  obtain ⟨rfl, rfl⟩ : n = 0 ∧ E = 4 := by rcases hE with ⟨h, _⟩ | ⟨_, h⟩; exact absurd h HB.out; exact h
  clear d0 d1 b2 hb2 z1 hE
  obtain ⟨d0, d1⟩ := own2 ho2
  clear ho2
  go_wp2_with fail
  refine z2.out.mono ?_
  rintro _ w3 ⟨G, outL, E', rfl, hE', hu, ou, b3⟩
  have H3 := Lib.hid (belows H2.out.1 b3)
  obtain ⟨rfl, rfl⟩ : outL = [] ∧ E' = 4 := by rcases hE' with ⟨h, _⟩ | ⟨_, h⟩; exact absurd h HB.out; exact h
  clear d0 d1 b3 z2 hE' hu ou
  go_wp2_with fail
  go_ret
  exact ⟨rfl, H3.out⟩
end Go.Proofs.YtbccdmpnojdldaaGreat
namespace Go.Proofs.YtbccdmpnojdldaaGreat
open Go Go.RowKit

set_option maxRecDepth 100000 in
set_option maxHeartbeats 12800000 in
theorem bgroups_empty (b : Bt) (A : Option Addr) (c : Nat) (key : List Vl) (w : World) (hin : BtIn w w.heap.size b) (ok : BtOk b) (hcm : b.uc ≤ maxLen) (hv : Vals w w.heap.size A key) (hn : key.length ≤ maxLen) (hB : BatchOk b.f b.l) (h0 : b.l = []) :
    Calls Tryz.prog 7 #[b.val, .slice A key.length c] w fun e w' => e = .returned (.bool true) ∧ Below w.heap.size w w' := by
  have y0 := fun W => Lib.hid (blives_true W)
  obtain ⟨V, hV, hvb, hvs, hvo⟩ := btbox w b
  have hl0 : b.l.length = 0 := by rw [h0]; rfl
  have hs0 : seekB b.l key = 0 := by rw [h0]; rfl
  have hg0 : groupB b.l key = [] := by rw [h0]; rfl
  have z1 := fun W (h : Below w.heap.size w W) => Lib.hid (seek_any b A c key W (hin.keep h) ok ((hv.past h (Nat.le_refl _)).wide h.size) hn)
  have z2 := fun W (h : Below w.heap.size w W) => Lib.hid (group_any b A c key W (hin.keep h) ok (by omega) hcm (by omega) ((hv.past h (Nat.le_refl _)).wide h.size) hn)
  unfold SeekSays at z1
  unfold GroupSays at z2
  rw [hs0] at z1
  rw [hg0] at z2
  have HV := Lib.hid (And.intro hvb hvo)
  have HB := Lib.hid hB
  rw [show b.val = .agg #[.slice b.sA b.f.length b.sc, .slice b.uA b.l.length b.uc] from rfl, hl0] at z1 z2 ⊢
  have hvo' : Own V w.heap.size 26 [.slice b.sA b.f.length b.sc, .slice b.uA 0 b.uc] := by
    have := hvo
    unfold Bt.cells at this
    rw [hl0] at this
    exact this
  rw [hl0] at hV
  have HO := Lib.hid hvo'
  unfold maxLen at hcm
  clear hin ok hv hn hvb hvs hvo hB h0 hs0 hg0
  generalize b.uA = uA at *
  generalize b.uc = uc at *
  generalize b.sA = sA at *
  generalize b.sc = sc at *
  obtain ⟨d0, d1⟩ := own2 hvo'
  clear hvo'
  cases uA with
  | none =>
    go_enter Tryz.func7, Tryz.ntmps7
    go_upto_region 1 with fail
    rw [← hV]
    clear hV
    go_wp2_with fail
    refine (y0 _).out.mono ?_
    rintro _ w1 ⟨rfl, b1⟩
    have HO := Lib.hid (HO.out.past b1 HO.out.inside)
    have H1 := Lib.hid (belows HV.out.1 b1)
    clear b1 d0 d1
    obtain ⟨d0, d1⟩ := own2 HO.out
    go_wp2_with fail
    refine (z1 _ H1.out).out.mono ?_
    rintro _ w2 ⟨n, E, rfl, hE, b2⟩
    obtain ⟨rfl, rfl⟩ : n = 0 ∧ E = 0 := by rcases hE with ⟨_, h⟩ | ⟨h, _⟩; exact h; exact absurd HB.out h
    have HO := Lib.hid (HO.out.past b2 HO.out.inside)
    have H2 := Lib.hid (belows H1.out b2)
    clear b2 d0 d1 hE z1
    obtain ⟨d0, d1⟩ := own2 HO.out
    go_wp2_with fail
    refine (z2 _ H2.out).out.mono ?_
    rintro _ w3 ⟨G, outL, E', rfl, hE', _, _, b3⟩
    obtain ⟨hp, rfl⟩ : outL.map Up.p = ([] : List Up).map Up.p ∧ E' = 0 := by rcases hE' with ⟨_, h⟩ | ⟨h, _⟩; exact h; exact absurd HB.out h
    obtain rfl : outL = [] := List.map_eq_nil_iff.1 hp
    have HO := Lib.hid (HO.out.past b3 HO.out.inside)
    have H3 := Lib.hid (belows H2.out b3)
    have sm := fun A' cc => Lib.hid (sameups_yes A' G cc 0 [] [] w3 ⟨Lies.nil_, fun u hu => by cases hu⟩ ⟨Lies.nil_, fun u hu => by cases hu⟩ us_nil us_nil rfl)
    clear b3 d0 d1 hE' hp z2
    obtain ⟨d0, d1⟩ := own2 HO.out
    go_wp2_with fail
    all_goals
      refine (sm _ _).out.mono ?_
      rintro _ w4 ⟨rfl, b4⟩
      have HO := Lib.hid (HO.out.past b4 HO.out.inside)
      have H4 := Lib.hid (belows H3.out b4)
      clear b4 d0 d1
      obtain ⟨d0, d1⟩ := own2 HO.out
      go_wp2_with fail
      go_loopw [9, 70] (fun v9 v70 wr => v9 = .int .i64 0 ∧ v70 = .int .i64 0 ∧ wr = w4) (fun _ _ _ => 0)
      case atStart => exact ⟨rfl, rfl, rfl⟩
      case round =>
        obtain ⟨rfl, rfl, rfl⟩ := hrel
        go_wp2_with fail
        go_ret
        exact ⟨rfl, H4.out⟩
  | some ad =>
    go_enter Tryz.func7, Tryz.ntmps7
    go_upto_region 1 with fail
    rw [← hV]
    clear hV
    go_wp2_with fail
    refine (y0 _).out.mono ?_
    rintro _ w1 ⟨rfl, b1⟩
    have HO := Lib.hid (HO.out.past b1 HO.out.inside)
    have H1 := Lib.hid (belows HV.out.1 b1)
    clear b1 d0 d1
    obtain ⟨d0, d1⟩ := own2 HO.out
    go_wp2_with fail
    refine (z1 _ H1.out).out.mono ?_
    rintro _ w2 ⟨n, E, rfl, hE, b2⟩
    obtain ⟨rfl, rfl⟩ : n = 0 ∧ E = 0 := by rcases hE with ⟨_, h⟩ | ⟨h, _⟩; exact h; exact absurd HB.out h
    have HO := Lib.hid (HO.out.past b2 HO.out.inside)
    have H2 := Lib.hid (belows H1.out b2)
    clear b2 d0 d1 hE z1
    obtain ⟨d0, d1⟩ := own2 HO.out
    go_wp2_with fail
    refine (z2 _ H2.out).out.mono ?_
    rintro _ w3 ⟨G, outL, E', rfl, hE', _, _, b3⟩
    obtain ⟨hp, rfl⟩ : outL.map Up.p = ([] : List Up).map Up.p ∧ E' = 0 := by rcases hE' with ⟨_, h⟩ | ⟨h, _⟩; exact h; exact absurd HB.out h
    obtain rfl : outL = [] := List.map_eq_nil_iff.1 hp
    have HO := Lib.hid (HO.out.past b3 HO.out.inside)
    have H3 := Lib.hid (belows H2.out b3)
    have sm := fun A' cc => Lib.hid (sameups_yes A' G cc 0 [] [] w3 ⟨Lies.nil_, fun u hu => by cases hu⟩ ⟨Lies.nil_, fun u hu => by cases hu⟩ us_nil us_nil rfl)
    clear b3 d0 d1 hE' hp z2
    obtain ⟨d0, d1⟩ := own2 HO.out
    go_wp2_with fail
    all_goals
      refine (sm _ _).out.mono ?_
      rintro _ w4 ⟨rfl, b4⟩
      have HO := Lib.hid (HO.out.past b4 HO.out.inside)
      have H4 := Lib.hid (belows H3.out b4)
      clear b4 d0 d1
      obtain ⟨d0, d1⟩ := own2 HO.out
      go_wp2_with fail
      go_loopw [9, 70] (fun v9 v70 wr => v9 = .int .i64 0 ∧ v70 = .int .i64 0 ∧ wr = w4) (fun _ _ _ => 0)
      case atStart => exact ⟨rfl, rfl, rfl⟩
      case round =>
        obtain ⟨rfl, rfl, rfl⟩ := hrel
        go_wp2_with fail
        go_ret
        exact ⟨rfl, H4.out⟩
theorem bgroups_law (b : Bt) (A : Option Addr) (c : Nat) (key : List Vl) (w : World) (hin : BtIn w w.heap.size b) (hb : BtOk b ∧ b.l.length ≤ b.uc ∧ b.uc ≤ maxLen ∧ b.l.length ≤ 1048576) (hv : Vals w w.heap.size A key) (_ : ∀ v ∈ key, VOk v) (hn : key.length ≤ 1048576) (_ : key.length ≤ 1048576) :
    Calls Tryz.prog 7 #[b.val, .slice A key.length c] w fun e w' => e = .returned (.bool true) ∧ Below w.heap.size w w' := by
  obtain ⟨ok, hc, hcm, hln⟩ := hb
  have hkm : key.length ≤ maxLen := by unfold maxLen; omega
  by_cases hB : BatchOk b.f b.l
  · rcases Nat.eq_zero_or_pos b.l.length with h | h
    · exact bgroups_empty b A c key w hin ok hcm hv hkm hB (List.eq_nil_of_length_eq_zero h)
    · exact bgroups_right b A c key w hin ok hc hcm hln hv hkm hB h
  · exact bgroups_wrong b A c key w hin ok hc hcm hln hv hkm hB
end Go.Proofs.YtbccdmpnojdldaaGreat
namespace Go.Proofs.YtbccdmpnojdldaaGreat
open Go Go.RowKit Go.ChangeShapes Go.WideShapes Go.ChangeAt Go.Deep

set_option maxRecDepth 100000
section
variable {H : Type} {enc : TypeId × Value → H} {w : World} {base : Nat} {spare : Nat → Bool} {held : Bool}
theorem trod_batchc {fuel : Nat} {cs : List Value} {x : DataW H × List MemPlace} (h : DataW.trod enc Tryz.prog w base spare held fuel 26 cs = some x) : ∃ b : Bt, cs = b.cells ∧ BtIn w w.heap.size b ∧ (Rows.uptoBulk x.1 ≤ 1048576 → BtOk b ∧ b.l.length ≤ b.uc ∧ b.uc ≤ maxLen ∧ b.l.length ≤ 1048576) ∧ b.l.length ≤ Rows.uptoBulk x.1 := by
  obtain ⟨xs, n, _, hx, hlen, hxs, hf⟩ := DataW.trod_struct Tryz.underlying26 h
  have hc : Tryz.prog.cellsOf 26 = 2 := by kernel_rfl
  have hc0 : Tryz.prog.cellsOf 22 = 1 := by kernel_rfl
  have hc1 : Tryz.prog.cellsOf 24 = 1 := by kernel_rfl
  rw [hc] at hlen
  match cs, hlen with
  | [c0, c1], _ =>
    have h0 := hf 0 _ rfl
    have h1 := hf 1 _ rfl
    match xs, hxs with
    | [y0, y1], _ =>
      simp only [hc0, hc1, List.drop_zero, List.take_succ_cons, List.take_zero, List.drop_succ_cons, List.getElem?_cons_zero, List.getElem?_cons_succ] at h0 h1
      obtain ⟨A0, k0, l0, e0, g0, m0, i0, n0⟩ := open_timesC h0
      obtain ⟨⟨A1, k1, l1⟩, e1, g1, m1, i1, o1, n1⟩ := open_upsC h1
      obtain rfl := (List.cons.inj e0).1
      obtain rfl := (List.cons.inj e1).1
      have hM : Rows.uptoBulk x.1 = Rows.uptoBulk y0.1 + (Rows.uptoBulk y1.1 + 0) + 1 := by
        rw [hx]
        simp only [List.map_cons, List.map_nil, Rows.uptoBulk, Rows.uptoBulkAll]
      have n1 : l1.length + 1 ≤ Rows.uptoBulk y1.1 := n1
      exact ⟨⟨A0, k0, l0, A1, k1, l1⟩, rfl, ⟨i0, i1⟩, fun hb => ⟨⟨⟨by show l0.length ≤ _; omega, g0, m0⟩, ⟨by show l1.length ≤ _; omega, o1 (by omega)⟩⟩, g1, m1, by show l1.length ≤ _; omega⟩, by show l1.length ≤ _; omega⟩
theorem open_batchc {v : Value} {d : DataW H} {p : List MemPlace} {r : Reach} {b0 : Nat} (hv : Value.okWide Tryz.prog w r b0 26 v) (h : DataW.Trod enc Tryz.prog w base spare held 26 v d p) : ∃ b : Bt, v = b.val ∧ BtIn w w.heap.size b ∧ (Rows.uptoBulk d ≤ 1048576 → BtOk b ∧ b.l.length ≤ b.uc ∧ b.uc ≤ maxLen ∧ b.l.length ≤ 1048576) ∧ b.l.length ≤ Rows.uptoBulk d := by
  obtain ⟨cs, rfl, hsz⟩ := okWide_struct Tryz.underlying26 hv
  obtain ⟨fuel, hf⟩ := h
  obtain ⟨e, he, hok⟩ := trod_batchc hf
  refine ⟨e, ?_, hok⟩
  obtain ⟨l⟩ := cs
  simp only [Value.cells] at he
  unfold Bt.val
  rw [show l = e.cells from by simpa using he]
  rfl
theorem open_rowc {v : Value} {d : DataW H} {p : List MemPlace} {r : Reach} {b0 : Nat} (hv : Value.okWide Tryz.prog w r b0 35 v) (h : DataW.Trod enc Tryz.prog w base spare held 35 v d p) :
    ∃ (A : Option Addr) (c : Nat) (l : List Vl), v = .slice A l.length c ∧ Vals w w.heap.size A l ∧ (∀ a ∈ l, VOk a) ∧ l.length ≤ Rows.uptoBulk d := by
  obtain ⟨a0, n0, c0, rfl⟩ := okWide_slice Tryz.underlying35 hv
  obtain ⟨fuel, hf⟩ := h
  simp only [Value.cells] at hf
  obtain ⟨A, c, l, e, h1, h2, h3⟩ := open_rowC hf
  exact ⟨A, c, l, by simpa using e, h1, h2, h3⟩
end
end Go.Proofs.YtbccdmpnojdldaaGreat
