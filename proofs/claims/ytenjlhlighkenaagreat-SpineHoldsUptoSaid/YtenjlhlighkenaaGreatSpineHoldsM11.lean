/- Part 11 of the texts on which SpineHolds rests: facts and contracts. -/
import Derived.Test.YtenjlhlighkenaaGreatSpineHoldsM10
namespace Go.Proofs.YtenjlhlighkenaaGreat
open Go Go.RowKit

theorem right_anyS (l : Lv) (A : Option Addr) (c : Nat) (f : List Tm) (w : World) (hl : LvIn w w.heap.size l) (ol : LvOk l) (hf : Times w w.heap.size A f) (hfo : TsOk f c) :
    Calls Tryz.prog 28 #[l.val, .slice A f.length c] w (Tells (LvGood f l) w) := by
  obtain ⟨cl, bu, b, m⟩ := l
  cases bu
  · exact rightI_any cl b m A c f w hl ol hf hfo
  · exact rightB_any cl b m A c f w hl ol hf hfo
theorem spbox (w : World) (s : Sp) : ∃ W, W = w.alloc (.cells #[.slice s.sA s.f.length s.sc, .slice s.lA s.L.length s.lc] 31) ∧ Below w.heap.size w W ∧ W.heap.size = w.heap.size + 1 ∧ Own W w.heap.size 31 s.cells :=
  ⟨_, rfl, (Below.refl _ _).alloc (Nat.le_refl _) _, by simp, Own.made w 31 s.cells⟩
theorem good_next {f : List Tm} {L : List Lv} {k : Nat} {l : Lv} (hl : L[k]? = some l) (h : SpGood f (L.take k)) (h1 : 1 ≤ l.cls) (h2 : ∀ l0, 0 < k → L[k - 1]? = some l0 → l.cls < l0.cls) (h3 : LvGood f l) : SpGood f (L.take (k + 1)) := by
  have e : L.take (k + 1) = L.take k ++ [l] := by rw [List.take_add_one, hl]; rfl
  rw [e]
  refine ⟨h.front, fun x hx => ?_, ?_, fun x hx => ?_⟩
  · rcases List.mem_append.1 hx with hx | hx
    · exact h.pos x hx
    · obtain rfl : x = l := by simpa using hx
      exact h1
  · refine List.pairwise_append.2 ⟨h.fall, List.pairwise_singleton _ _, fun x hx y hy => ?_⟩
    obtain rfl : y = l := by simpa using hy
    have hk : 0 < (L.take k).length := List.length_pos_of_mem hx
    rw [List.length_take] at hk
    have hlt := (List.getElem?_eq_some_iff.1 hl).1
    obtain ⟨l0, hl0⟩ : ∃ l0, L[k - 1]? = some l0 := ⟨_, List.getElem?_eq_getElem (by omega)⟩
    have h4 := h2 l0 (by omega) hl0
    obtain ⟨i, hi⟩ := List.getElem?_of_mem hx
    have hik := (List.getElem?_eq_some_iff.1 hi).1
    rw [List.length_take] at hik
    by_cases e1 : i = k - 1
    · subst e1
      rw [List.getElem?_take_of_lt (by omega), hl0] at hi
      injection hi with hi
      rw [← hi]; exact h4
    · have hp := List.pairwise_iff_getElem.1 h.fall i (k - 1) (by rw [List.length_take]; omega) (by rw [List.length_take]; omega) (by omega)
      have a1 : (L.take k)[i]'(by rw [List.length_take]; omega) = x := (List.getElem?_eq_some_iff.1 hi).2
      have a2 : (L.take k)[k - 1]'(by rw [List.length_take]; omega) = l0 := by
        rw [List.getElem_take]
        exact (List.getElem?_eq_some_iff.1 hl0).2
      rw [a1, a2] at hp
      omega
  · rcases List.mem_append.1 hx with hx | hx
    · exact h.each x hx
    · obtain rfl : x = l := by simpa using hx
      exact h3
theorem good_prev {f : List Tm} {L : List Lv} {k : Nat} {l l0 : Lv} (h : SpGood f L) (hk : 0 < k) (hl : L[k]? = some l) (hl0 : L[k - 1]? = some l0) : l.cls < l0.cls := by
  have h1 := List.getElem?_eq_some_iff.1 hl
  have h2 := List.getElem?_eq_some_iff.1 hl0
  rw [← h1.2, ← h2.2]
  exact List.pairwise_iff_getElem.1 h.fall (k - 1) k h2.1 h1.1 (by omega)
set_option maxRecDepth 100000 in
set_option maxHeartbeats 25600000 in
theorem scheck_any (s : Sp) (w : World) (hs : SpIn w w.heap.size s) (ok : SpOk s) :
    Calls Tryz.prog 11 #[s.val] w (Codes (SpGood s.f s.L) 8 w) := by
  obtain ⟨V, hV, hvb, hvs, hvo⟩ := spbox w s
  have hin := hs.keep hvb
  have y1 := Lib.hid (frontier_anyS s.sA s.sc s.f V hin.since ok.f)
  have H := Lib.hid (And.intro hin (And.intro ok (And.intro hvb hvo)))
  obtain ⟨d0, d1⟩ := own2 hvo
  have hn := ok.n
  rw [show s.val = .agg #[.slice s.sA s.f.length s.sc, .slice s.lA s.L.length s.lc] from rfl]
  clear hs ok hvb hvs hvo hin
  go_enter Tryz.func11, Tryz.ntmps11
  go_upto_region 1 with fail
  rw [← hV]
  clear hV
  go_wp2_with fail
  refine y1.out.mono ?_
  rintro _ w1 ⟨fb, rfl, hfb, b1⟩
  have H1 := Lib.hid (And.intro b1 hfb)
  clear b1 hfb d0 d1 y1
  cases fb with
  | false =>
    go_wp2_with fail
    go_ret
    exact ⟨8, rfl, .inr ⟨fun h => absurd (H1.out.2.2 h.front) (by decide), rfl⟩, H.out.2.2.1.trans (H1.out.1.mono H.out.2.2.1.size)⟩
  | true =>
  have hf := Lib.hid (H1.out.2.1 rfl)
  have hX := Lib.hid (fun W (hb : Below V.heap.size V W) => own2 (H.out.2.2.2.past hb H.out.2.2.2.inside))
  obtain ⟨d0, d1⟩ := hX.out w1 H1.out.1
  go_wp2_with fail
  go_loopw [12] (fun v12 wr => ∃ k : Nat, v12 = .int .i64 (k : Int) ∧ k ≤ s.L.length ∧ Below V.heap.size V wr ∧ SpGood s.f (s.L.take k))
    (fun v12 _ => s.L.length - (intOf v12).toNat)
  case atStart => exact ⟨0, rfl, by omega, H1.out.1, ⟨hf.out, fun l hl => (by simp at hl), by simp, fun l hl => (by simp at hl)⟩⟩
  case round =>
    obtain ⟨k, rfl, hk, hb, hg⟩ := hrel
    by_cases hlt : k < s.L.length
    · obtain ⟨l, hl⟩ : ∃ l, s.L[k]? = some l := ⟨_, List.getElem?_eq_getElem hlt⟩
      obtain ⟨b, o, hA, hB, hc⟩ := lies_lv H.out.1.lev.head (by omega)
      obtain ⟨c0, c1, c2, c3, c4, c5, c6, c7, c8, c9⟩ := lv_ten fun j u hj => (hb.cell (p := ⟨b, o + k * 10 + j, none⟩) hB).trans (hc k l hl j u hj)
      have hlm := List.mem_of_getElem? hl
      have hli := ((H.out.1.lev.each_ l hlm).past hb (Nat.le_refl _)).wide hb.size
      have hlo := H.out.2.1.each_ l hlm
      have hpos := fun (h : SpGood s.f s.L) => h.pos l hlm
      have heach := fun (h : SpGood s.f s.L) => h.each l hlm
      obtain ⟨V5, hV5, hb5, hs5, ho5⟩ := lvbox wr l
      have hb55 := belows hb hb5
      have hX5 := fun q : Past V5 => own10 (ho5.past q.h ho5.inside)
      have hX2 := fun q : Past V5 => hX.out q.w (belows hb55 q.h)
      obtain ⟨br, hbr⟩ := bool_of (LvGood s.f l)
      have u1 := fun q : Past V5 => calls_past ((right_anyS l s.sA s.sc s.f q.w ((hli.keep hb5).keep q.h) hlo ((H.out.1.since.past (belows hb55 q.h) (Nat.le_refl _)).wide (belows hb55 q.h).size) H.out.2.1.f).mono fun x w' h => tells_is hbr h)
      have HK := Lib.hid (And.intro hg (And.intro hl (And.intro hb55 (And.intro hbr (And.intro hpos heach)))))
      obtain ⟨d0, d1⟩ := hX.out wr hb
      have q0 : (0 : Int) ≤ (k : Int) := by omega
      have q1 : (k : Int) < (s.L.length : Int) := by omega
      have hP := fun q : Past V5 => (show ∀ j : Nat, ∀ l0, s.L[j]? = some l0 → q.w.cell? ⟨b, o + j * 10, none⟩ = some (.int .i64 l0.cls) from fun j l0 h0 => by
        have := ((belows hb55 q.h).cell (p := ⟨b, o + j * 10 + 0, none⟩) hB).trans (hc j l0 h0 0 _ rfl)
        exact this)
      unfold Lv.val at u1
      have HS := Lib.hid hA
      rw [hA] at d1
      clear hc hb hg hli hlo hpos heach hlm hbr hl hb5 ho5 hs5 hb55
      by_cases hc1 : l.cls < 1
      · have t1 : decide (l.cls < 1) = true := decide_eq_true hc1
        have HC := Lib.hid hc1
        clear hc1
        go_upto_region 6 with fail
        rw [← hV5]
        clear hV5
        refine wp_region_past V5 (by kernel_rfl) (by kernel_rfl) (Below.refl _ _) ?_
        repeat (first | go_big_quiet_step (fail) | quiet_step (fail))
        refine wpQuiet_nil ?_
        intro wz hw'
        obtain ⟨⟨wy, hbz⟩, hw''⟩ := hw'
        dsimp only at hw''
        subst hw''
        have HZ := Lib.hid (belows HK.out.2.2.1 hbz)
        clear hX5 hX2 hP hbz u1 c0 c1 c2 c3 c4 c5 c6 c7 c8 c9 d0 d1
        go_wp2_with fail
        go_ret
        exact ⟨8, rfl, .inr ⟨fun h => absurd (HK.out.2.2.2.2.1 h) (by have := HC.out; omega), rfl⟩, H.out.2.2.1.trans (HZ.out.mono H.out.2.2.1.size)⟩
      have t1 : decide (l.cls < 1) = false := decide_eq_false hc1
      have HC := Lib.hid hc1
      clear hc1
      by_cases hk0 : k = 0
      · have t2 : decide (k > 0) = false := decide_eq_false (by omega)
        have t2' : decide (0 < k) = false := decide_eq_false (by omega)
        have t2'' : decide ((0 : Int) < (k : Int)) = false := decide_eq_false (by omega)
        have HK0 := Lib.hid hk0
        cases br with
        | false =>
          clear hk0
          go_upto_region 6 with fail
          rw [← hV5]
          clear hV5
          refine wp_region_past V5 (by kernel_rfl) (by kernel_rfl) (Below.refl _ _) ?_
          repeat (first | go_big_quiet_step ((go_at_call 28; exact u1 _)) | quiet_step ((go_at_call 28; exact u1 _)))
          refine wpQuiet_nil ?_
          intro wz hw'
          obtain ⟨⟨wy, hbz⟩, hw''⟩ := hw'
          dsimp only at hw''
          subst hw''
          have HZ := Lib.hid (belows HK.out.2.2.1 hbz)
          clear hX5 hX2 hP hbz u1 c0 c1 c2 c3 c4 c5 c6 c7 c8 c9 d0 d1
          go_wp2_with fail
          go_ret
          exact ⟨8, rfl, .inr ⟨fun h => absurd (HK.out.2.2.2.1.2 (HK.out.2.2.2.2.2 h)) (by decide), rfl⟩, H.out.2.2.1.trans (HZ.out.mono H.out.2.2.1.size)⟩
        | true =>
          have hbl : k + 1 ≤ s.L.length := by omega
          clear hk0
          go_upto_region 6 with fail
          rw [← hV5]
          clear hV5
          refine wp_region_past V5 (by kernel_rfl) (by kernel_rfl) (Below.refl _ _) ?_
          repeat (first | go_big_quiet_step ((go_at_call 28; exact u1 _)) | quiet_step ((go_at_call 28; exact u1 _)))
          refine wpQuiet_nil ?_
          intro wz hw'
          obtain ⟨⟨wy, hbz⟩, hw''⟩ := hw'
          dsimp only at hw''
          subst hw''
          have HZ := Lib.hid (belows HK.out.2.2.1 hbz)
          clear hX5 hX2 hP hbz u1 c0 c1 c2 c3 c4 c5 c6 c7 c8 c9 d0 d1
          go_wp2_with fail
          go_roundw
          case rel => exact ⟨k + 1, by go_num, by omega, HZ.out, good_next HK.out.2.1 HK.out.1 (by have := HC.out; omega) (fun l0 h0 _ => absurd h0 (by have := HK0.out; omega)) (HK.out.2.2.2.1.1 rfl)⟩
          case measure => simp [intOf]; omega
      · have t2 : decide (0 < k) = true := decide_eq_true (by omega)
        have t2'' : decide ((0 : Int) < (k : Int)) = true := decide_eq_true (by omega)
        obtain ⟨l0, hl0⟩ : ∃ l0, s.L[k - 1]? = some l0 := ⟨_, List.getElem?_eq_getElem (by omega)⟩
        have hP1 := fun q : Past V5 => hP q (k - 1) l0 hl0
        have hsub : IntKind.i64.wrap ((k : Int) - 1) = ((k - 1 : Nat) : Int) := by rw [IntKind.wrap_i64]; omega
        have s0 : (0 : Int) ≤ ((k - 1 : Nat) : Int) := by omega
        have s1 : ((k - 1 : Nat) : Int) < (s.L.length : Int) := by omega
        have HL0 := Lib.hid (And.intro hl0 (show 0 < k by omega))
        by_cases hc2 : l0.cls ≤ l.cls
        · have t3 : decide (l.cls ≥ l0.cls) = true := decide_eq_true hc2
          have t3' : decide (l0.cls ≤ l.cls) = true := decide_eq_true hc2
          have HC2 := Lib.hid hc2
          clear hl0 hk0 hc2
          go_upto_region 6 with fail
          rw [← hV5]
          clear hV5
          refine wp_region_past V5 (by kernel_rfl) (by kernel_rfl) (Below.refl _ _) ?_
          repeat (first | go_big_quiet_step (fail) | quiet_step (fail))
          refine wpQuiet_nil ?_
          intro wz hw'
          obtain ⟨⟨wy, hbz⟩, hw''⟩ := hw'
          dsimp only at hw''
          subst hw''
          have HZ := Lib.hid (belows HK.out.2.2.1 hbz)
          clear hX5 hX2 hP hbz u1 c0 c1 c2 c3 c4 c5 c6 c7 c8 c9 d0 d1
          go_wp2_with fail
          go_ret
          exact ⟨8, rfl, .inr ⟨fun h => absurd (good_prev h HL0.out.2 HK.out.2.1 HL0.out.1) (by have := HC2.out; omega), rfl⟩, H.out.2.2.1.trans (HZ.out.mono H.out.2.2.1.size)⟩
        · have t3' : decide (l0.cls ≤ l.cls) = false := decide_eq_false hc2
          have HC2 := Lib.hid hc2
          cases br with
          | false =>
            clear hl0 hk0 hc2
            go_upto_region 6 with fail
            rw [← hV5]
            clear hV5
            refine wp_region_past V5 (by kernel_rfl) (by kernel_rfl) (Below.refl _ _) ?_
            repeat (first | go_big_quiet_step ((go_at_call 28; exact u1 _)) | quiet_step ((go_at_call 28; exact u1 _)))
            refine wpQuiet_nil ?_
            intro wz hw'
            obtain ⟨⟨wy, hbz⟩, hw''⟩ := hw'
            dsimp only at hw''
            subst hw''
            have HZ := Lib.hid (belows HK.out.2.2.1 hbz)
            clear hX5 hX2 hP hbz u1 c0 c1 c2 c3 c4 c5 c6 c7 c8 c9 d0 d1
            go_wp2_with fail
            go_ret
            exact ⟨8, rfl, .inr ⟨fun h => absurd (HK.out.2.2.2.1.2 (HK.out.2.2.2.2.2 h)) (by decide), rfl⟩, H.out.2.2.1.trans (HZ.out.mono H.out.2.2.1.size)⟩
          | true =>
            have hbl : k + 1 ≤ s.L.length := by omega
            clear hl0 hk0 hc2
            go_upto_region 6 with fail
            rw [← hV5]
            clear hV5
            refine wp_region_past V5 (by kernel_rfl) (by kernel_rfl) (Below.refl _ _) ?_
            repeat (first | go_big_quiet_step ((go_at_call 28; exact u1 _)) | quiet_step ((go_at_call 28; exact u1 _)))
            refine wpQuiet_nil ?_
            intro wz hw'
            obtain ⟨⟨wy, hbz⟩, hw''⟩ := hw'
            dsimp only at hw''
            subst hw''
            have HZ := Lib.hid (belows HK.out.2.2.1 hbz)
            clear hX5 hX2 hP hbz u1 c0 c1 c2 c3 c4 c5 c6 c7 c8 c9 d0 d1
            go_wp2_with fail
            go_roundw
            case rel => exact ⟨k + 1, by go_num, by omega, HZ.out, good_next HK.out.2.1 HK.out.1 (by have := HC.out; omega) (fun x _ h0 => by rw [HL0.out.1] at h0; injection h0 with h0; rw [← h0]; have := HC2.out; omega) (HK.out.2.2.2.1.1 rfl)⟩
            case measure => simp [intOf]; omega
    · have hk2 : k = s.L.length := by omega
      subst hk2
      rw [List.take_length] at hg
      have HH := Lib.hid (And.intro hb hg)
      clear hb hg
      go_wp2_with fail
      go_ret
      exact ⟨0, rfl, .inl ⟨HH.out.2, rfl⟩, H.out.2.2.1.trans (HH.out.1.mono H.out.2.2.1.size)⟩
end Go.Proofs.YtenjlhlighkenaaGreat
namespace Go.Proofs.YtenjlhlighkenaaGreat
open Go Go.RowKit

theorem lies_dropQ {w : World} {B g o : Nat} {l : List Up} {q : Nat} (h : Lies 6 Up.cells w B (some ⟨g, o, none⟩) l) : Lies 6 Up.cells w B (some ⟨g, o + q * 6, none⟩) (l.drop q) := fun hp => by
  obtain ⟨b', o', e, hb, hc⟩ := h (by rw [List.length_drop] at hp; omega)
  simp only [Option.some.injEq, Addr.mk.injEq, and_true] at e
  obtain ⟨rfl, rfl⟩ := e
  refine ⟨g, o + q * 6, rfl, hb, fun i x hi j u hj => ?_⟩
  rw [List.getElem?_drop] at hi
  have := hc (q + i) x hi j u hj
  rw [show o + q * 6 + i * 6 + j = o + (q + i) * 6 + j by omega]
  exact this
def dropA (A : Option Addr) (c q : Nat) : Option Addr := if c = q then A else A.map fun a => ⟨a.block, a.off + q * 6, a.spot⟩
theorem ups_dropQ {w : World} {B c q : Nat} {A : Option Addr} {l : List Up} (h : Ups w B A l) (hc : l.length ≤ c) : Ups w B (dropA A c q) (l.drop q) := by
  refine ⟨fun hp => ?_, fun u hu => h.each_ u (List.mem_of_mem_drop hu)⟩
  rw [List.length_drop] at hp
  obtain ⟨b', o', rfl, _⟩ := h.head (by omega)
  unfold dropA
  rw [if_neg (by omega)]
  exact lies_dropQ h.head (by rw [List.length_drop]; omega)
def partsR (l : Lv) : List (Rw Up) := if l.busy = true then [⟨dropA l.m.aA l.m.ac l.m.i.toNat, l.m.ac - l.m.i.toNat, l.m.a.drop l.m.i.toNat⟩, ⟨dropA l.m.bA l.m.bc l.m.j.toNat, l.m.bc - l.m.j.toNat, l.m.b.drop l.m.j.toNat⟩, ⟨l.m.oA, l.m.oc, l.m.o⟩] else [⟨l.b.uA, l.b.uc, l.b.l⟩]
theorem partsR_flat (l : Lv) : flatR (partsR l) = partsL l := by
  unfold partsR partsL
  split
  · simp [flatR, partsM]
  · simp [flatR]
theorem partsR_len (l : Lv) : (partsR l).length ≤ 3 := by
  unfold partsR
  split <;> simp
def PartsSay (l : Lv) (w : World) (x : Ending) (w' : World) : Prop := ∃ G, x = .returned (.slice (some ⟨G, 0, none⟩) (partsR l).length (partsR l).length) ∧ ULs w' w'.heap.size (some ⟨G, 0, none⟩) (partsR l) ∧ w.heap.size ≤ G ∧ Below w.heap.size w w'
theorem three_lists (w : World) (A1 A2 A3 : Option Addr) (c1 c2 c3 : Nat) (l1 l2 l3 : List Up) (h1 : Ups w w.heap.size A1 l1) (h2 : Ups w w.heap.size A2 l2) (h3 : Ups w w.heap.size A3 l3) :
    ∃ V, V = w.alloc (.cells #[.slice A1 l1.length c1, .slice A2 l2.length c2, .slice A3 l3.length c3] 32) ∧ Below w.heap.size w V ∧ ULs V V.heap.size (some ⟨w.heap.size, 0, none⟩) [⟨A1, c1, l1⟩, ⟨A2, c2, l2⟩, ⟨A3, c3, l3⟩] := by
  obtain ⟨W, e1, s1, b1, o1⟩ := boxd w [.slice A1 l1.length c1, .slice A2 l2.length c2, .slice A3 l3.length c3] 32
  refine ⟨W, e1, b1, rw_own (t := 32) o1, fun s hs => ?_⟩
  simp only [List.mem_cons, List.not_mem_nil, or_false] at hs
  rcases hs with rfl | rfl | rfl
  · exact h1.keep b1
  · exact h2.keep b1
  · exact h3.keep b1
set_option maxRecDepth 100000 in
set_option maxHeartbeats 6400000 in
theorem partsI_any (cl : Int) (b : Bt) (m : Mg) (w : World) (hl : LvIn w w.heap.size ⟨cl, false, b, m⟩) :
    Calls Tryz.prog 27 #[(⟨cl, false, b, m⟩ : Lv).val] w (PartsSay ⟨cl, false, b, m⟩ w) := by
  obtain ⟨V, hV, hvb, hvs, hvo⟩ := lvbox w ⟨cl, false, b, m⟩
  obtain ⟨a0, a1, a2, a3, a4, a5, a6, a7, a8, a9⟩ := own10 hvo
  obtain ⟨V2, hV2, hb2, hs2, ho2⟩ := mgbox V m
  obtain ⟨b0, b1, b2, b3, b4, b5, b6, b7, b8, b9⟩ := own10 (hvo.past hb2 hvo.inside)
  have hin := (hl.keep hvb).keep hb2
  have HB := Lib.hid (And.intro (belows hvb hb2) hin.b.ups)
  rw [show (⟨cl, false, b, m⟩ : Lv).val = .agg #[.int .i64 cl, .bool false, .slice b.sA b.f.length b.sc, .slice b.uA b.l.length b.uc, .slice m.aA m.a.length m.ac, .slice m.bA m.b.length m.bc, .int .i64 m.i, .int .i64 m.j, .slice m.sA m.f.length m.sc, .slice m.oA m.o.length m.oc] from rfl]
  dsimp only at hV a0 a1 a2 a3 a4 a5 a6 a7 a8 a9 b0 b1 b2 b3 b4 b5 b6 b7 b8 b9
  have HP := Lib.hid (show ∀ (G : Nat) w', ULs w' w'.heap.size (some ⟨G, 0, none⟩) [⟨b.uA, b.uc, b.l⟩] → w.heap.size ≤ G → Below w.heap.size w w' → PartsSay ⟨cl, false, b, m⟩ w (.returned (.slice (some ⟨G, 0, none⟩) 1 1)) w' from fun G w' h1 h0 h2 => ⟨G, rfl, h1, h0, h2⟩)
  clear hl hvb hvs hvo hb2 hs2 ho2 hin
  go_enter Tryz.func27, Tryz.ntmps27
  go_upto_region 1 with fail
  rw [← hV]
  clear hV
  go_upto_region 2 with fail
  rw [← hV2]
  clear hV2
  go_wp2_with fail
  go_ret
  obtain ⟨W, hW, hbW, hoW⟩ := one_list V2 b.uA b.uc b.l HB.out.2
  rw [← hW]
  exact HP.out _ _ hoW HB.out.1.size (belows HB.out.1 hbW)
set_option maxRecDepth 100000 in
set_option maxHeartbeats 6400000 in
theorem partsB_any (cl : Int) (b : Bt) (m : Mg) (i j : Nat) (w : World) (hl : LvIn w w.heap.size ⟨cl, true, b, m⟩) (cm : McOk m) (hi : m.i = (i : Int)) (hj : m.j = (j : Int)) (hia : i ≤ m.a.length) (hjb : j ≤ m.b.length) (na : 0 < m.a.length) (nb : 0 < m.b.length) :
    Calls Tryz.prog 27 #[(⟨cl, true, b, m⟩ : Lv).val] w (PartsSay ⟨cl, true, b, m⟩ w) := by
  obtain ⟨V, hV, hvb, hvs, hvo⟩ := lvbox w ⟨cl, true, b, m⟩
  obtain ⟨a0, a1, a2, a3, a4, a5, a6, a7, a8, a9⟩ := own10 hvo
  obtain ⟨V2, hV2, hb2, hs2, ho2⟩ := mgbox V m
  obtain ⟨b0, b1, b2, b3, b4, b5, b6, b7, b8, b9⟩ := own10 (hvo.past hb2 hvo.inside)
  have hin := ((hl.keep hvb).keep hb2).m
  have HB := Lib.hid (And.intro (belows hvb hb2) (And.intro hin (And.intro hi (And.intro hj cm))))
  obtain ⟨ga, oa, hA, _⟩ := hin.a.head na
  obtain ⟨gb, ob, hBB, _⟩ := hin.b.head nb
  have hX := fun q : Past V2 => own6 (ho2.past q.h ho2.inside)
  rw [hA, hBB, hi, hj] at hX
  rw [show (⟨cl, true, b, m⟩ : Lv).val = .agg #[.int .i64 cl, .bool true, .slice b.sA b.f.length b.sc, .slice b.uA b.l.length b.uc, .slice m.aA m.a.length m.ac, .slice m.bA m.b.length m.bc, .int .i64 m.i, .int .i64 m.j, .slice m.sA m.f.length m.sc, .slice m.oA m.o.length m.oc] from rfl]
  dsimp only at hV a0 a1 a2 a3 a4 a5 a6 a7 a8 a9 b0 b1 b2 b3 b4 b5 b6 b7 b8 b9
  have HA := Lib.hid (And.intro hA hBB)
  have k1 := cm.a
  have k2 := cm.b
  have q1 : (0 : Int) ≤ (i : Int) := by omega
  have q2 : (i : Int) ≤ (m.a.length : Int) := by omega
  have q3 : (0 : Int) ≤ (j : Int) := by omega
  have q4 : (j : Int) ≤ (m.b.length : Int) := by omega
  obtain ⟨B1, hB1⟩ : ∃ B1 : Option Addr, (if m.ac = i then (some ⟨ga, oa, none⟩ : Option Addr) else some ⟨ga, oa + i * 6, none⟩) = B1 := ⟨_, rfl⟩
  obtain ⟨B2, hB2⟩ : ∃ B2 : Option Addr, (if m.bc = j then (some ⟨gb, ob, none⟩ : Option Addr) else some ⟨gb, ob + j * 6, none⟩) = B2 := ⟨_, rfl⟩
  have HBB := Lib.hid (show B1 = dropA m.aA m.ac i ∧ B2 = dropA m.bA m.bc j from by
    rw [← hB1, ← hB2, hA, hBB]
    exact ⟨rfl, rfl⟩)
  have HU := Lib.hid (show ∀ W, Below V2.heap.size V2 W → Ups W W.heap.size B1 (m.a.drop i) ∧ Ups W W.heap.size B2 (m.b.drop j) ∧ Ups W W.heap.size m.oA m.o from fun W hb => by
    rw [HBB.out.1, HBB.out.2]
    exact ⟨ups_dropQ (hin.a.keep hb) cm.a, ups_dropQ (hin.b.keep hb) cm.b, hin.o.keep hb⟩)
  have HPR := Lib.hid (show partsR ⟨cl, true, b, m⟩ = [⟨B1, m.ac - i, m.a.drop i⟩, ⟨B2, m.bc - j, m.b.drop j⟩, ⟨m.oA, m.oc, m.o⟩] from by
    rw [HBB.out.1, HBB.out.2]
    have e1 : m.i.toNat = i := by omega
    have e2 : m.j.toNat = j := by omega
    show (if true = true then _ else _) = _
    rw [if_pos rfl, e1, e2])
  clear hl hvb hvs hvo hb2 hs2 ho2 hin hi hj hA hBB cm
  go_enter Tryz.func27, Tryz.ntmps27
  go_upto_region 1 with fail
  rw [← hV]
  clear hV
  go_upto_region 2 with fail
  rw [← hV2]
  clear hV2
  go_upto_region 3 with fail
  refine wp_region_past_tail V2 12 (by kernel_rfl) (by kernel_rfl) (Below.refl _ _) ?_
  repeat (first | go_big_quiet_step (fail) | quiet_step (fail))
  refine wpQuiet_nil ?_
  intro wt hw'
  obtain ⟨⟨wu, hbt⟩, hw''⟩ := hw'
  dsimp only at hw''
  subst hw''
  have HT := Lib.hid hbt
  clear hX hbt
  go_wp2_with fail
  go_ret
  obtain ⟨W, hW, hbW, hoW⟩ := three_lists wt B1 B2 m.oA (m.ac - i) (m.bc - j) m.oc (m.a.drop i) (m.b.drop j) m.o (HU.out wt HT.out).1 (HU.out wt HT.out).2.1 (HU.out wt HT.out).2.2
  rw [List.length_drop, List.length_drop] at hW
  rw [← hW]
  have bb := belows HB.out.1 (belows HT.out hbW)
  exact ⟨wt.heap.size, by rw [HPR.out]; rfl, by rw [HPR.out]; exact hoW, (belows HB.out.1 HT.out).size, bb⟩
theorem parts_anyS (l : Lv) (f : List Tm) (w : World) (hl : LvIn w w.heap.size l) (ol : LvOk l) (hg : LvGood f l) (hp : 1 ≤ l.cls) : Calls Tryz.prog 27 #[l.val] w (PartsSay l w) := by
  obtain ⟨cl, bu, b, m⟩ := l
  cases bu
  · exact partsI_any cl b m w hl
  · obtain ⟨_, _, h3, h4, h5, _, _⟩ := hg.busy rfl
    have hp : 1 ≤ cl := hp
    have h4 : (clsN m.a.length : Int) = cl := h4
    have h5 : (clsN m.b.length : Int) = cl := h5
    have z1 := (cls_zero (n := m.a.length)).2
    have z2 := (cls_zero (n := m.b.length)).2
    have d1 : 0 ≤ m.i := h3.da.lo
    have d2 : m.i ≤ (m.a.length : Int) := h3.da.hi
    have d3 : 0 ≤ m.j := h3.db.lo
    have d4 : m.j ≤ (m.b.length : Int) := h3.db.hi
    exact partsB_any cl b m m.i.toNat m.j.toNat w hl ol.cap (by omega) (by omega) (by omega) (by omega) (by
      rcases Nat.eq_zero_or_pos m.a.length with h | h
      · have := z1 h; omega
      · exact h) (by
      rcases Nat.eq_zero_or_pos m.b.length with h | h
      · have := z2 h; omega
      · exact h)
end Go.Proofs.YtenjlhlighkenaaGreat
namespace Go.Proofs.YtenjlhlighkenaaGreat
open Go Go.RowKit

def listsS (L : List Lv) : List (Rw Up) := L.flatMap partsR
theorem listsS_flat (L : List Lv) : flatR (listsS L) = partsS L := by
  unfold listsS partsS flatR
  rw [List.flatMap_assoc]
  congr 1
  funext l
  exact partsR_flat l
theorem listsS_take {L : List Lv} {k : Nat} {l : Lv} (h : L[k]? = some l) : listsS (L.take (k + 1)) = listsS (L.take k) ++ partsR l := by
  unfold listsS
  rw [List.take_add_one, h, List.flatMap_append]
  simp
theorem listsS_len (L : List Lv) : (listsS L).length ≤ 3 * L.length := by
  induction L with
  | nil => exact Nat.zero_le _
  | cons l L ih =>
    have h := partsR_len l
    show ((l :: L).flatMap partsR).length ≤ _
    rw [List.flatMap_cons, List.length_append, List.length_cons]
    have ih : (L.flatMap partsR).length ≤ 3 * L.length := ih
    omega
theorem partsR_in {w : World} {B : Nat} {l : Lv} (h : LvIn w B l) (ol : LvOk l) : ∀ r ∈ partsR l, Ups w B r.A r.l := by
  intro r hr
  unfold partsR at hr
  split at hr
  · simp only [List.mem_cons, List.not_mem_nil, or_false] at hr
    rcases hr with rfl | rfl | rfl
    · exact ups_dropQ h.m.a ol.cap.a
    · exact ups_dropQ h.m.b ol.cap.b
    · exact h.m.o
  · simp only [List.mem_cons, List.not_mem_nil, or_false] at hr
    subst hr
    exact h.b.ups
theorem partsR_uok {l : Lv} (ol : LvOk l) : ∀ r ∈ partsR l, ∀ u ∈ r.l, UOk u := by
  intro r hr u hu
  unfold partsR at hr
  split at hr
  · simp only [List.mem_cons, List.not_mem_nil, or_false] at hr
    rcases hr with rfl | rfl | rfl
    · exact ol.m.a.ok u (List.mem_of_mem_drop hu)
    · exact ol.m.b.ok u (List.mem_of_mem_drop hu)
    · exact ol.m.o.ok u hu
  · simp only [List.mem_cons, List.not_mem_nil, or_false] at hr
    subst hr
    exact ol.b.l.ok u hu
theorem infoUl : (Tryz.prog.info? 32).map (fun i => (i.zero, i.size, i.bytes)) = some (some (.slice none 0 0), 1, 24) := by kernel_rfl
theorem rwcell_len {α : Type} (s : Rw α) : (Rw.cells s).length = 1 := rfl
def CollS (f : List Tm) (l : List Up) (w : World) (x : Ending) (w' : World) : Prop :=
  ∃ b : Bt, x = .returned (.tuple #[.slice b.uA b.l.length b.uc, .int .i64 (bldE f l)]) ∧ (bldE f l = 0 → FrontOk f ∧ b.f = f ∧ b.l.map Up.p = consL [advL f l]) ∧ (bldE f l ≠ 0 → b = Bt.nil) ∧ BtIn w' w'.heap.size b ∧ BtOk b ∧ BtLo w.heap.size b ∧ Below w.heap.size w w'
set_option maxRecDepth 100000 in
set_option maxHeartbeats 1600000 in
theorem all1_any (v : Value) (w : World) : Calls Tryz.prog 32 #[v] w fun e w' => e = .returned v ∧ Below w.heap.size w w' := by
  go_enter Tryz.func32, Tryz.ntmps32
  go_wp2_with fail
  go_ret
  exact ⟨rfl, Below.refl _ _⟩
structure ClI (base : Nat) (Ls : List (Rw Up)) (v : Value) (wr : World) : Prop where
  own : wr.ownsRow base 32 1 v Ls.length (Ls.flatMap Rw.cells)
structure PtI (v : Value) (G : Nat) (R : List (Rw Up)) (wr : World) : Prop where
  in_ : G < wr.heap.size
  ne : v.ownBlock ≠ some G
  cells : ∀ j r, R[j]? = some r → wr.cell? ⟨G, j, none⟩ = some (.slice r.A r.l.length r.c)
theorem PtI.push {v v' : Value} {G : Nat} {R : List (Rw Up)} {w w' : World} (h : PtI v G R w) (hg : w.grownBy w' v.ownBlock) (hv : v'.ownBlock = v.ownBlock ∨ v'.ownBlock = some (w.heap.size + 1)) : PtI v' G R w' := by
  have hin := h.in_
  refine ⟨Nat.lt_of_lt_of_le h.in_ hg.size, ?_, fun j r hr => ?_⟩
  · rcases hv with e | e
    · rw [e]; exact h.ne
    · rw [e]; intro hh; injection hh with hh; omega
  · rw [← h.cells j r hr]
    unfold World.cell?
    rw [hg.block G h.in_ (fun e => h.ne e.symm)]
theorem partsR_pos (l : Lv) : 0 < (partsR l).length := by
  unfold partsR
  split <;> simp
theorem cl_keep {base : Nat} {Ls : List (Rw Up)} {v : Value} {w w' : World} (h : ClI base Ls v w) (hb : Below w.heap.size w w') : ClI base Ls v w' := ⟨own_below h.own hb⟩
theorem pt_start {base : Nat} {Ls : List (Rw Up)} {v : Value} {w V w' : World} {G : Nat} {R : List (Rw Up)} (h : ClI base Ls v w) (_ : Below w.heap.size w w') (hG : V.heap.size ≤ G) (hV : w.heap.size ≤ V.heap.size) (hu : ULs w' w'.heap.size (some ⟨G, 0, none⟩) R) (hp : 0 < R.length) : PtI v G R w' := by
  obtain ⟨g, o, e, hgi, hgc⟩ := hu.head hp
  simp only [Option.some.injEq, Addr.mk.injEq, and_true] at e
  obtain ⟨rfl, rfl⟩ := e
  refine ⟨hgi, fun e => ?_, fun j r hr => ?_⟩
  · have := (h.own.lt _ e).2
    omega
  · have := hgc j r hr 0 _ rfl
    simpa using this
theorem PtI.keep {v : Value} {G : Nat} {R : List (Rw Up)} {w w' : World} (h : PtI v G R w) (hb : Below w.heap.size w w') : PtI v G R w' :=
  ⟨Nat.lt_of_lt_of_le h.in_ hb.size, h.ne, fun j r hr => (hb.cell (p := ⟨G, j, none⟩) h.in_).trans (h.cells j r hr)⟩
theorem cl_push {base : Nat} {Ls : List (Rw Up)} {r : Rw Up} {v : Value} {w : World} (h : w.ownsRow base 32 1 v (Ls.length + 1) (Ls.flatMap Rw.cells ++ #[Value.slice r.A r.l.length r.c].toList)) : ClI base (Ls ++ [r]) v w := by
  refine ⟨?_⟩
  rw [List.length_append, List.flatMap_append]
  exact h
set_option maxRecDepth 100000 in
set_option maxHeartbeats 6400000 in
theorem collect_all (s : Sp) (w : World) (hs : SpIn w w.heap.size s) (os : SpOk s) (hg : SpGood s.f s.L) (hn : (partsS s.L).length ≤ 1099511627776) :
    Calls Tryz.prog 31 #[s.val, .func (.func 32) #[] #[]] w (CollS s.f (partsS s.L) w) := by
  obtain ⟨i0, hi, hz0, hz1, hz2⟩ := info_parts infoUl
  have HI := Lib.hid (And.intro Tryz.underlying68 (And.intro hi (And.intro hz0 (And.intro hz1 hz2))))
  obtain ⟨V, hV, hvb, hvs, hvo⟩ := spbox w s
  have hin := hs.keep hvb
  have H := Lib.hid (And.intro hin (And.intro os (And.intro hvb (And.intro hvo (And.intro hg hn)))))
  have hnL := os.n
  rw [show s.val = .agg #[.slice s.sA s.f.length s.sc, .slice s.lA s.L.length s.lc] from rfl]
  have hX := Lib.hid (fun W (hb : Below V.heap.size V W) => own2 (hvo.past hb hvo.inside))
  obtain ⟨d0, d1⟩ := own2 hvo
  have h0 := World.ownsRow_nil V V.heap.size 32 1
  clear hs os hvb hvs hvo hin hi hz0 hz1 hz2 hg hn
  go_enter Tryz.func31, Tryz.ntmps31
  go_upto_region 1 with fail
  rw [← hV]
  clear hV
  go_wp2_with fail
  go_loopw [6, 16] (fun v i wr => ∃ k : Nat, i = .int .i64 (k : Int) ∧ k ≤ s.L.length ∧ ClI V.heap.size (listsS (s.L.take k)) v wr ∧ Below V.heap.size V wr)
    (fun _ i _ => s.L.length - (intOf i).toNat)
  case atStart => exact ⟨0, rfl, by omega, ⟨h0⟩, Below.refl _ _⟩
  case round =>
    obtain ⟨k, rfl, hk, hown, hb⟩ := hrel
    by_cases hlt : k < s.L.length
    · obtain ⟨l, hl⟩ : ∃ l, s.L[k]? = some l := ⟨_, List.getElem?_eq_getElem hlt⟩
      obtain ⟨b, o, hA, hB, hc⟩ := lies_lv H.out.1.lev.head (by omega)
      obtain ⟨c0, c1, c2, c3, c4, c5, c6, c7, c8, c9⟩ := lv_ten fun j u hj => (hb.cell (p := ⟨b, o + k * 10 + j, none⟩) hB).trans (hc k l hl j u hj)
      have hlm := List.mem_of_getElem? hl
      have hli := ((H.out.1.lev.each_ l hlm).past hb (Nat.le_refl _)).wide hb.size
      have hlo := H.out.2.1.each_ l hlm
      obtain ⟨V5, hV5, hb5, hs5, ho5⟩ := lvbox wr l
      obtain ⟨e0, e1, e2, e3, e4, e5, e6, e7, e8, e9⟩ := own10 ho5
      have u1 := Lib.hid (parts_anyS l s.f V5 (hli.keep hb5) hlo (H.out.2.2.2.2.1.each l hlm) (H.out.2.2.2.2.1.pos l hlm))
      rw [show l.val = .agg #[.int .i64 l.cls, .bool l.busy, .slice l.b.sA l.b.f.length l.b.sc, .slice l.b.uA l.b.l.length l.b.uc, .slice l.m.aA l.m.a.length l.m.ac, .slice l.m.bA l.m.b.length l.m.bc, .int .i64 l.m.i, .int .i64 l.m.j, .slice l.m.sA l.m.f.length l.m.sc, .slice l.m.oA l.m.o.length l.m.oc] from rfl] at u1
      have hpl := partsR_len l
      have hll := listsS_len (s.L.take k)
      rw [List.length_take, Nat.min_eq_left (by omega)] at hll
      have htk := listsS_take hl
      have HA := Lib.hid hA
      have HK := Lib.hid (And.intro hown (And.intro hb (And.intro hb5 htk)))
      have q0 : (0 : Int) ≤ (k : Int) := by omega
      have q1 : (k : Int) < (s.L.length : Int) := by omega
      obtain ⟨d0, d1⟩ := hX.out wr hb
      clear hlm hli hlo hl hown hb hb5 htk hc
      go_upto_region 5 with fail
      rw [← hV5]
      clear hV5
      go_wp2_with fail
      refine u1.out.mono ?_
      rintro _ w1 ⟨G, rfl, hul, hG, hb1⟩
      have hpt := pt_start HK.out.1 (belows HK.out.2.2.1 hb1) hG HK.out.2.2.1.size hul (partsR_pos l)
      have hb1' := belows HK.out.2.1 (belows HK.out.2.2.1 hb1)
      have hown1 := cl_keep HK.out.1 (belows HK.out.2.2.1 hb1)
      have H1 := Lib.hid (And.intro hpt (And.intro hb1' hown1))
      have hpp := partsR_pos l
      clear hpt hb1' hown1 hul hG hb1
      clear u1 e0 e1 e2 e3 e4 e5 e6 e7 e8 e9 c0 c1 c2 c3 c4 c5 c6 c7 c8 c9 d0 d1
      go_wp2_with fail
      go_loopw [6, 23] (fun v i wi => ∃ j : Nat, i = .int .i64 (j : Int) ∧ j ≤ (partsR l).length ∧ ClI V.heap.size (listsS (s.L.take k) ++ (partsR l).take j) v wi ∧ PtI v G (partsR l) wi ∧ Below V.heap.size V wi)
        (fun _ i _ => (partsR l).length - (intOf i).toNat)
      case atStart => exact ⟨0, rfl, by omega, by simpa using H1.out.2.2, H1.out.1, H1.out.2.1⟩
      case round =>
        obtain ⟨j, rfl, hj, hown2, hp2, hb2⟩ := hrel
        by_cases hlt2 : j < (partsR l).length
        · obtain ⟨r, hr⟩ : ∃ r, (partsR l)[j]? = some r := ⟨_, List.getElem?_eq_getElem hlt2⟩
          have z0 := hp2.cells j r hr
          have z1 := z0
          rw [show j = 0 + j by omega] at z1
          have q2 : (0 : Int) ≤ (j : Int) := by omega
          have q3 : (j : Int) < ((partsR l).length : Int) := by omega
          have htj : (partsR l).take (j + 1) = (partsR l).take j ++ [r] := by rw [List.take_add_one, hr]; rfl
          have hlj : (listsS (s.L.take k) ++ (partsR l).take j).length ≤ 3 * k + 3 := by rw [List.length_append, List.length_take]; omega
          generalize hLs : listsS (s.L.take k) ++ (partsR l).take j = Ls at hown2 hlj
          have H2 := Lib.hid (And.intro hown2 (And.intro hp2 (And.intro hb2 (And.intro hLs htj))))
          clear hown2 hp2 hb2 hr hLs htj
          go_wp2_with fail
          refine (all1_any _ _).mono ?_
          rintro _ w2 ⟨rfl, b2⟩
          have hown3 := cl_keep H2.out.1 b2
          have hp3 := H2.out.2.1.keep b2
          have hb3 := belows H2.out.2.2.1 b2
          have H3 := Lib.hid (And.intro hown3 (And.intro hp3 hb3))
          clear b2 hown3 hp3 hb3 z0 z1
          go_wp2_with (at_builtin; refine wpList_push _ rfl _ _ 68 rfl V.heap.size 32 i0 _ 1 24 HI.out.1 HI.out.2.1 HI.out.2.2.1 HI.out.2.2.2.1 HI.out.2.2.2.2 rfl (by decide) _ _ _ rfl H3.out.1.own #[.slice r.A r.l.length r.c] rfl rfl ?k1 ?k2 ?k3 ?k4 ?_)
          case k1 => rfl
          case k2 => unfold maxLen; omega
          case k3 => omega
          case k4 => exact H3.out.2.2.size
          intro v4 w4 ho4 hb4 hv4 hg4
          have hp4 := H3.out.2.1.push hg4 hv4
          have hb5 := H3.out.2.2.trans hb4
          have ho5 : ClI V.heap.size (Ls ++ [r]) v4 w4 := cl_push ho4
          rw [← H2.out.2.2.2.1, List.append_assoc, ← H2.out.2.2.2.2] at ho5
          have H4 := Lib.hid (And.intro ho5 (And.intro hp4 hb5))
          clear ho4 hb4 hv4 hg4 hp4 hb5 ho5
          go_wp2_with fail
          go_roundw
          case rel => exact ⟨j + 1, by go_num, by omega, H4.out.1, H4.out.2.1, H4.out.2.2⟩
          case measure => simp [intOf]; omega
        · have hj2 : j = (partsR l).length := by omega
          subst hj2
          rw [List.take_length, ← HK.out.2.2.2] at hown2
          have H2 := Lib.hid (And.intro hown2 hb2)
          clear hown2 hb2 hp2
          go_wp2_with fail
          clear hA
          rw [← HA.out]
          go_roundw
          case rel =>
            exact ⟨k + 1, by go_num, by omega, H2.out.1, H2.out.2⟩
          case measure => simp [intOf]; omega
    · have hk2 : k = s.L.length := by omega
      subst hk2
      rw [List.take_length] at hown
      have hll := listsS_len s.L
      obtain ⟨A7, k7, hv7, _, _, hl7⟩ := lies_of_own (l := listsS s.L) (by decide) rwcell_len rfl hown.own
      subst hv7
      obtain ⟨d0, d1⟩ := hX.out wr hb
      have hul : ULs wr wr.heap.size A7 (listsS s.L) := ⟨hl7, fun r hr => by
        obtain ⟨l, hl, hrl⟩ := List.mem_flatMap.1 hr
        exact ((partsR_in (H.out.1.lev.each_ l hl) (H.out.2.1.each_ l hl) r hrl).past hb (Nat.le_refl _)).wide hb.size⟩
      have u1 := Lib.hid (build_any s.sA s.sc s.f A7 k7 (listsS s.L) wr ((H.out.1.since.past hb (Nat.le_refl _)).wide hb.size) H.out.2.1.f hul (fun r hr => by
        obtain ⟨l, hl, hrl⟩ := List.mem_flatMap.1 hr
        exact partsR_uok (H.out.2.1.each_ l hl) r hrl) (by rw [listsS_flat]; exact H.out.2.2.2.2.2) (by omega))
      rw [listsS_flat] at u1
      have HH := Lib.hid hb
      clear hb hown hl7 hul
      go_wp2_with fail
      refine u1.out.mono ?_
      rintro _ w1 ⟨bt, rfl, h1, h2, h3, h4, h5, h6⟩
      have hbx := HH.out
      have H1 := Lib.hid (And.intro h1 (And.intro h2 (And.intro h3 (And.intro h4 (And.intro h5 h6)))))
      clear h1 h2 h3 h4 h5 h6 u1
      rw [show bt.val = .agg #[.slice bt.sA bt.f.length bt.sc, .slice bt.uA bt.l.length bt.uc] from rfl]
      go_wp2_with fail
      exact bodyPost_ret (v := .tuple #[.slice bt.uA bt.l.length bt.uc, .int .i64 (bldE s.f (partsS s.L))]) (by simp [results, Tryz.results31, go_sem]) rfl ⟨bt, rfl, H1.out.1, H1.out.2.1, H1.out.2.2.1.keep ((Below.refl _ _).alloc (Nat.le_refl _) _), H1.out.2.2.2.1, H1.out.2.2.2.2.1.mono (belows H.out.2.2.1 hbx).size, belows (belows H.out.2.2.1 (belows hbx H1.out.2.2.2.2.2)) ((Below.refl _ _).alloc (Nat.le_refl _) _)⟩
end Go.Proofs.YtenjlhlighkenaaGreat
namespace Go.Proofs.YtenjlhlighkenaaGreat
open Go Go.RowKit

theorem cnt_busy (L : List Lv) : cntS L = L.length + busyN L := by
  induction L with
  | nil => rfl
  | cons l L ih =>
    rw [cntS_cons, busyN_cons, ih, List.length_cons]
    unfold cntL
    cases l.busy
    · simp; omega
    · simp; omega
theorem busy_take {L : List Lv} {k : Nat} {l : Lv} (h : L[k]? = some l) : busyN (L.take (k + 1)) = busyN (L.take k) + if l.busy = true then 1 else 0 := by
  rw [List.take_add_one, h, busyN_app]
  show _ + busyN [l] = _
  rw [busyN_cons]
  rfl
theorem parts_take {L : List Lv} {k : Nat} {l : Lv} (h : L[k]? = some l) : (partsS (L.take (k + 1))).length = (partsS (L.take k)).length + (flatR (partsR l)).length := by
  rw [List.take_add_one, h, partsS_app, List.length_append, partsR_flat]
  show _ + (partsS [l]).length = _
  rw [partsS_cons, List.length_append]
  rfl
theorem parts_take_le (L : List Lv) (k : Nat) : (partsS (L.take k)).length ≤ (partsS L).length := by
  have e : partsS L = partsS (L.take k) ++ partsS (L.drop k) := by rw [← partsS_app, List.take_append_drop]
  rw [e, List.length_append]
  omega
def SizeS (s : Sp) (w : World) (x : Ending) (w' : World) : Prop :=
  ∃ n k e : Int, x = .returned (.tuple #[.int .i64 n, .int .i64 k, .int .i64 e]) ∧ ((¬ SpGood s.f s.L ∧ n = 0 ∧ k = 0 ∧ e = 8) ∨ (SpGood s.f s.L ∧ n = (cntS s.L : Int) ∧ k = ((partsS s.L).length : Int) ∧ e = 0)) ∧ Below w.heap.size w w'
set_option maxRecDepth 100000 in
set_option maxHeartbeats 6400000 in
theorem size_any (s : Sp) (w : World) (hs : SpIn w w.heap.size s) (os : SpOk s) (hn : (partsS s.L).length ≤ 1099511627776) :
    Calls Tryz.prog 10 #[s.val] w (SizeS s w) := by
  obtain ⟨V, hV, hvb, hvs, hvo⟩ := spbox w s
  have hin := hs.keep hvb
  have y1 := Lib.hid (scheck_any s V hin os)
  have H := Lib.hid (And.intro hin (And.intro os (And.intro hvb hvo)))
  have hnL := os.n
  obtain ⟨d0, d1⟩ := own2 hvo
  rw [show s.val = .agg #[.slice s.sA s.f.length s.sc, .slice s.lA s.L.length s.lc] from rfl] at y1 ⊢
  have hX := Lib.hid (fun W (hb : Below V.heap.size V W) => own2 (hvo.past hb hvo.inside))
  have HP := Lib.hid (show ∀ (n k e : Int) w', ((¬ SpGood s.f s.L ∧ n = 0 ∧ k = 0 ∧ e = 8) ∨ (SpGood s.f s.L ∧ n = (cntS s.L : Int) ∧ k = ((partsS s.L).length : Int) ∧ e = 0)) → Below w.heap.size w w' → SizeS s w (.returned (.tuple #[.int .i64 n, .int .i64 k, .int .i64 e])) w' from fun n k e w' h1 h2 => ⟨n, k, e, rfl, h1, h2⟩)
  clear hs os hvb hvs hvo hin
  go_enter Tryz.func10, Tryz.ntmps10
  go_upto_region 1 with fail
  rw [← hV]
  clear hV
  go_wp2_with fail
  refine y1.out.mono ?_
  rintro _ w1 ⟨e, rfl, he, b1⟩
  have H1 := Lib.hid b1
  obtain ⟨d0, d1⟩ := hX.out w1 b1
  by_cases h0 : e = 0
  case neg =>
    have hg : ¬ SpGood s.f s.L ∧ e = 8 := by
      rcases he with ⟨_, h⟩ | h
      · exact absurd h h0
      · exact h
    have t1 : (e != 0) = true := bne_iff_ne.2 h0
    have HG := Lib.hid hg
    clear he b1 hg h0
    go_wp2_with fail
    exact bodyPost_ret (v := .tuple #[.int .i64 0, .int .i64 0, .int .i64 e]) (by simp [results, Tryz.results10, go_sem]) rfl (HP.out 0 0 e _ (.inl ⟨HG.out.1, rfl, rfl, HG.out.2⟩) (belows H.out.2.2.1 H1.out))
  have hg : SpGood s.f s.L := by
    rcases he with ⟨h, _⟩ | ⟨_, h⟩
    · exact h
    · omega
  have HG := Lib.hid hg
  have t1 : (e != 0) = false := by simp [h0]
  clear he b1 hg h0 y1
  go_wp2_with fail
  go_loopw [6, 7, 23] (fun n u i wr => ∃ k : Nat, i = .int .i64 (k : Int) ∧ k ≤ s.L.length ∧ n = .int .i64 ((s.L.length + busyN (s.L.take k) : Nat) : Int) ∧ u = .int .i64 ((partsS (s.L.take k)).length : Int) ∧ Below V.heap.size V wr)
    (fun _ _ i _ => s.L.length - (intOf i).toNat)
  case atStart => exact ⟨0, rfl, by omega, rfl, rfl, H1.out⟩
  case round =>
    obtain ⟨k, rfl, hk, rfl, rfl, hb⟩ := hrel
    obtain ⟨d0, d1⟩ := hX.out wr hb
    by_cases hlt : k < s.L.length
    · obtain ⟨l, hl⟩ : ∃ l, s.L[k]? = some l := ⟨_, List.getElem?_eq_getElem hlt⟩
      obtain ⟨b, o, hA, hB, hc⟩ := lies_lv H.out.1.lev.head (by omega)
      obtain ⟨c0, c1, c2, c3, c4, c5, c6, c7, c8, c9⟩ := lv_ten fun j u hj => (hb.cell (p := ⟨b, o + k * 10 + j, none⟩) hB).trans (hc k l hl j u hj)
      have hlm := List.mem_of_getElem? hl
      have hli := ((H.out.1.lev.each_ l hlm).past hb (Nat.le_refl _)).wide hb.size
      have hlo := H.out.2.1.each_ l hlm
      obtain ⟨V5, hV5, hb5, hs5, ho5⟩ := lvbox wr l
      obtain ⟨e0, e1, e2, e3, e4, e5, e6, e7, e8, e9⟩ := own10 ho5
      have u1 := Lib.hid (parts_anyS l s.f V5 (hli.keep hb5) hlo (HG.out.each l hlm) (HG.out.pos l hlm))
      rw [show l.val = .agg #[.int .i64 l.cls, .bool l.busy, .slice l.b.sA l.b.f.length l.b.sc, .slice l.b.uA l.b.l.length l.b.uc, .slice l.m.aA l.m.a.length l.m.ac, .slice l.m.bA l.m.b.length l.m.bc, .int .i64 l.m.i, .int .i64 l.m.j, .slice l.m.sA l.m.f.length l.m.sc, .slice l.m.oA l.m.o.length l.m.oc] from rfl] at u1
      have hbt := busy_take hl
      have hpt := parts_take hl
      have hple := parts_take_le s.L (k + 1)
      have hpp := partsR_pos l
      have hpl := partsR_len l
      have hbn : busyN (s.L.take k) ≤ 1048576 := by
        have := List.length_filter_le (fun l : Lv => l.busy) (s.L.take k)
        rw [List.length_take] at this
        unfold busyN
        omega
      have hpn : (partsS (s.L.take k)).length + (flatR (partsR l)).length ≤ 1099511627776 := by omega
      have HA := Lib.hid hA
      have q0 : (0 : Int) ≤ (k : Int) := by omega
      have q1 : (k : Int) < (s.L.length : Int) := by omega
      clear hlm hli hlo hl hc hple
      generalize (partsS (s.L.take k)).length = pk at *
      generalize busyN (s.L.take k) = bk at *
      cases hbu : l.busy
      · rw [hbu] at hV5 c1 e1 u1 hbt
        have HK := Lib.hid (And.intro hb (And.intro hb5 (And.intro hbt hpt)))
        clear hb hb5 hbu hbt hpt
        go_upto_region 8 with fail
        rw [← hV5]
        clear hV5
        go_wp2_with fail
        refine u1.out.mono ?_
        rintro _ w2 ⟨G, rfl, hul, hG, hb1⟩
        have hb2 := belows HK.out.1 (belows HK.out.2.1 hb1)
        have HU := Lib.hid (And.intro hul hb2)
        clear hul hG hb1 hb2
        clear u1 e0 e1 e2 e3 e4 e5 e6 e7 e8 e9 c0 c1 c2 c3 c4 c5 c6 c7 c8 c9 d0 d1
        go_wp2_with fail
        go_loopw [7, 34] (fun u i wi => ∃ j : Nat, i = .int .i64 (j : Int) ∧ j ≤ (partsR l).length ∧ u = .int .i64 ((pk + (flatR ((partsR l).take j)).length : Nat) : Int) ∧ Below w2.heap.size w2 wi)
          (fun _ i _ => (partsR l).length - (intOf i).toNat)
        case atStart => exact ⟨0, rfl, by omega, rfl, Below.refl _ _⟩
        case round =>
          obtain ⟨j, rfl, hj, rfl, hb2⟩ := hrel
          by_cases hlt2 : j < (partsR l).length
          · obtain ⟨r, hr⟩ : ∃ r, (partsR l)[j]? = some r := ⟨_, List.getElem?_eq_getElem hlt2⟩
            obtain ⟨g', o', e', hgi, hgc⟩ := HU.out.1.head (by omega)
            simp only [Option.some.injEq, Addr.mk.injEq, and_true] at e'
            obtain ⟨rfl, rfl⟩ := e'
            have z0 := (hb2.cell (p := ⟨G, 0 + j * 1 + 0, none⟩) hgi).trans (hgc j r hr 0 _ rfl)
            rw [show 0 + j * 1 + 0 = j by omega] at z0
            have hsn := flatR_one hr
            have hon := flatR_len hr (Nat.le_refl _)
            have q2 : (0 : Int) ≤ (j : Int) := by omega
            have q3 : (j : Int) < ((partsR l).length : Int) := by omega
            have H3 := Lib.hid (And.intro hb2 hsn)
            clear hr hb2 hsn hgi hgc
            generalize (flatR ((partsR l).take j)).length = fj at *
            go_wp2_with fail
            go_roundw
            case rel => exact ⟨j + 1, by go_num, by omega, by rw [H3.out.2]; go_num, H3.out.1⟩
            case measure => simp [intOf]; omega
          · have hj2 : j = (partsR l).length := by omega
            subst hj2
            rw [List.take_length]
            have H3 := Lib.hid (belows HU.out.2 hb2)
            clear hb2
            go_wp2_with fail
            clear hA
            rw [← HA.out]
            go_roundw
            case rel => exact ⟨k + 1, by go_num, by omega, by rw [HK.out.2.2.1]; go_num, by rw [HK.out.2.2.2], H3.out⟩
            case measure => simp [intOf]; omega
      · rw [hbu] at hV5 c1 e1 u1 hbt
        have HK := Lib.hid (And.intro hb (And.intro hb5 (And.intro hbt hpt)))
        clear hb hb5 hbu hbt hpt
        go_upto_region 8 with fail
        rw [← hV5]
        clear hV5
        go_wp2_with fail
        refine u1.out.mono ?_
        rintro _ w2 ⟨G, rfl, hul, hG, hb1⟩
        have hb2 := belows HK.out.1 (belows HK.out.2.1 hb1)
        have HU := Lib.hid (And.intro hul hb2)
        clear hul hG hb1 hb2
        clear u1 e0 e1 e2 e3 e4 e5 e6 e7 e8 e9 c0 c1 c2 c3 c4 c5 c6 c7 c8 c9 d0 d1
        go_wp2_with fail
        go_loopw [7, 34] (fun u i wi => ∃ j : Nat, i = .int .i64 (j : Int) ∧ j ≤ (partsR l).length ∧ u = .int .i64 ((pk + (flatR ((partsR l).take j)).length : Nat) : Int) ∧ Below w2.heap.size w2 wi)
          (fun _ i _ => (partsR l).length - (intOf i).toNat)
        case atStart => exact ⟨0, rfl, by omega, rfl, Below.refl _ _⟩
        case round =>
          obtain ⟨j, rfl, hj, rfl, hb2⟩ := hrel
          by_cases hlt2 : j < (partsR l).length
          · obtain ⟨r, hr⟩ : ∃ r, (partsR l)[j]? = some r := ⟨_, List.getElem?_eq_getElem hlt2⟩
            obtain ⟨g', o', e', hgi, hgc⟩ := HU.out.1.head (by omega)
            simp only [Option.some.injEq, Addr.mk.injEq, and_true] at e'
            obtain ⟨rfl, rfl⟩ := e'
            have z0 := (hb2.cell (p := ⟨G, 0 + j * 1 + 0, none⟩) hgi).trans (hgc j r hr 0 _ rfl)
            rw [show 0 + j * 1 + 0 = j by omega] at z0
            have hsn := flatR_one hr
            have hon := flatR_len hr (Nat.le_refl _)
            have q2 : (0 : Int) ≤ (j : Int) := by omega
            have q3 : (j : Int) < ((partsR l).length : Int) := by omega
            have H3 := Lib.hid (And.intro hb2 hsn)
            clear hr hb2 hsn hgi hgc
            generalize (flatR ((partsR l).take j)).length = fj at *
            go_wp2_with fail
            go_roundw
            case rel => exact ⟨j + 1, by go_num, by omega, by rw [H3.out.2]; go_num, H3.out.1⟩
            case measure => simp [intOf]; omega
          · have hj2 : j = (partsR l).length := by omega
            subst hj2
            rw [List.take_length]
            have H3 := Lib.hid (belows HU.out.2 hb2)
            clear hb2
            go_wp2_with fail
            clear hA
            rw [← HA.out]
            go_roundw
            case rel => exact ⟨k + 1, by go_num, by omega, by rw [HK.out.2.2.1]; go_num, by rw [HK.out.2.2.2], H3.out⟩
            case measure => simp [intOf]; omega
    · have hk2 : k = s.L.length := by omega
      subst hk2
      rw [List.take_length]
      have H2 := Lib.hid (belows H.out.2.2.1 hb)
      clear hb
      go_wp2_with fail
      exact bodyPost_ret (v := .tuple #[.int .i64 ((s.L.length + busyN s.L : Nat) : Int), .int .i64 ((partsS s.L).length : Int), .int .i64 0]) (by simp [results, Tryz.results10, go_sem]) rfl (HP.out _ _ 0 _ (.inr ⟨HG.out, by rw [cnt_busy], rfl, rfl⟩) H2.out)
end Go.Proofs.YtenjlhlighkenaaGreat
namespace Go.Proofs.YtenjlhlighkenaaGreat
open Go Go.RowKit

set_option maxRecDepth 100000 in
set_option maxHeartbeats 12800000 in
theorem put_idle (base g : Nat) (s : Sp) (b : Bt) (l : Lv) (w : World) (h : PutIn base g s b w) (hl : s.L[posC s.L (clsN b.l.length : Int)]? = some l) (hcl : l.cls = (clsN b.l.length : Int)) (hidle : l.busy = false) :
    Calls Tryz.prog 22 #[.pointer (some ⟨g, 0, none⟩), b.val] w (PutSays base g s b w) := by
  obtain ⟨V, hV, hvb, hvs, hvo⟩ := btbox w b
  obtain ⟨c, hc⟩ : ∃ c : Nat, clsN b.l.length = c := ⟨_, rfl⟩
  have y1 := Lib.hid (class_any b.uA b.uc b.l.length V h.bok.l.n)
  rw [hc] at y1
  obtain ⟨d0, d1⟩ := own2 hvo
  have H := Lib.hid h
  have HB := Lib.hid (And.intro hvb hvo)
  have HC := Lib.hid hc
  have hcn : c ≤ 41 := by rw [← hc]; exact cls_pow (by have := h.bok.l.n; omega)
  have hpl := posC_le s.L (c : Int)
  have hfew := h.good.few h.wk.ok.each_
  obtain ⟨p, hp⟩ : ∃ p : Nat, posC s.L (c : Int) = p := ⟨_, rfl⟩
  rw [hc] at hl hcl
  rw [hp] at hl hpl
  have hplt : p < s.L.length := (List.getElem?_eq_some_iff.1 hl).1
  have hn0 : c ≠ 0 := by have := h.good.pos l (List.mem_of_getElem? hl); omega
  have t0 : ((c : Int) == 0) = false := beq_eq_false_iff_ne.2 (by omega)
  have hpi : posI s.L (c : Int) = (p : Int) := by unfold posI; rw [hp, if_neg (by omega)]
  have y2 := fun (V2 : World) (bx : Nat) (hb : Below w.heap.size w V2) (hk : Kin V2 bx (c : Int)) => Lib.hid (indexS_any s.lA s.lc s.L bx (c : Int) V2 (h.wk.past hb).lies.head h.wk.ok.n hk)
  rw [hpi] at y2
  have t1 : ((p : Int) == (s.L.length : Int)) = false := beq_eq_false_iff_ne.2 (by omega)
  have t2 : decide (l.cls < (c : Int)) = false := decide_eq_false (by omega)
  have q0 : ¬ ((p : Int) < 0) := by omega
  have q1 : (0 : Int) ≤ (p : Int) := by omega
  have q2 : (p : Int) < (s.L.length : Int) := by omega
  obtain ⟨G, hGA⟩ : ∃ G : Nat, s.lA = some ⟨G, 0, none⟩ := by
    rcases row_ownK h.wk.row with ⟨_, h9, _⟩ | ⟨G, cur, hA, _⟩
    · omega
    · exact ⟨G, hA⟩
  have hGi : G < w.heap.size := (h.wk.lt G (.inr (by rw [hGA]; rfl))).2
  have HLV := Lib.hid (show ∀ W, Below w.heap.size w W → (∀ (j : Nat) (u : Value), l.cells[j]? = some u → W.cell? ⟨G, p * 10 + j, none⟩ = some u) from fun W hb j u hj => by
    have hW := h.wk.past hb
    obtain ⟨b', o', e, _, hcell⟩ := hW.lies.head (by omega)
    rw [hGA] at e
    simp only [Option.some.injEq, Addr.mk.injEq, and_true] at e
    obtain ⟨rfl, rfl⟩ := e
    have := hcell p l hl j u hj
    rwa [Nat.zero_add] at this)
  have HGA := Lib.hid hGA
  have HIDX := Lib.hid (And.intro hl (And.intro hcl hplt))
  have hLn := h.wk.ok.n
  rw [hGA] at y2
  rw [show b.val = .agg #[.slice b.sA b.f.length b.sc, .slice b.uA b.l.length b.uc] from rfl]
  clear h hvb hvs hvo hc hp hpi hpl hl hcl hplt hfew hn0 hGA
  go_enter Tryz.func22, Tryz.ntmps22
  go_upto_region 1 with fail
  rw [← hV]
  clear hV
  go_wp2_with fail
  refine y1.out.mono ?_
  rintro _ w1 ⟨rfl, b1⟩
  obtain ⟨V2, hV2, hs2, hb2, ho2⟩ := boxd w1 [.int .i64 (c : Int)] 3
  have b12 := belows b1 hb2
  have H2 := Lib.hid (And.intro (belows HB.out.1 b12) (And.intro (HB.out.2.past b12 HB.out.2.inside) (And.intro ho2 (show w.heap.size < w1.heap.size from Nat.lt_of_lt_of_le HB.out.2.inside b1.size))))
  have k0 : V2.cell? ⟨w1.heap.size, 0, none⟩ = some (.int .i64 (c : Int)) := ho2.at_ 0
  clear b1 hs2 hb2 ho2 y1 d0 d1 b12
  go_upto_region 2 with fail
  rw [← hV2]
  clear hV2
  have g0 : V2.cell? ⟨g, 1, none⟩ = some (.slice (some ⟨G, 0, none⟩) s.L.length s.lc) := by rw [← HGA.out]; exact (H.out.wk.past H2.out.1).own.at_ 1
  have hgi : g < V2.heap.size := (H.out.wk.past H2.out.1).own.inside
  have z2 := y2 V2 w1.heap.size H2.out.1 ⟨k0, H2.out.2.2.1.inside⟩
  go_wp2_with fail
  refine z2.out.mono ?_
  rintro _ w3 ⟨rfl, b3⟩
  have H3 := Lib.hid (And.intro (belows H2.out.1 b3) (And.intro (H2.out.2.1.past b3 H2.out.2.1.inside) (And.intro (H2.out.2.2.1.past b3 H2.out.2.2.1.inside) (And.intro H2.out.2.2.2 (Nat.lt_of_lt_of_le H2.out.2.2.1.inside b3.size)))))
  have k1 : w3.cell? ⟨w1.heap.size, 0, none⟩ = some (.int .i64 (c : Int)) := (b3.cell (p := ⟨w1.heap.size, 0, none⟩) H2.out.2.2.1.inside).trans k0
  have g1 : w3.cell? ⟨g, 1, none⟩ = some (.slice (some ⟨G, 0, none⟩) s.L.length s.lc) := (b3.cell (p := ⟨g, 1, none⟩) hgi).trans g0
  have hgi3 : g < w3.heap.size := Nat.lt_of_lt_of_le hgi b3.size
  obtain ⟨e0, e1⟩ := own2 H3.out.2.1
  clear b3 z2 k0 g0 hgi
  have hGi3 : G < w3.heap.size := Nat.lt_of_lt_of_le hGi H3.out.1.size
  have x1 := fun q : Past w3 => (q.h.cell (p := ⟨w1.heap.size, 0, none⟩) H3.out.2.2.2.2).trans k1
  have x3 := fun q : Past w3 => HLV.out q.w (belows H3.out.1 q.h) 0 _ rfl
  simp only [Nat.add_zero] at x3
  have x2 := fun q : Past w3 => (q.h.cell (p := ⟨g, 1, none⟩) hgi3).trans g1
  go_upto_region 7 with fail
  refine wp_region_past w3 (by kernel_rfl) (by kernel_rfl) (Below.refl _ _) ?_
  repeat (first | go_big_quiet_step (fail) | quiet_step (fail))
  refine wpQuiet_nil ?_
  intro wz hw'
  obtain ⟨⟨wy, hbz⟩, hw''⟩ := hw'
  dsimp only at hw''
  subst hw''
  have HZ3 := Lib.hid (And.intro (belows H3.out.1 hbz) (And.intro (H3.out.2.1.past hbz H3.out.2.1.inside) (H3.out.2.2.1.past hbz H3.out.2.2.1.inside)))
  have HW1 := Lib.hid H3.out.2.2.2.1
  have g1 := x2 ⟨wz, hbz⟩
  have k1 := (hbz.cell (p := ⟨w1.heap.size, 0, none⟩) H3.out.2.2.2.2).trans k1
  have hgi3 : g < wz.heap.size := Nat.lt_of_lt_of_le hgi3 hbz.size
  obtain ⟨e0, e1⟩ := own2 (H3.out.2.1.past hbz H3.out.2.1.inside)
  dsimp only at g1
  clear x1 x2 x3 hbz hGi3
  go_upto_region 10 with fail
  obtain ⟨r0, r1, r2, r3, r4, r5, r6, r7, r8, r9⟩ := lv_ten (HLV.out wz HZ3.out.1)
  have hGz : G < wz.heap.size := Nat.lt_of_lt_of_le hGi HZ3.out.1.size
  obtain ⟨V5, hV5, hb5, hs5, ho5⟩ := lvbox wz l
  obtain ⟨f0, f1, f2, f3, f4, f5, f6, f7, f8, f9⟩ := own10 ho5
  have H5 := Lib.hid (And.intro (belows HZ3.out.1 hb5) (And.intro (HZ3.out.2.1.past hb5 HZ3.out.2.1.inside) (And.intro (HZ3.out.2.2.past hb5 HZ3.out.2.2.inside) (And.intro ho5 (Nat.lt_of_lt_of_le HZ3.out.2.2.inside hb5.size)))))
  rw [hidle] at r1 f1 hV5
  go_upto_region 11 with fail
  rw [← hV5]
  clear hV5 r0 r1 r2 r3 r4 r5 r6 r7 r8 r9 e0 e1 g1 k1 hgi3
  go_upto_region 12 with fail
  have hwk5 := H.out.wk.past H5.out.1
  have hLl := List.mem_of_getElem? HIDX.out.1
  have hgd := (H.out.good.each l hLl).idle hidle
  have hst : StartOk s.f l.b b := ⟨hgd.2.1, H.out.right, H.out.good.front, hgd.2.2.2, H.out.later⟩
  have hlv := hwk5.lev l hLl
  have hlo := hwk5.ok.each_ l hLl
  have hwt := H.out.wt
  have hwl := wt_le hLl
  have hwtl : wtL l = l.b.l.length := by unfold wtL; rw [if_neg (by rw [hidle]; decide)]
  have z := fun W (h : Bl V5 W) => Lib.hid (start_good s.sA s.sc s.f l.b b W ((hwk5.since.past h.below (Nat.le_refl _)).wide h.below.size) hwk5.ok.f (hlv.b.keep h) hlo.b (by omega) ((H.out.bin.keep H5.out.1).keep h) H.out.bok (by omega) hst)
  have hself := Bl.refl V5
  have hbs : V5.heap.size ≤ V5.heap.size := Nat.le_refl _
  have HS := Lib.hid (show ∀ W, Bm V5.heap.size V5 W → W.cell? ⟨g, 0, none⟩ = some (.slice s.sA s.f.length s.sc) ∧ W.cell? ⟨wz.heap.size, 2, none⟩ = some (.slice l.b.sA l.b.f.length l.b.sc) ∧ W.cell? ⟨wz.heap.size, 3, none⟩ = some (.slice l.b.uA l.b.l.length l.b.uc) ∧ W.cell? ⟨w.heap.size, 0, none⟩ = some (.slice b.sA b.f.length b.sc) ∧ W.cell? ⟨w.heap.size, 1, none⟩ = some (.slice b.uA b.l.length b.uc) from fun W h => by
    have o1 := hwk5.own.past h hwk5.own.inside
    have o2 := H5.out.2.2.2.1.past h H5.out.2.2.2.1.inside
    have o3 := H5.out.2.1.past h H5.out.2.1.inside
    exact ⟨o1.at_ 0, o2.at_ 2, o2.at_ 3, o3.at_ 0, o3.at_ 1⟩)
  have HW5 := Lib.hid (And.intro hgd (And.intro hLl (And.intro hlo (And.intro hwt hwtl))))
  have hlt5 : wz.heap.size < V5.heap.size := ho5.inside
  clear hwk5 hLl hgd hst hlv hlo hwt hwl hwtl f0 f1 f2 f3 f4 f5 f6 f7 f8 f9 hb5 ho5 hs5
  unfold Bt.val at z
  go_cut [8, 9] (fun s8 s9 wx => ∃ (Q : Nat) (m : Mg), s8 = .pointer (some ⟨Q, 0, none⟩) ∧ s9 = .int .i64 0 ∧ Own wx Q 63 m.cells ∧ NewM s.f l.b b m ∧ MgIn wx wx.heap.size m ∧ MgOk m ∧ MgLo V5.heap.size m ∧ Below V5.heap.size V5 wx ∧ McOk m)
  case first =>
    go_region_held3 (fun w' => Bm V5.heap.size V5 w' ∧ (w'.cell? ⟨g, 0, none⟩ = some (.slice s.sA s.f.length s.sc) ∧ w'.cell? ⟨wz.heap.size, 2, none⟩ = some (.slice l.b.sA l.b.f.length l.b.sc) ∧ w'.cell? ⟨wz.heap.size, 3, none⟩ = some (.slice l.b.uA l.b.l.length l.b.uc) ∧ w'.cell? ⟨w.heap.size, 0, none⟩ = some (.slice b.sA b.f.length b.sc) ∧ w'.cell? ⟨w.heap.size, 1, none⟩ = some (.slice b.uA b.l.length b.uc)))
      ((refine (fun h => And.intro h (HS.out _ h)) ?_; repeat (first | with_reducible exact Bm.of hb6 hbs | with_reducible exact Bm.of hself hbs | with_reducible refine Bm.set ?_ (by first | exact Nat.le_refl _ | (have z6 := hb6.below.size; simp; omega)) _ _ | with_reducible refine Bm.more ?_ hbs _ | with_reducible refine Bm.drew ?_)))
      ((go_at_call 52; refine (z _ ?_).out.mono ?_; (repeat (first | with_reducible exact hself | with_reducible refine Bl.more ?_ _ | with_reducible refine Bl.drew ?_)); rintro _ w6 ⟨m, rfl, hnew, im, om, lm, b6, cm⟩; unfold Mg.val; have hb6 : Bl V5 w6 := Bl.call (by repeat (first | with_reducible exact hself | with_reducible refine Bl.more ?_ _ | with_reducible refine Bl.drew ?_)) b6; (try (have oz : Own w6 V5.heap.size 63 [.slice none 0 0, .slice none 0 0, .int .i64 0, .int .i64 0, .slice none 0 0, .slice none 0 0] := (Own.past (by first | exact Own.made _ _ [.slice none 0 0, .slice none 0 0, .int .i64 0, .int .i64 0, .slice none 0 0, .slice none 0 0] | exact own_drewKS (Own.made _ _ [.slice none 0 0, .slice none 0 0, .int .i64 0, .int .i64 0, .slice none 0 0, .slice none 0 0])) b6 (by simp)); obtain ⟨f0, f1, f2, f3, f4, f5⟩ := own_frozen6 oz; obtain ⟨e0, e1, e2, e3, e4, e5⟩ := own6 oz))))
    all_goals
      go_wp2_with fail
      go_meet
    · obtain ⟨V6, hV6, hb, hs, ho⟩ := mgbox w6 m
      rw [← hV6]
      exact ⟨_, m, rfl, rfl, ho, hnew, im.keep hb, om, lm.mono (by simp), hb6.below.trans (hb.mono hb6.below.size), cm⟩
    · obtain ⟨X, hX, hXo, hXb, hXs, hXh⟩ := own_six oz (.slice m.aA m.a.length m.ac) (.slice m.bA m.b.length m.bc) (.int .i64 m.i) (.int .i64 m.j) (.slice m.sA m.f.length m.sc) (.slice m.oA m.o.length m.oc)
      rw [← hX]
      exact ⟨_, m, rfl, rfl, hXo, hnew, ⟨ups_other im.a (lm.a.mono (by simp)) hXs hXh, ups_other im.b (lm.b.mono (by simp)) hXs hXh, times_other im.f (lm.f.mono (by simp)) hXs hXh, ups_other im.o (lm.o.mono (by simp)) hXs hXh⟩, om, lm.mono (by simp), hXb V5.heap.size V5 hb6.below (Nat.le_refl _), cm⟩
  case rest =>
    obtain ⟨Q, m, rfl, rfl, hQ, hnew, im, om, lm, b6, cm⟩ := hcut
    have HCM := Lib.hid cm
    clear cm
    have b06 := belows H5.out.1 b6
    have hwk6 := H.out.wk.past b06
    have oc6 := H5.out.2.2.1.past b6 H5.out.2.2.1.inside
    have hX0 := fun q : Past wc => (hwk6.own.past q.h hwk6.own.inside).at_ 1
    have hX1 := fun q : Past wc => (oc6.past q.h oc6.inside).at_ 0
    have hX2 := fun q : Past wc => own6 (hQ.past q.h hQ.inside)
    simp only [Sp.cells, List.getElem?_cons_zero, List.getElem?_cons_succ, HGA.out] at hX0 hX1
    have HFR := Lib.hid (show ∀ W, Below wc.heap.size wc W → (∀ o, W.frozen? ⟨G, o, none⟩ = false) from fun W hb o => by
      rcases row_ownK (hwk6.past hb).row with ⟨h0, _⟩ | ⟨G', cur, e, _, hg, _⟩
      · rw [HGA.out] at h0; cases h0
      · rw [HGA.out] at e
        obtain rfl : G = G' := by simpa using e
        exact hg.open_ o)
    have H6 := Lib.hid (And.intro b06 (And.intro hnew (And.intro im (And.intro om (And.intro lm (And.intro hQ b6))))))
    clear hnew im om lm hQ b6 b06 hwk6 oc6 z HS hself hbs
    go_upto_region 13 with fail
    refine wp_region_past_tail wc 10 (by kernel_rfl) (by kernel_rfl) (Below.refl _ _) ?_
    repeat (first | go_big_quiet_step (fail) | quiet_step (fail))
    refine wpQuiet_nil ?_
    intro wt hw'
    obtain ⟨⟨wu, hbt⟩, hw''⟩ := hw'
    dsimp only at hw''
    subst hw''
    have HT := Lib.hid hbt
    obtain ⟨r0, r1, r2, r3, r4, r5, r6, r7, r8, r9⟩ := lv_ten (HLV.out wt (belows H6.out.1 hbt))
    have g0 := HFR.out wt hbt (p * 10)
    have g1 := HFR.out wt hbt (p * 10 + 1)
    have g2 := HFR.out wt hbt (p * 10 + 2)
    have g3 := HFR.out wt hbt (p * 10 + 3)
    have g4 := HFR.out wt hbt (p * 10 + 4)
    have g5 := HFR.out wt hbt (p * 10 + 5)
    have g6 := HFR.out wt hbt (p * 10 + 6)
    have g7 := HFR.out wt hbt (p * 10 + 7)
    have g8 := HFR.out wt hbt (p * 10 + 8)
    have g9 := HFR.out wt hbt (p * 10 + 9)
    have HFI := Lib.hid (put_merge (p := p) (G := G) (m := m) (H.out.past (belows H6.out.1 hbt)) HIDX.out.1 hidle (by rw [HIDX.out.2.1, HC.out]) H6.out.2.1 (H6.out.2.2.1.keep hbt) H6.out.2.2.2.1 (H6.out.2.2.2.2.1.of (fun k hk => (H.out.wk.past H5.out.1).lt k hk |>.2)) (H6.out.2.2.2.2.1.mono (Nat.le_trans H.out.wk.base_ H5.out.1.size)) HCM.out HGA.out)
    rw [HIDX.out.2.1] at HFI
    clear hX0 hX1 hX2 hbt
    go_wp2_with fail
    go_ret
    obtain ⟨k1, s', k2⟩ := HFI.out
    have bb := belows H6.out.1 HT.out
    exact ⟨0, rfl, (KeptK.of_below bb (Nat.le_refl _) (SpS g s.lA)).trans k1 (fun _ _ e => e), .inl ⟨rfl, s', k2.first bb⟩⟩
end Go.Proofs.YtenjlhlighkenaaGreat
namespace Go.Proofs.YtenjlhlighkenaaGreat
open Go Go.RowKit

set_option maxRecDepth 100000 in
set_option maxHeartbeats 12800000 in
theorem put_absent1 (base g : Nat) (s : Sp) (b : Bt) (w : World) (h : PutIn base g s b w) (hno : ∀ l ∈ s.L, l.cls ≠ (clsN b.l.length : Int)) (hz : clsN b.l.length ≠ 0) (hq : posC s.L (clsN b.l.length : Int) = s.L.length) :
    Calls Tryz.prog 22 #[.pointer (some ⟨g, 0, none⟩), b.val] w (PutNew base g s b w) := by
  obtain ⟨V, hV, hvb, hvs, hvo⟩ := btbox w b
  obtain ⟨c, hc⟩ : ∃ c : Nat, clsN b.l.length = c := ⟨_, rfl⟩
  have y1 := Lib.hid (class_any b.uA b.uc b.l.length V h.bok.l.n)
  rw [hc] at y1
  obtain ⟨d0, d1⟩ := own2 hvo
  have H := Lib.hid h
  have HB := Lib.hid (And.intro hvb hvo)
  have HC := Lib.hid hc
  have hcn : c ≤ 41 := by rw [← hc]; exact cls_pow (by have := h.bok.l.n; omega)
  have hpl := posC_le s.L (c : Int)
  have hfew := h.good.few h.wk.ok.each_
  have hlow : ∀ l ∈ s.L.drop (posC s.L (c : Int)), l.cls < (c : Int) := posC_after h.good.fall fun l hl e => hno l (List.mem_of_getElem? hl) (by rw [hc]; exact e)
  have HLOW := Lib.hid (And.intro (posC_before s.L (c : Int)) hlow)
  rw [show b.val = .agg #[.slice b.sA b.f.length b.sc, .slice b.uA b.l.length b.uc] from rfl]
  rw [hc] at hz hq
  have h0 : ¬ c = 0 := hz
  have t0 : ((c : Int) == 0) = false := beq_eq_false_iff_ne.2 (by omega)
  have hn0 : b.l.length ≠ 0 := fun e => h0 (hc.symm.trans (cls_zero.2 e))
  have HZ := Lib.hid hn0
  obtain ⟨p, hp⟩ : ∃ p : Nat, posC s.L (c : Int) = p := ⟨_, rfl⟩
  have HPP := Lib.hid hp
  rw [hp] at hpl HLOW
  have y2 := fun (V2 : World) (bx : Nat) (hb : Below w.heap.size w V2) (hk : Kin V2 bx (c : Int)) => Lib.hid (indexS_any s.lA s.lc s.L bx (c : Int) V2 (h.wk.past hb).lies.head h.wk.ok.n hk)
  have y3 : ∀ w3, Below w.heap.size w w3 → ∀ W, Below w3.heap.size w3 W → Own W w3.heap.size 65 (⟨(c : Int), false, b, Mg.nil⟩ : Lv).cells → Hid (Calls Tryz.prog 51 #[.slice s.lA s.L.length s.lc, .int .i64 (p : Int), .slice (some ⟨w3.heap.size, 0, none⟩) 1 1] W fun e w' => ∃ A' c', e = .returned (.slice A' (s.L.length + 1) c') ∧
      w'.ownsRow base 65 10 (.slice A' (s.L.length + 1) c') (s.L.length + 1) ((s.L.flatMap Lv.cells).take (p * 10) ++ (⟨(c : Int), false, b, Mg.nil⟩ : Lv).cells ++ (s.L.flatMap Lv.cells).drop (p * 10)) ∧ W.grownBy w' (Value.slice s.lA s.L.length s.lc).ownBlock ∧ ((Value.slice A' (s.L.length + 1) c').ownBlock = (Value.slice s.lA s.L.length s.lc).ownBlock ∨ (Value.slice A' (s.L.length + 1) c').ownBlock = some W.heap.size)) := fun w3 hb W hbW ho => by
    have hw3 := h.wk.past hb
    refine Lib.hid (insert_anyS base s.L.length s.lc p w3.heap.size s.lA _ ⟨(c : Int), false, b, Mg.nil⟩ W (own_below hw3.row hbW) ho ?_ hpl ?_ (Nat.le_trans hw3.base_ hbW.size) (lvs_one s.L))
    · intro e
      rw [blkS_own] at e
      have := (hw3.lt _ (.inr e)).2
      omega
    · omega
  have HFIN := Lib.hid (show ∀ (w3 W2 : World) (A' : Option Addr) (c' : Nat), Below w.heap.size w w3 → W2.ownsRow base 65 10 (.slice A' (s.L.length + 1) c') (s.L.length + 1) ((s.L.flatMap Lv.cells).take (p * 10) ++ (⟨(c : Int), false, b, Mg.nil⟩ : Lv).cells ++ (s.L.flatMap Lv.cells).drop (p * 10)) → (w3.alloc (.cells #[.int .i64 (c : Int), .bool false, .slice b.sA b.f.length b.sc, .slice b.uA b.l.length b.uc, .slice none 0 0, .slice none 0 0, .int .i64 0, .int .i64 0, .slice none 0 0, .slice none 0 0] 65)).drew.grownBy W2 (Value.slice s.lA s.L.length s.lc).ownBlock → ((Value.slice A' (s.L.length + 1) c').ownBlock = (Value.slice s.lA s.L.length s.lc).ownBlock ∨ (Value.slice A' (s.L.length + 1) c').ownBlock = some (w3.alloc (.cells #[.int .i64 (c : Int), .bool false, .slice b.sA b.f.length b.sc, .slice b.uA b.l.length b.uc, .slice none 0 0, .slice none 0 0, .int .i64 0, .int .i64 0, .slice none 0 0, .slice none 0 0] 65)).drew.heap.size) →
      PutNew base g s b w (.returned (.int .i64 0)) (W2.setCell ⟨g, 1, none⟩ (.slice A' (s.L.length + 1) c')) from fun w3 W2 A' c' hb hr hg hA => by
    obtain ⟨k1, s', k2, k3⟩ := put_level (h.past hb) hpl (by rw [hc]) HLOW.out.1 HLOW.out.2 hn0 (lvbox1 w3 b (c : Int)).1 hr hg hA
    exact ⟨rfl, (KeptK.of_below hb (Nat.le_refl _) (SpS g s.lA)).trans k1 (fun _ _ e => e), s', k2.first hb, k3⟩)
  have HMID := Lib.hid (show ∀ (w3 W2 : World), Below w.heap.size w w3 → (w3.alloc (.cells #[.int .i64 (c : Int), .bool false, .slice b.sA b.f.length b.sc, .slice b.uA b.l.length b.uc, .slice none 0 0, .slice none 0 0, .int .i64 0, .int .i64 0, .slice none 0 0, .slice none 0 0] 65)).drew.grownBy W2 (Value.slice s.lA s.L.length s.lc).ownBlock → Own W2 g 71 s.cells from fun w3 W2 hb hg => by
    have hw3 := (h.wk.past hb).past (lvbox1 w3 b (c : Int)).1
    refine (hg.block g hw3.own.inside ?_).trans hw3.own
    rw [blkS_own]
    exact fun e => hw3.out e.symm)
  have HG := Lib.hid h.wk.own.inside
  have hpe : p = s.L.length := hp.symm.trans hq
  clear hz hq
  have hpi : posI s.L (c : Int) = -1 := by unfold posI; rw [hp, if_pos hpe]
  rw [hpi] at y2
  have t1 : ((s.L.length : Int) == (s.L.length : Int)) = true := by simp
  subst hpe
  clear h hvb hvs hvo hc hno hlow hn0 hp h0 hpi hpl
  go_enter Tryz.func22, Tryz.ntmps22
  go_upto_region 1 with fail
  rw [← hV]
  clear hV
  go_wp2_with fail
  refine y1.out.mono ?_
  rintro _ w1 ⟨rfl, b1⟩
  obtain ⟨V2, hV2, hs2, hb2, ho2⟩ := boxd w1 [.int .i64 (c : Int)] 3
  have b12 := belows b1 hb2
  have H2 := Lib.hid (And.intro (belows HB.out.1 b12) (And.intro (HB.out.2.past b12 HB.out.2.inside) (And.intro ho2 (show w.heap.size < w1.heap.size from Nat.lt_of_lt_of_le HB.out.2.inside b1.size))))
  have k0 : V2.cell? ⟨w1.heap.size, 0, none⟩ = some (.int .i64 (c : Int)) := ho2.at_ 0
  clear b1 hs2 hb2 ho2 y1 d0 d1 b12
  go_upto_region 2 with fail
  rw [← hV2]
  clear hV2
  have g0 : V2.cell? ⟨g, 1, none⟩ = some (.slice s.lA s.L.length s.lc) := (H.out.wk.past H2.out.1).own.at_ 1
  have hgi : g < V2.heap.size := (H.out.wk.past H2.out.1).own.inside
  have z2 := y2 V2 w1.heap.size H2.out.1 ⟨k0, H2.out.2.2.1.inside⟩
  go_wp2_with fail
  refine z2.out.mono ?_
  rintro _ w3 ⟨rfl, b3⟩
  have H3 := Lib.hid (And.intro (belows H2.out.1 b3) (And.intro (H2.out.2.1.past b3 H2.out.2.1.inside) (And.intro (H2.out.2.2.1.past b3 H2.out.2.2.1.inside) (And.intro H2.out.2.2.2 (Nat.lt_of_lt_of_le H2.out.2.2.1.inside b3.size)))))
  have k1 : w3.cell? ⟨w1.heap.size, 0, none⟩ = some (.int .i64 (c : Int)) := (b3.cell (p := ⟨w1.heap.size, 0, none⟩) H2.out.2.2.1.inside).trans k0
  have g1 : w3.cell? ⟨g, 1, none⟩ = some (.slice s.lA s.L.length s.lc) := (b3.cell (p := ⟨g, 1, none⟩) hgi).trans g0
  have hgi3 : g < w3.heap.size := Nat.lt_of_lt_of_le hgi b3.size
  obtain ⟨e0, e1⟩ := own2 H3.out.2.1
  clear b3 z2 k0 g0 hgi
  have x2 := fun q : Past w3 => (q.h.cell (p := ⟨g, 1, none⟩) hgi3).trans g1
  go_upto_region 7 with fail
  refine wp_region_past w3 (by kernel_rfl) (by kernel_rfl) (Below.refl _ _) ?_
  repeat (first | go_big_quiet_step (fail) | quiet_step (fail))
  refine wpQuiet_nil ?_
  intro wz hw'
  obtain ⟨⟨wy, hbz⟩, hw''⟩ := hw'
  dsimp only at hw''
  subst hw''
  have HZ3 := Lib.hid (And.intro (belows H3.out.1 hbz) (And.intro (H3.out.2.1.past hbz H3.out.2.1.inside) (H3.out.2.2.1.past hbz H3.out.2.2.1.inside)))
  have HW1 := Lib.hid H3.out.2.2.2.1
  have g1 := x2 ⟨wz, hbz⟩
  have k1 := (hbz.cell (p := ⟨w1.heap.size, 0, none⟩) H3.out.2.2.2.2).trans k1
  have hgi3 : g < wz.heap.size := Nat.lt_of_lt_of_le hgi3 hbz.size
  obtain ⟨e0, e1⟩ := own2 (H3.out.2.1.past hbz H3.out.2.1.inside)
  dsimp only at g1
  clear x2 hbz
  go_upto_region 8 with fail
  have a2 : (wz.alloc (.cells #[.int .i64 (c : Int), .bool false, .slice b.sA b.f.length b.sc, .slice b.uA b.l.length b.uc, .slice none 0 0, .slice none 0 0, .int .i64 0, .int .i64 0, .slice none 0 0, .slice none 0 0] 65)).cell? ⟨g, 1, none⟩ = some (.slice s.lA s.L.length s.lc) := ((lvbox1 wz b (c : Int)).1.cell (p := ⟨g, 1, none⟩) hgi3).trans g1
  go_region_with (go_at_call 51; refine (y3 wz HZ3.out.1 _ (lvbox1 wz b (c : Int)).1 (lvbox1 wz b (c : Int)).2).out.mono ?_; rintro _ w4 ⟨A', c', rfl, hr, hg, hA⟩; have o2 := HMID.out wz w4 HZ3.out.1 hg; have s0 : w4.cell? ⟨g, 1, none⟩ = some (.slice s.lA s.L.length s.lc) := o2.at_ 1; have s1 : w4.frozen? ⟨g, 1, none⟩ = false := o2.open_ 1; have HF := Lib.hid (HFIN.out wz w4 A' c' HZ3.out.1 hr hg hA); clear hr hg hA o2)
  all_goals
    go_wp2_with fail
    go_ret
    exact HF.out
end Go.Proofs.YtenjlhlighkenaaGreat
namespace Go.Proofs.YtenjlhlighkenaaGreat
open Go Go.RowKit

set_option maxRecDepth 100000 in
set_option maxHeartbeats 12800000 in
theorem put_absent2 (base g : Nat) (s : Sp) (b : Bt) (w : World) (h : PutIn base g s b w) (hno : ∀ l ∈ s.L, l.cls ≠ (clsN b.l.length : Int)) (hz : clsN b.l.length ≠ 0) (hq : posC s.L (clsN b.l.length : Int) ≠ s.L.length) :
    Calls Tryz.prog 22 #[.pointer (some ⟨g, 0, none⟩), b.val] w (PutNew base g s b w) := by
  obtain ⟨V, hV, hvb, hvs, hvo⟩ := btbox w b
  obtain ⟨c, hc⟩ : ∃ c : Nat, clsN b.l.length = c := ⟨_, rfl⟩
  have y1 := Lib.hid (class_any b.uA b.uc b.l.length V h.bok.l.n)
  rw [hc] at y1
  obtain ⟨d0, d1⟩ := own2 hvo
  have H := Lib.hid h
  have HB := Lib.hid (And.intro hvb hvo)
  have HC := Lib.hid hc
  have hcn : c ≤ 41 := by rw [← hc]; exact cls_pow (by have := h.bok.l.n; omega)
  have hpl := posC_le s.L (c : Int)
  have hfew := h.good.few h.wk.ok.each_
  have hlow : ∀ l ∈ s.L.drop (posC s.L (c : Int)), l.cls < (c : Int) := posC_after h.good.fall fun l hl e => hno l (List.mem_of_getElem? hl) (by rw [hc]; exact e)
  have HLOW := Lib.hid (And.intro (posC_before s.L (c : Int)) hlow)
  rw [show b.val = .agg #[.slice b.sA b.f.length b.sc, .slice b.uA b.l.length b.uc] from rfl]
  rw [hc] at hz hq
  have h0 : ¬ c = 0 := hz
  have t0 : ((c : Int) == 0) = false := beq_eq_false_iff_ne.2 (by omega)
  have hn0 : b.l.length ≠ 0 := fun e => h0 (hc.symm.trans (cls_zero.2 e))
  have HZ := Lib.hid hn0
  obtain ⟨p, hp⟩ : ∃ p : Nat, posC s.L (c : Int) = p := ⟨_, rfl⟩
  have HPP := Lib.hid hp
  rw [hp] at hpl HLOW
  have y2 := fun (V2 : World) (bx : Nat) (hb : Below w.heap.size w V2) (hk : Kin V2 bx (c : Int)) => Lib.hid (indexS_any s.lA s.lc s.L bx (c : Int) V2 (h.wk.past hb).lies.head h.wk.ok.n hk)
  have y3 : ∀ w3, Below w.heap.size w w3 → ∀ W, Below w3.heap.size w3 W → Own W w3.heap.size 65 (⟨(c : Int), false, b, Mg.nil⟩ : Lv).cells → Hid (Calls Tryz.prog 51 #[.slice s.lA s.L.length s.lc, .int .i64 (p : Int), .slice (some ⟨w3.heap.size, 0, none⟩) 1 1] W fun e w' => ∃ A' c', e = .returned (.slice A' (s.L.length + 1) c') ∧
      w'.ownsRow base 65 10 (.slice A' (s.L.length + 1) c') (s.L.length + 1) ((s.L.flatMap Lv.cells).take (p * 10) ++ (⟨(c : Int), false, b, Mg.nil⟩ : Lv).cells ++ (s.L.flatMap Lv.cells).drop (p * 10)) ∧ W.grownBy w' (Value.slice s.lA s.L.length s.lc).ownBlock ∧ ((Value.slice A' (s.L.length + 1) c').ownBlock = (Value.slice s.lA s.L.length s.lc).ownBlock ∨ (Value.slice A' (s.L.length + 1) c').ownBlock = some W.heap.size)) := fun w3 hb W hbW ho => by
    have hw3 := h.wk.past hb
    refine Lib.hid (insert_anyS base s.L.length s.lc p w3.heap.size s.lA _ ⟨(c : Int), false, b, Mg.nil⟩ W (own_below hw3.row hbW) ho ?_ hpl ?_ (Nat.le_trans hw3.base_ hbW.size) (lvs_one s.L))
    · intro e
      rw [blkS_own] at e
      have := (hw3.lt _ (.inr e)).2
      omega
    · omega
  have HFIN := Lib.hid (show ∀ (w3 W2 : World) (A' : Option Addr) (c' : Nat), Below w.heap.size w w3 → W2.ownsRow base 65 10 (.slice A' (s.L.length + 1) c') (s.L.length + 1) ((s.L.flatMap Lv.cells).take (p * 10) ++ (⟨(c : Int), false, b, Mg.nil⟩ : Lv).cells ++ (s.L.flatMap Lv.cells).drop (p * 10)) → (w3.alloc (.cells #[.int .i64 (c : Int), .bool false, .slice b.sA b.f.length b.sc, .slice b.uA b.l.length b.uc, .slice none 0 0, .slice none 0 0, .int .i64 0, .int .i64 0, .slice none 0 0, .slice none 0 0] 65)).drew.grownBy W2 (Value.slice s.lA s.L.length s.lc).ownBlock → ((Value.slice A' (s.L.length + 1) c').ownBlock = (Value.slice s.lA s.L.length s.lc).ownBlock ∨ (Value.slice A' (s.L.length + 1) c').ownBlock = some (w3.alloc (.cells #[.int .i64 (c : Int), .bool false, .slice b.sA b.f.length b.sc, .slice b.uA b.l.length b.uc, .slice none 0 0, .slice none 0 0, .int .i64 0, .int .i64 0, .slice none 0 0, .slice none 0 0] 65)).drew.heap.size) →
      PutNew base g s b w (.returned (.int .i64 0)) (W2.setCell ⟨g, 1, none⟩ (.slice A' (s.L.length + 1) c')) from fun w3 W2 A' c' hb hr hg hA => by
    obtain ⟨k1, s', k2, k3⟩ := put_level (h.past hb) hpl (by rw [hc]) HLOW.out.1 HLOW.out.2 hn0 (lvbox1 w3 b (c : Int)).1 hr hg hA
    exact ⟨rfl, (KeptK.of_below hb (Nat.le_refl _) (SpS g s.lA)).trans k1 (fun _ _ e => e), s', k2.first hb, k3⟩)
  have HMID := Lib.hid (show ∀ (w3 W2 : World), Below w.heap.size w w3 → (w3.alloc (.cells #[.int .i64 (c : Int), .bool false, .slice b.sA b.f.length b.sc, .slice b.uA b.l.length b.uc, .slice none 0 0, .slice none 0 0, .int .i64 0, .int .i64 0, .slice none 0 0, .slice none 0 0] 65)).drew.grownBy W2 (Value.slice s.lA s.L.length s.lc).ownBlock → Own W2 g 71 s.cells from fun w3 W2 hb hg => by
    have hw3 := (h.wk.past hb).past (lvbox1 w3 b (c : Int)).1
    refine (hg.block g hw3.own.inside ?_).trans hw3.own
    rw [blkS_own]
    exact fun e => hw3.out e.symm)
  have HG := Lib.hid h.wk.own.inside
  have hpe : ¬ p = s.L.length := fun e => hq (hp.trans e)
  clear hz hq
  have hpi : posI s.L (c : Int) = (p : Int) := by unfold posI; rw [hp, if_neg hpe]
  rw [hpi] at y2
  have hplt : p < s.L.length := by omega
  obtain ⟨l, hl⟩ : ∃ l, s.L[p]? = some l := ⟨_, List.getElem?_eq_getElem hplt⟩
  have hcl : l.cls < (c : Int) := HLOW.out.2 l (by
    rw [List.drop_eq_getElem_cons hplt]
    have := (List.getElem?_eq_some_iff.1 hl).2
    rw [this]
    exact List.mem_cons_self)
  have t1 : ((p : Int) == (s.L.length : Int)) = false := beq_eq_false_iff_ne.2 (by omega)
  have t2 : decide (l.cls < (c : Int)) = true := decide_eq_true hcl
  have q0 : ¬ ((p : Int) < 0) := by omega
  have q1 : (0 : Int) ≤ (p : Int) := by omega
  have q2 : (p : Int) < (s.L.length : Int) := by omega
  have HLV := Lib.hid (show ∀ W, Below w.heap.size w W → ∃ G : Nat, s.lA = some ⟨G, 0, none⟩ ∧ W.cell? ⟨G, p * 10, none⟩ = some (.int .i64 l.cls) from fun W hb => by
    have hW := h.wk.past hb
    rcases row_ownK hW.row with ⟨_, h9, _⟩ | ⟨G, cur, hA, _⟩
    · omega
    · obtain ⟨b', o', e, _, hcell⟩ := hW.lies.head (by omega)
      rw [hA] at e
      simp only [Option.some.injEq, Addr.mk.injEq, and_true] at e
      obtain ⟨rfl, rfl⟩ := e
      have := hcell p l hl 0 _ rfl
      rw [Nat.zero_add, Nat.add_zero] at this
      exact ⟨G, hA, this⟩)
  clear h hvb hvs hvo hc hno hlow hn0 hp h0 hpi hpl hl hcl hplt
  go_enter Tryz.func22, Tryz.ntmps22
  go_upto_region 1 with fail
  rw [← hV]
  clear hV
  go_wp2_with fail
  refine y1.out.mono ?_
  rintro _ w1 ⟨rfl, b1⟩
  obtain ⟨V2, hV2, hs2, hb2, ho2⟩ := boxd w1 [.int .i64 (c : Int)] 3
  have b12 := belows b1 hb2
  have H2 := Lib.hid (And.intro (belows HB.out.1 b12) (And.intro (HB.out.2.past b12 HB.out.2.inside) (And.intro ho2 (show w.heap.size < w1.heap.size from Nat.lt_of_lt_of_le HB.out.2.inside b1.size))))
  have k0 : V2.cell? ⟨w1.heap.size, 0, none⟩ = some (.int .i64 (c : Int)) := ho2.at_ 0
  clear b1 hs2 hb2 ho2 y1 d0 d1 b12
  go_upto_region 2 with fail
  rw [← hV2]
  clear hV2
  have g0 : V2.cell? ⟨g, 1, none⟩ = some (.slice s.lA s.L.length s.lc) := (H.out.wk.past H2.out.1).own.at_ 1
  have hgi : g < V2.heap.size := (H.out.wk.past H2.out.1).own.inside
  have z2 := y2 V2 w1.heap.size H2.out.1 ⟨k0, H2.out.2.2.1.inside⟩
  go_wp2_with fail
  refine z2.out.mono ?_
  rintro _ w3 ⟨rfl, b3⟩
  have H3 := Lib.hid (And.intro (belows H2.out.1 b3) (And.intro (H2.out.2.1.past b3 H2.out.2.1.inside) (And.intro (H2.out.2.2.1.past b3 H2.out.2.2.1.inside) (And.intro H2.out.2.2.2 (Nat.lt_of_lt_of_le H2.out.2.2.1.inside b3.size)))))
  have k1 : w3.cell? ⟨w1.heap.size, 0, none⟩ = some (.int .i64 (c : Int)) := (b3.cell (p := ⟨w1.heap.size, 0, none⟩) H2.out.2.2.1.inside).trans k0
  have g1 : w3.cell? ⟨g, 1, none⟩ = some (.slice s.lA s.L.length s.lc) := (b3.cell (p := ⟨g, 1, none⟩) hgi).trans g0
  have hgi3 : g < w3.heap.size := Nat.lt_of_lt_of_le hgi b3.size
  obtain ⟨e0, e1⟩ := own2 H3.out.2.1
  clear b3 z2 k0 g0 hgi
  obtain ⟨G, hGA, r0⟩ := HLV.out w3 H3.out.1
  have hGi : G < w3.heap.size := by
    have := (H.out.wk.past H3.out.1).lt G (.inr (by rw [hGA]; rfl))
    exact this.2
  have x1 := fun q : Past w3 => (q.h.cell (p := ⟨w1.heap.size, 0, none⟩) H3.out.2.2.2.2).trans k1
  have x3 := fun q : Past w3 => (q.h.cell (p := ⟨G, p * 10, none⟩) hGi).trans r0
  rw [hGA] at g1 ⊢
  have x2 := fun q : Past w3 => (q.h.cell (p := ⟨g, 1, none⟩) hgi3).trans g1
  go_upto_region 7 with fail
  refine wp_region_past w3 (by kernel_rfl) (by kernel_rfl) (Below.refl _ _) ?_
  repeat (first | go_big_quiet_step (fail) | quiet_step (fail))
  refine wpQuiet_nil ?_
  intro wz hw'
  obtain ⟨⟨wy, hbz⟩, hw''⟩ := hw'
  dsimp only at hw''
  subst hw''
  have HZ3 := Lib.hid (And.intro (belows H3.out.1 hbz) (And.intro (H3.out.2.1.past hbz H3.out.2.1.inside) (H3.out.2.2.1.past hbz H3.out.2.2.1.inside)))
  have HW1 := Lib.hid H3.out.2.2.2.1
  have g1 := x2 ⟨wz, hbz⟩
  have k1 := (hbz.cell (p := ⟨w1.heap.size, 0, none⟩) H3.out.2.2.2.2).trans k1
  have hgi3 : g < wz.heap.size := Nat.lt_of_lt_of_le hgi3 hbz.size
  obtain ⟨e0, e1⟩ := own2 (H3.out.2.1.past hbz H3.out.2.1.inside)
  dsimp only at g1
  clear x2 hbz
  go_upto_region 8 with fail
  rw [← hGA] at g1 ⊢
  clear hGA r0 x1 x3 hGi
  have a2 : (wz.alloc (.cells #[.int .i64 (c : Int), .bool false, .slice b.sA b.f.length b.sc, .slice b.uA b.l.length b.uc, .slice none 0 0, .slice none 0 0, .int .i64 0, .int .i64 0, .slice none 0 0, .slice none 0 0] 65)).cell? ⟨g, 1, none⟩ = some (.slice s.lA s.L.length s.lc) := ((lvbox1 wz b (c : Int)).1.cell (p := ⟨g, 1, none⟩) hgi3).trans g1
  go_region_with (go_at_call 51; refine (y3 wz HZ3.out.1 _ (lvbox1 wz b (c : Int)).1 (lvbox1 wz b (c : Int)).2).out.mono ?_; rintro _ w4 ⟨A', c', rfl, hr, hg, hA⟩; have o2 := HMID.out wz w4 HZ3.out.1 hg; have s0 : w4.cell? ⟨g, 1, none⟩ = some (.slice s.lA s.L.length s.lc) := o2.at_ 1; have s1 : w4.frozen? ⟨g, 1, none⟩ = false := o2.open_ 1; have HF := Lib.hid (HFIN.out wz w4 A' c' HZ3.out.1 hr hg hA); clear hr hg hA o2)
  all_goals
    go_wp2_with fail
    go_ret
    exact HF.out
end Go.Proofs.YtenjlhlighkenaaGreat
namespace Go.Proofs.YtenjlhlighkenaaGreat
open Go Go.RowKit

set_option maxRecDepth 100000 in
set_option maxHeartbeats 12800000 in
theorem put_absent (base g : Nat) (s : Sp) (b : Bt) (w : World) (h : PutIn base g s b w) (hno : ∀ l ∈ s.L, l.cls ≠ (clsN b.l.length : Int)) :
    Calls Tryz.prog 22 #[.pointer (some ⟨g, 0, none⟩), b.val] w (PutNew base g s b w) := by
  obtain ⟨V, hV, hvb, hvs, hvo⟩ := btbox w b
  obtain ⟨c, hc⟩ : ∃ c : Nat, clsN b.l.length = c := ⟨_, rfl⟩
  have y1 := Lib.hid (class_any b.uA b.uc b.l.length V h.bok.l.n)
  rw [hc] at y1
  obtain ⟨d0, d1⟩ := own2 hvo
  have H := Lib.hid h
  have HB := Lib.hid (And.intro hvb hvo)
  have HC := Lib.hid hc
  have hcn : c ≤ 41 := by rw [← hc]; exact cls_pow (by have := h.bok.l.n; omega)
  have hpl := posC_le s.L (c : Int)
  have hfew := h.good.few h.wk.ok.each_
  have hlow : ∀ l ∈ s.L.drop (posC s.L (c : Int)), l.cls < (c : Int) := posC_after h.good.fall fun l hl e => hno l (List.mem_of_getElem? hl) (by rw [hc]; exact e)
  have HLOW := Lib.hid (And.intro (posC_before s.L (c : Int)) hlow)
  by_cases h0 : c = 0
  · rw [show b.val = .agg #[.slice b.sA b.f.length b.sc, .slice b.uA b.l.length b.uc] from rfl]
    have hn0 : b.l.length = 0 := cls_zero.1 (hc.trans h0)
    have HZ := Lib.hid hn0
    have t0 : ((c : Int) == 0) = true := by rw [h0]; rfl
    clear h hvb hvs hvo hc hno hpl hlow hfew hn0 h0
    go_enter Tryz.func22, Tryz.ntmps22
    go_upto_region 1 with fail
    rw [← hV]
    clear hV
    go_wp2_with fail
    refine y1.out.mono ?_
    rintro _ w1 ⟨rfl, b1⟩
    obtain ⟨V2, hV2, hs2, hb2, ho2⟩ := boxd w1 [.int .i64 (c : Int)] 3
    have b12 := belows b1 hb2
    have H2 := Lib.hid (And.intro (belows HB.out.1 b12) (And.intro (HB.out.2.past b12 HB.out.2.inside) (And.intro ho2 (show w.heap.size < w1.heap.size from Nat.lt_of_lt_of_le HB.out.2.inside b1.size))))
    have k0 : V2.cell? ⟨w1.heap.size, 0, none⟩ = some (.int .i64 (c : Int)) := ho2.at_ 0
    clear b1 hs2 hb2 ho2 y1 d0 d1 b12
    go_upto_region 2 with fail
    rw [← hV2]
    clear hV2
    go_wp2_with fail
    go_ret
    have hn : b.l = [] := List.eq_nil_of_length_eq_zero HZ.out
    exact ⟨rfl, KeptK.of_below H2.out.1 (Nat.le_refl _) _, s, ⟨H.out.wk.past H2.out.1, rfl, rfl, rfl, .inl rfl, by rw [hn]; exact PutTo.refl H.out.good 1 0, by rw [hn]; exact HasTo.refl _ _⟩, rfl⟩
  have hz : clsN b.l.length ≠ 0 := fun e => h0 (hc.symm.trans e)
  by_cases hq : posC s.L (clsN b.l.length : Int) = s.L.length
  · exact put_absent1 base g s b w h hno hz hq
  · exact put_absent2 base g s b w h hno hz hq
end Go.Proofs.YtenjlhlighkenaaGreat
namespace Go.Proofs.YtenjlhlighkenaaGreat
open Go Go.RowKit

theorem full_end {m m' : Mg} {c E : Int} (h : WorkOk m m' 9223372036854775807 c E) (hm : MOk m) (ok : ∀ u ∈ m.o, UOk u) (na : m.a.length ≤ 274877906944) (nb : m.b.length ≤ 274877906944) :
    E = 0 ∧ leftM m' = 0 ∧ EndOk m' ∨ E = 10 ∧ consE [advL m.f (partsM m)] = 10 := by
  obtain ⟨k, hk, mok, hsum, hE, _, _⟩ := work_gen h hm ok
  rcases hE with ⟨e, h1, _⟩ | e
  · refine .inl ⟨e, ?_⟩
    have hl : leftM m ≤ 549755813888 := by unfold leftM; omega
    have h0 : leftM m' = 0 := by
      rcases h1 with h1 | h1
      · exact h1
      · omega
    refine ⟨h0, mok, ?_, ?_⟩
    · have h2 := mok.da.lo
      have h3 := mok.da.hi
      unfold leftM at h0
      omega
    · have h2 := mok.db.lo
      have h3 := mok.db.hi
      unfold leftM at h0
      omega
  · exact .inr e
theorem put_both {base g p : Nat} {s s2 s3 : Sp} {b e : Bt} {w w5 w6 w7 : World} (hgood : SpGood s.f s.L) (ht : TookOut s.f s.L p e) (o2 : PutOut base g ⟨s.sA, s.sc, s.f, s.lA, s.lc, s.L.eraseIdx p⟩ b.l 1 b.l.length w5 w6 s2) (hw : w.heap.size ≤ w5.heap.size) (hw6 : w.heap.size ≤ w6.heap.size) (o3 : PutOut base g s2 e.l 1 e.l.length w6 w7 s3) (hbn : busyN s2.L = busyN (s.L.eraseIdx p)) : PutOut base g s b.l 1 b.l.length w w7 s3 := by
  refine ⟨o3.wk, o3.h1.trans o2.h1, o3.h2.trans o2.h2, o3.h3.trans o2.h3, ?_, ?_, ⟨fun hb hq => o3.has.old (by have := ht.busy; omega) _ (o2.has.new (by have := ht.busy; show busyN (s.L.eraseIdx p) ≤ 1; omega) hq), fun h0 => by have := ht.busy; omega, fun h => by
    have h3 := o3.has.fr
    rw [show s2.f = s.f from o2.h3] at h3
    exact h3 (o2.has.fr fun l hl hb => h l (List.mem_of_mem_eraseIdx hl) hb)⟩⟩
  · rcases o3.lA with h | ⟨q, h, hq⟩
    · rcases o2.lA with h' | ⟨q, h', hq⟩
      · exact .inl (h.trans h')
      · exact .inr ⟨q, h.trans h', by omega⟩
    · exact .inr ⟨q, h, by omega⟩
  · have e2 := o2.put
    have e3 := o3.put
    have hf : s2.f = s.f := o2.h3
    rw [hf] at e3
    have q1 : EqS s.f (partsS s3.L) (partsS s2.L ++ e.l) := e3.eq
    have q2 : EqS s.f (partsS s2.L) (partsS (s.L.eraseIdx p) ++ b.l) := e2.eq
    have q3 : EqS s.f (partsS (s.L.eraseIdx p) ++ e.l) (partsS s.L) := ht.eq
    have hb : chkUs b.l = 0 := (chkUs_parts q2.r).2
    have he : chkUs e.l = 0 := (chkUs_parts q1.r).2
    have q4 : EqS s.f (partsS s2.L ++ e.l) ((partsS (s.L.eraseIdx p) ++ b.l) ++ e.l) := q2.app (EqS.refl he)
    have q5 : EqS s.f ((partsS (s.L.eraseIdx p) ++ b.l) ++ e.l) ((partsS (s.L.eraseIdx p) ++ e.l) ++ b.l) := EqS.perm q4.r (by
      rw [List.append_assoc, List.append_assoc]
      exact List.Perm.append_left _ List.perm_append_comm)
    have q6 : EqS s.f ((partsS (s.L.eraseIdx p) ++ e.l) ++ b.l) (partsS s.L ++ b.l) := q3.app (EqS.refl hb)
    refine ⟨e3.good, ((q1.trans q4).trans q5).trans q6, ?_, ?_⟩
    · have c1 : cntS s3.L ≤ cntS s2.L + 1 := e3.cnt
      have c2 : cntS s2.L ≤ cntS (s.L.eraseIdx p) + 1 := e2.cnt
      have c3 := ht.cnt
      omega
    · have c1 : wtS s3.L ≤ wtS s2.L + e.l.length := e3.wt
      have c2 : wtS s2.L ≤ wtS (s.L.eraseIdx p) + b.l.length := e2.wt
      have c3 := ht.wt
      omega
theorem first_in {base g p : Nat} {s : Sp} {b e : Bt} {w w4 : World} (h : PutIn base g s b w) (ht : TookOut s.f s.L p e) (hk : KeptK w w4 (SpS g s.lA)) (hwk : Wk w4 base g ⟨s.sA, s.sc, s.f, s.lA, s.lc, s.L.eraseIdx p⟩) : PutIn base g ⟨s.sA, s.sc, s.f, s.lA, s.lc, s.L.eraseIdx p⟩ b w4 :=
  ⟨hwk, ht.good, bt_kept h.bin h.boff hk, h.bok, h.boff, h.blo, h.right, h.later, by have h1 := ht.wt; have h2 := h.wt; show wtS (s.L.eraseIdx p) + b.l.length ≤ _; omega⟩
theorem second_in {base g p : Nat} {s s2 : Sp} {b e : Bt} {w w5 w6 : World} (h : PutIn base g s b w) (ht : TookOut s.f s.L p e) (o2 : PutOut base g ⟨s.sA, s.sc, s.f, s.lA, s.lc, s.L.eraseIdx p⟩ b.l 1 b.l.length w5 w6 s2) (hk : KeptK w5 w6 (SpS g s.lA)) (he : BtIn w5 w5.heap.size e) (eo : BtOk e) (ef : OfB (SpS g s.lA) e) (elo : BtLo base e) : PutIn base g s2 e w6 := by
  have hf : s2.f = s.f := o2.h3
  refine ⟨o2.wk, ?_, bt_kept he ef hk, eo, ?_, elo, ht.ok, ?_, ?_⟩
  · have := o2.put.good
    rw [hf]; exact this
  · refine (ef.or (bt_in he)).less fun k hk => ?_
    rcases hk with hk | hk
    · exact .inl (.inl hk)
    · rcases o2.lA with h' | ⟨q, h', hq⟩
      · exact .inl (.inr (by rw [← h']; exact hk))
      · rw [h'] at hk
        injection hk with hk
        exact .inr (by omega)
  · rw [hf]; exact ht.later
  · have c2 : wtS s2.L ≤ wtS (s.L.eraseIdx p) + b.l.length := o2.put.wt
    have c3 := ht.wt
    have c4 := h.wt
    omega
theorem spS_trans {g : Nat} {A A' : Option Addr} {w : World} (h : blkS A' = blkS A ∨ ∃ q, blkS A' = some q ∧ w.heap.size ≤ q) : ∀ b, b < w.heap.size → SpS g A' b → SpS g A b := fun b hb hs => by
  rcases hs with hs | hs
  · exact .inl hs
  · rcases h with h | ⟨q, h, hq⟩
    · exact .inr (by rw [← h]; exact hs)
    · rw [h] at hs
      injection hs with hs
      omega
theorem busy_pos {L : List Lv} {l : Lv} (h : l ∈ L) (hb : l.busy = true) : 0 < busyN L := by
  unfold busyN
  exact List.length_pos_of_mem (List.mem_filter.2 ⟨h, hb⟩)
theorem put_there {base g : Nat} {s : Sp} {b : Bt} {w : World} (h : PutIn base g s b w) (hno : ¬ ∀ l ∈ s.L, l.cls ≠ (clsN b.l.length : Int)) : ∃ l, s.L[posC s.L (clsN b.l.length : Int)]? = some l ∧ l.cls = (clsN b.l.length : Int) := by
  obtain ⟨l, hl⟩ : ∃ l, l ∈ s.L ∧ l.cls = (clsN b.l.length : Int) := by
    by_cases hx : ∃ l, l ∈ s.L ∧ l.cls = (clsN b.l.length : Int)
    · exact hx
    · exact absurd (fun l hl e => hx ⟨l, hl, e⟩) hno
  obtain ⟨i, hi⟩ := List.getElem?_of_mem hl.1
  have e : posC s.L (clsN b.l.length : Int) = i := by
    refine posC_is (fun x hx => ?_) hi (by omega)
    have h1 := h.good.fall
    have h2 := split_at' hi
    rw [h2] at h1
    have h3 := (List.pairwise_append.1 h1).2.2 x hx l List.mem_cons_self
    omega
  exact ⟨l, by rw [e]; exact hi, hl.2⟩
end Go.Proofs.YtenjlhlighkenaaGreat
namespace Go.Proofs.YtenjlhlighkenaaGreat
open Go Go.RowKit

set_option maxRecDepth 100000 in
set_option maxHeartbeats 12800000 in
theorem put_busy (n base g : Nat) (s : Sp) (b : Bt) (l : Lv) (w : World) (h : PutIn base g s b w) (hl : s.L[posC s.L (clsN b.l.length : Int)]? = some l) (hcl : l.cls = (clsN b.l.length : Int)) (hbusy : l.busy = true) (hn : busyN s.L ≤ n + 1)
    (IH : ∀ (s : Sp) (b : Bt) (w : World), PutIn base g s b w → busyN s.L ≤ n → Calls Tryz.prog 22 #[.pointer (some ⟨g, 0, none⟩), b.val] w (PutSays base g s b w)) :
    Calls Tryz.prog 22 #[.pointer (some ⟨g, 0, none⟩), b.val] w (PutSays base g s b w) := by
  have HIH := Lib.hid IH
  have HBN := Lib.hid hn
  have HBU := Lib.hid hbusy
  obtain ⟨V, hV, hvb, hvs, hvo⟩ := btbox w b
  obtain ⟨c, hc⟩ : ∃ c : Nat, clsN b.l.length = c := ⟨_, rfl⟩
  have y1 := Lib.hid (class_any b.uA b.uc b.l.length V h.bok.l.n)
  rw [hc] at y1
  obtain ⟨d0, d1⟩ := own2 hvo
  have H := Lib.hid h
  have HB := Lib.hid (And.intro hvb hvo)
  have HC := Lib.hid hc
  have hcn : c ≤ 41 := by rw [← hc]; exact cls_pow (by have := h.bok.l.n; omega)
  have hpl := posC_le s.L (c : Int)
  have hfew := h.good.few h.wk.ok.each_
  obtain ⟨p, hp⟩ : ∃ p : Nat, posC s.L (c : Int) = p := ⟨_, rfl⟩
  rw [hc] at hl hcl
  rw [hp] at hl hpl
  have hplt : p < s.L.length := (List.getElem?_eq_some_iff.1 hl).1
  have hn0 : c ≠ 0 := by have := h.good.pos l (List.mem_of_getElem? hl); omega
  have t0 : ((c : Int) == 0) = false := beq_eq_false_iff_ne.2 (by omega)
  have hpi : posI s.L (c : Int) = (p : Int) := by unfold posI; rw [hp, if_neg (by omega)]
  have y2 := fun (V2 : World) (bx : Nat) (hb : Below w.heap.size w V2) (hk : Kin V2 bx (c : Int)) => Lib.hid (indexS_any s.lA s.lc s.L bx (c : Int) V2 (h.wk.past hb).lies.head h.wk.ok.n hk)
  rw [hpi] at y2
  have t1 : ((p : Int) == (s.L.length : Int)) = false := beq_eq_false_iff_ne.2 (by omega)
  have t2 : decide (l.cls < (c : Int)) = false := decide_eq_false (by omega)
  have q0 : ¬ ((p : Int) < 0) := by omega
  have q1 : (0 : Int) ≤ (p : Int) := by omega
  have q2 : (p : Int) < (s.L.length : Int) := by omega
  obtain ⟨G, hGA⟩ : ∃ G : Nat, s.lA = some ⟨G, 0, none⟩ := by
    rcases row_ownK h.wk.row with ⟨_, h9, _⟩ | ⟨G, cur, hA, _⟩
    · omega
    · exact ⟨G, hA⟩
  have hGi : G < w.heap.size := (h.wk.lt G (.inr (by rw [hGA]; rfl))).2
  have HLV := Lib.hid (show ∀ W, Below w.heap.size w W → (∀ (j : Nat) (u : Value), l.cells[j]? = some u → W.cell? ⟨G, p * 10 + j, none⟩ = some u) from fun W hb j u hj => by
    have hW := h.wk.past hb
    obtain ⟨b', o', e, _, hcell⟩ := hW.lies.head (by omega)
    rw [hGA] at e
    simp only [Option.some.injEq, Addr.mk.injEq, and_true] at e
    obtain ⟨rfl, rfl⟩ := e
    have := hcell p l hl j u hj
    rwa [Nat.zero_add] at this)
  have HGA := Lib.hid hGA
  have HIDX := Lib.hid (And.intro hl (And.intro hcl hplt))
  have hLn := h.wk.ok.n
  rw [hGA] at y2
  rw [show b.val = .agg #[.slice b.sA b.f.length b.sc, .slice b.uA b.l.length b.uc] from rfl]
  clear h hvb hvs hvo hc hp hpi hpl hl hcl hplt hfew hn0 hGA
  clear IH hn
  go_enter Tryz.func22, Tryz.ntmps22
  go_upto_region 1 with fail
  rw [← hV]
  clear hV
  go_wp2_with fail
  refine y1.out.mono ?_
  rintro _ w1 ⟨rfl, b1⟩
  obtain ⟨V2, hV2, hs2, hb2, ho2⟩ := boxd w1 [.int .i64 (c : Int)] 3
  have b12 := belows b1 hb2
  have H2 := Lib.hid (And.intro (belows HB.out.1 b12) (And.intro (HB.out.2.past b12 HB.out.2.inside) (And.intro ho2 (show w.heap.size < w1.heap.size from Nat.lt_of_lt_of_le HB.out.2.inside b1.size))))
  have k0 : V2.cell? ⟨w1.heap.size, 0, none⟩ = some (.int .i64 (c : Int)) := ho2.at_ 0
  clear b1 hs2 hb2 ho2 y1 d0 d1 b12
  go_upto_region 2 with fail
  rw [← hV2]
  clear hV2
  have g0 : V2.cell? ⟨g, 1, none⟩ = some (.slice (some ⟨G, 0, none⟩) s.L.length s.lc) := by rw [← HGA.out]; exact (H.out.wk.past H2.out.1).own.at_ 1
  have hgi : g < V2.heap.size := (H.out.wk.past H2.out.1).own.inside
  have z2 := y2 V2 w1.heap.size H2.out.1 ⟨k0, H2.out.2.2.1.inside⟩
  go_wp2_with fail
  refine z2.out.mono ?_
  rintro _ w3 ⟨rfl, b3⟩
  have H3 := Lib.hid (And.intro (belows H2.out.1 b3) (And.intro (H2.out.2.1.past b3 H2.out.2.1.inside) (And.intro (H2.out.2.2.1.past b3 H2.out.2.2.1.inside) (And.intro H2.out.2.2.2 (Nat.lt_of_lt_of_le H2.out.2.2.1.inside b3.size)))))
  have k1 : w3.cell? ⟨w1.heap.size, 0, none⟩ = some (.int .i64 (c : Int)) := (b3.cell (p := ⟨w1.heap.size, 0, none⟩) H2.out.2.2.1.inside).trans k0
  have g1 : w3.cell? ⟨g, 1, none⟩ = some (.slice (some ⟨G, 0, none⟩) s.L.length s.lc) := (b3.cell (p := ⟨g, 1, none⟩) hgi).trans g0
  have hgi3 : g < w3.heap.size := Nat.lt_of_lt_of_le hgi b3.size
  obtain ⟨e0, e1⟩ := own2 H3.out.2.1
  clear b3 z2 k0 g0 hgi
  have hGi3 : G < w3.heap.size := Nat.lt_of_lt_of_le hGi H3.out.1.size
  have x1 := fun q : Past w3 => (q.h.cell (p := ⟨w1.heap.size, 0, none⟩) H3.out.2.2.2.2).trans k1
  have x3 := fun q : Past w3 => HLV.out q.w (belows H3.out.1 q.h) 0 _ rfl
  simp only [Nat.add_zero] at x3
  have x2 := fun q : Past w3 => (q.h.cell (p := ⟨g, 1, none⟩) hgi3).trans g1
  go_upto_region 7 with fail
  refine wp_region_past w3 (by kernel_rfl) (by kernel_rfl) (Below.refl _ _) ?_
  repeat (first | go_big_quiet_step (fail) | quiet_step (fail))
  refine wpQuiet_nil ?_
  intro wz hw'
  obtain ⟨⟨wy, hbz⟩, hw''⟩ := hw'
  dsimp only at hw''
  subst hw''
  have HZ3 := Lib.hid (And.intro (belows H3.out.1 hbz) (And.intro (H3.out.2.1.past hbz H3.out.2.1.inside) (H3.out.2.2.1.past hbz H3.out.2.2.1.inside)))
  have HW1 := Lib.hid H3.out.2.2.2.1
  have g1 := x2 ⟨wz, hbz⟩
  have k1 := (hbz.cell (p := ⟨w1.heap.size, 0, none⟩) H3.out.2.2.2.2).trans k1
  have hgi3 : g < wz.heap.size := Nat.lt_of_lt_of_le hgi3 hbz.size
  obtain ⟨e0, e1⟩ := own2 (H3.out.2.1.past hbz H3.out.2.1.inside)
  dsimp only at g1
  clear x1 x2 x3 hbz hGi3
  go_upto_region 10 with fail
  obtain ⟨r0, r1, r2, r3, r4, r5, r6, r7, r8, r9⟩ := lv_ten (HLV.out wz HZ3.out.1)
  have hGz : G < wz.heap.size := Nat.lt_of_lt_of_le hGi HZ3.out.1.size
  obtain ⟨V5, hV5, hb5, hs5, ho5⟩ := lvbox wz l
  obtain ⟨f0, f1, f2, f3, f4, f5, f6, f7, f8, f9⟩ := own10 ho5
  have H5 := Lib.hid (And.intro (belows HZ3.out.1 hb5) (And.intro (HZ3.out.2.1.past hb5 HZ3.out.2.1.inside) (And.intro ho5 trivial)))
  rw [hbusy] at r1 f1 hV5
  go_upto_region 11 with fail
  rw [← hV5]
  clear hV5 r0 r1 r2 r3 r4 r5 r6 r7 r8 r9 e0 e1 g1 k1 hgi3
  have hwk5 := H.out.wk.past H5.out.1
  have hLl := List.mem_of_getElem? HIDX.out.1
  have hgd := (H.out.good.each l hLl).busy hbusy
  have hlv := hwk5.lev l hLl
  have hlo := hwk5.ok.each_ l hLl
  have hwt := H.out.wt
  have hwl := wt_le hLl
  have hwtl : wtL l = max (l.m.a.length + l.m.b.length) (partsM l.m).length := by unfold wtL; rw [if_pos hbusy]
  have hpo : l.m.o.length ≤ (partsM l.m).length := by unfold partsM; rw [List.length_append, List.length_append]; omega
  have na : l.m.a.length ≤ 274877906944 := by omega
  have nb : l.m.b.length ≤ 274877906944 := by omega
  have no : l.m.o.length ≤ 274877906944 := by omega
  have z := Lib.hid (work_any l.m 9223372036854775807 V5 hlv.m hlo.m na nb no)
  have HK5 := Lib.hid (And.intro hgd (And.intro hlo (And.intro na (And.intro nb no))))
  obtain ⟨r0, r1, r2, r3, r4, r5, r6, r7, r8, r9⟩ := lv_ten (HLV.out V5 H5.out.1)
  have g1 : V5.cell? ⟨g, 1, none⟩ = some (.slice (some ⟨G, 0, none⟩) s.L.length s.lc) := by rw [← HGA.out]; exact hwk5.own.at_ 1
  unfold Mg.val at z
  clear hwk5 hLl hgd hlv hlo hwt hwl hwtl hpo na nb no f0 f2 f3 f4 f5 f6 f7 f8 f9 hb5 ho5 hs5
  go_wp2_with fail
  refine z.out.mono ?_
  rintro _ w6 ⟨m', cc, E, rfl, hw, im, om, lm, b6⟩
  have hwork : WorkOk l.m m' 9223372036854775807 cc E := by
    rcases hw with ⟨h1, _⟩ | ⟨_, h1⟩
    · exact absurd HK5.out.1.2.2.1 h1
    · exact h1
  have hfe := full_end hwork HK5.out.1.2.2.1 HK5.out.2.1.m.o.ok HK5.out.2.2.1 HK5.out.2.2.2.1
  obtain ⟨V6, hV6, hb6, hs6, ho6⟩ := mgbox w6 m'
  have b66 := belows b6 hb6
  have H6 := Lib.hid (And.intro (belows H5.out.1 b66) (And.intro (H5.out.2.1.past b66 H5.out.2.1.inside) (And.intro ho6 (And.intro (im.keep hb6) (And.intro om (And.intro hwork (And.intro hs6 lm)))))))
  obtain ⟨d0, d1, d2, d3, d4, d5⟩ := own6 ho6
  unfold Mg.val
  clear hw im om lm b6 b66 hb6 hs6 ho6 hwork r0 r1 r2 r3 r4 r5 r6 r7 r8 r9 g1 z f1
  go_upto_region 16 with fail
  rw [← hV6]
  clear hV6
  by_cases hE : E = 0
  case neg =>
    have tE : (E != 0) = true := bne_iff_ne.2 hE
    have HE := Lib.hid (show E = 10 ∧ FailS s.L from by
      rcases hfe with ⟨h1, _⟩ | h1
      · exact absurd h1 hE
      · exact ⟨h1.1, by have := busy_pos (List.mem_of_getElem? HIDX.out.1) HBU.out; omega, fun _ => ⟨l, List.mem_of_getElem? HIDX.out.1, HBU.out, h1.2⟩⟩)
    clear hfe hE
    go_wp2_with fail
    go_ret
    exact ⟨E, rfl, KeptK.of_below H6.out.1 (Nat.le_refl _) _, .inr HE.out⟩
  subst hE
  have hfe2 : leftM m' = 0 ∧ EndOk m' := by
    rcases hfe with ⟨_, h1⟩ | h1
    · exact h1
    · exact absurd h1.1 (by decide)
  have hpo : m'.o.length ≤ 274877906944 := by
    obtain ⟨k, _, _, _, _, _, hlen⟩ := work_gen H6.out.2.2.2.2.2.1 HK5.out.1.2.2.1 HK5.out.2.1.m.o.ok
    have hwl := wt_le (List.mem_of_getElem? HIDX.out.1)
    have hwt := H.out.wt
    have hwtl : wtL l = max (l.m.a.length + l.m.b.length) (partsM l.m).length := by unfold wtL; rw [if_pos hbusy]
    have hp2 : m'.o.length ≤ (partsM m').length := by unfold partsM; rw [List.length_append, List.length_append]; omega
    omega
  have hof : OfM (SpS g s.lA) m' := H6.out.2.2.2.2.2.2.2.of fun k hk => ((H.out.wk.past H5.out.1).lt k hk).2
  have z := Lib.hid (ends_any base g p s m' V6 (H.out.wk.past H6.out.1) HIDX.out.2.2 H6.out.2.2.2.1 H6.out.2.2.2.2.1 hof hpo hfe2.2)
  have HF := Lib.hid hfe2
  unfold Mg.val at z
  clear hfe hfe2 hpo hof
  go_wp2_with fail
  refine z.out.mono ?_
  rintro _ w7 ⟨e, rfl, hwk7, hk7, hef, hel, ie, oe, le⟩
  have ht : TookOut s.f s.L p e := take_out H.out.good HIDX.out.1 HBU.out HK5.out.2.1.m.o.ok H6.out.2.2.2.2.2.1 rfl HF.out.1 hef hel
  have hkw : KeptK w w7 (SpS g s.lA) := (KeptK.of_below H6.out.1 (Nat.le_refl _) (SpS g s.lA)).trans hk7 (fun _ _ e => e)
  obtain ⟨V7, hV7, hb7, hs7, ho7⟩ := btbox w7 e
  have hin := (first_in (H.out) ht hkw hwk7).past hb7
  have hab : ∀ x ∈ s.L.eraseIdx p, x.cls ≠ (clsN b.l.length : Int) := fun x hx => by
    rw [HC.out]
    have h1 := H.out.good.fall
    have h2 := split_at' HIDX.out.1
    rw [h2] at h1
    have h3 := List.pairwise_append.1 h1
    rw [List.eraseIdx_eq_take_drop_succ] at hx
    have h4 := HIDX.out.2.1
    rcases List.mem_append.1 hx with hx | hx
    · have := h3.2.2 x hx l List.mem_cons_self; omega
    · have := (List.pairwise_cons.1 h3.2.1).1 x hx; omega
  have z2 := Lib.hid (put_absent base g _ b V7 hin hab)
  have ob7 := hk7.own H6.out.2.1 (fun hs => by have := ((H.out.wk).lt _ hs).2; omega)
  have ob8 := ob7.past hb7 ob7.inside
  obtain ⟨e0, e1⟩ := own2 ob8
  have H7 := Lib.hid (And.intro hkw (And.intro ht (And.intro (ie.keep hb7) (And.intro oe (And.intro (le.of (fun k hk => ((H.out.wk.past H6.out.1).lt k hk).2) : OfB (SpS g s.lA) e) (And.intro ho7 (And.intro hb7 (Nat.le_trans H6.out.1.size (hk7.size)))))))))
  have HLE := Lib.hid (le.mono (Nat.le_trans H.out.wk.base_ H6.out.1.size) : BtLo base e)
  unfold Bt.val at z2 ⊢
  clear hwk7 hk7 hef hel ie oe le ht hkw hb7 hs7 ho7 hin hab ob7 ob8 d0 d1 d2 d3 d4 d5 z
  go_upto_region 19 with fail
  rw [← hV7]
  clear hV7
  go_wp2_with fail
  refine z2.out.mono ?_
  rintro _ w8 ⟨rfl, hk8, s2, o2, hbn⟩
  have hin2 := second_in H.out H7.out.2.1 o2 hk8 H7.out.2.2.1 H7.out.2.2.2.1 H7.out.2.2.2.2.1 HLE.out
  have z3 := Lib.hid (HIH.out s2 e w8 hin2 (by have h1 := H7.out.2.1.busy; have h2 := HBN.out; rw [hbn]; show busyN (s.L.eraseIdx p) ≤ n; omega))
  have oe8 := hk8.own H7.out.2.2.2.2.2.1 (fun hs => by have := ((H.out.wk).lt _ hs).2; have := H7.out.2.2.2.2.2.2.2; omega)
  obtain ⟨d0, d1⟩ := own2 oe8
  have H8 := Lib.hid (And.intro o2 (And.intro hk8 hbn))
  unfold Bt.val at z3
  clear hk8 o2 hbn hin2 oe8 e0 e1 z2
  go_wp2_with fail
  refine z3.out.mono ?_
  rintro _ w9 ⟨E9, rfl, hk9, h9⟩
  have hw7 := H7.out.2.2.2.2.2.2.2
  have hw8 : w.heap.size ≤ w8.heap.size := Nat.le_trans (Nat.le_trans hw7 H7.out.2.2.2.2.2.2.1.size) H8.out.2.1.size
  have hk07 : KeptK w V7 (SpS g s.lA) := H7.out.1.trans (KeptK.of_below H7.out.2.2.2.2.2.2.1 (Nat.le_refl _) (SpS g s.lA)) (fun _ _ e => e)
  have hk08 : KeptK w w8 (SpS g s.lA) := hk07.trans H8.out.2.1 (fun _ _ e => e)
  have hlA : blkS s2.lA = blkS s.lA ∨ ∃ q, blkS s2.lA = some q ∧ w.heap.size ≤ q := by
    rcases H8.out.1.lA with h' | ⟨q, h', hq⟩
    · exact .inl h'
    · exact .inr ⟨q, h', Nat.le_trans (Nat.le_trans hw7 H7.out.2.2.2.2.2.2.1.size) hq⟩
  have hk09 : KeptK w w9 (SpS g s.lA) := hk08.trans hk9 (spS_trans hlA)
  have HZ := Lib.hid (show PutSays base g s b w (.returned (.int .i64 E9)) w9 from ⟨E9, rfl, hk09, by
    rcases h9 with ⟨h1, s3, o3⟩ | h1
    · exact .inl ⟨h1, s3, put_both H.out.good H7.out.2.1 H8.out.1 (Nat.le_trans hw7 H7.out.2.2.2.2.2.2.1.size) hw8 o3 H8.out.2.2⟩
    · exact .inr ⟨h1.1, by have := H7.out.2.1.busy; omega, fun hb1 => by have h2 := H7.out.2.1.busy; have h3 := H8.out.2.2; have h4 := h1.2.1; rw [h3] at h4; have h5 : busyN (s.L.eraseIdx p) ≠ 0 := h4; omega⟩⟩)
  clear hk9 h9 hw7 hw8 hk07 hk08 hlA hk09 d0 d1 z3
  go_wp2_with fail
  go_ret
  exact HZ.out
theorem put_any (base g : Nat) : ∀ (n : Nat) (s : Sp) (b : Bt) (w : World), PutIn base g s b w → busyN s.L ≤ n → Calls Tryz.prog 22 #[.pointer (some ⟨g, 0, none⟩), b.val] w (PutSays base g s b w) := by
  intro n
  induction n with
  | zero =>
    intro s b w h hn
    by_cases hno : ∀ l ∈ s.L, l.cls ≠ (clsN b.l.length : Int)
    · exact (put_absent base g s b w h hno).mono fun _ _ k => k.says
    · obtain ⟨l, hl, hcl⟩ := put_there h hno
      refine put_idle base g s b l w h hl hcl ?_
      cases hb : l.busy
      · rfl
      · have := busy_pos (List.mem_of_getElem? hl) hb; omega
  | succ n ih =>
    intro s b w h hn
    by_cases hno : ∀ l ∈ s.L, l.cls ≠ (clsN b.l.length : Int)
    · exact (put_absent base g s b w h hno).mono fun _ _ k => k.says
    · obtain ⟨l, hl, hcl⟩ := put_there h hno
      cases hb : l.busy
      · exact put_idle base g s b l w h hl hcl hb
      · exact put_busy n base g s b l w h hl hcl hb hn ih
end Go.Proofs.YtenjlhlighkenaaGreat
namespace Go.Proofs.YtenjlhlighkenaaGreat
open Go Go.RowKit

set_option maxRecDepth 100000 in
set_option maxHeartbeats 3200000 in
theorem listS_any (A : Option Addr) (c : Nat) (l : List Lv) (w : World) (hl : Lies 10 Lv.cells w w.heap.size A l) (hn : l.length * 176 ≤ 140737488355328) :
    Calls Tryz.prog 41 #[.slice A l.length c] w fun x w' => ∃ A', x = .returned (.slice A' l.length l.length) ∧ (l = [] → A' = none ∧ w' = w) ∧ (0 < l.length → A' = some ⟨w.heap.size, 0, none⟩ ∧ Own w' w.heap.size 65 (l.flatMap Lv.cells)) ∧ Below w.heap.size w w' := by
  obtain ⟨i0, hi, hz0, hz1, hz2⟩ := info_parts infoLv
  have hU := Tryz.underlying29
  have hsz1 : (Tryz.prog.info? 65).map (·.size) = some 10 := by rw [hi]; simp [hz1]
  cases l with
  | nil =>
    clear hl hn hi hz0 hz1 hz2 hU hsz1
    go_enter Tryz.func41, Tryz.ntmps41
    go_wp2_with fail
    go_ret
    exact ⟨none, rfl, fun _ => ⟨rfl, rfl⟩, fun h => absurd h (by simp), Below.refl _ _⟩
  | cons t l =>
    obtain ⟨b, o, rfl, hB, hc⟩ := hl (by simp)
    obtain ⟨m, hm⟩ : ∃ m, m = t :: l := ⟨_, rfl⟩
    have hpos : 0 < m.length := by rw [hm]; simp
    have hne : m ≠ [] := by rw [hm]; simp
    rw [← hm] at hc hn ⊢
    have t1 : ((m.length : Int) == 0) = false := beq_eq_false_iff_ne.2 (by omega)
    have HC := Lib.hid hc
    have HNE := Lib.hid hne
    clear hc hm hl hne
    go_enter Tryz.func41, Tryz.ntmps41
    go_wp2_with (refine wpList_make_full _ rfl (.tmp 8) (.tmp 8) 29 rfl w.heap.size 65 i0 _ 10 hU hi hz0 hz1 .i64 .i64 _ _ m.length rfl rfl rfl rfl ?c1 ?c2 ?c3 ?_)
    case c1 => rw [hz2]; omega
    case c2 => unfold maxLen; omega
    case c3 => exact Nat.le_refl _
    intro w1 ho1 hg1
    obtain ⟨cur, ho1⟩ : ∃ cur, w1.ownsRow w.heap.size 65 10 (.slice (some ⟨w.heap.size, 0, none⟩) m.length m.length) m.length cur := ⟨_, ho1⟩
    have hm1 := own_made ho1
    have hb1 : Below w.heap.size w w1 := (Below.refl _ _).grown hg1 (Nat.le_refl _) (fun k h => by cases h)
    have hlen1 : cur.length = m.length * 10 := ho1.1
    have hcl : (m.flatMap Lv.cells).length = m.length * 10 := flat_size (size := 10) (cells := Lv.cells) (fun _ => rfl) m
    have hsrc : ∀ j v, (m.flatMap Lv.cells)[j]? = some v → w1.cell? ((⟨b, o, none⟩ : Addr).add j) = some v := fun j v hv => by
      obtain ⟨i, r, x, rfl, hx, hr⟩ := flat_back (size := 10) (cells := Lv.cells) (by decide) (fun _ => rfl) m j v hv
      have ea : (⟨b, o, none⟩ : Addr).add (i * 10 + r) = ⟨b, o + i * 10 + r, none⟩ := by unfold Addr.add; split <;> simp_all <;> omega
      rw [ea, hb1.cell (p := ⟨b, o + i * 10 + r, none⟩) hB]
      exact HC.out i x hx r v hr
    have hrun := fun ty => run_copy_all (P := Tryz.prog) w1 29 29 ty 65 w.heap.size m.length m.length c 10 ⟨b, o, none⟩ cur (m.flatMap Lv.cells) 65 hU hsz1 hm1 hcl hsrc (by rw [hcl, hlen1]) (fun v hv => by
      obtain ⟨x, _, hx⟩ := List.mem_flatMap.1 hv
      exact lcells_one x v hx)
    have ho2 : Own (w1.setRow w.heap.size (m.flatMap Lv.cells).toArray) w.heap.size 65 (m.flatMap Lv.cells) := own_setRow hm1
    have hb2 : Below w.heap.size w (w1.setRow w.heap.size (m.flatMap Lv.cells).toArray) := below_setRow hb1 (Nat.le_refl _) _
    have HR := Lib.hid hrun
    obtain ⟨w2, hw2⟩ : ∃ w2, w2 = w1.setRow w.heap.size (m.flatMap Lv.cells).toArray := ⟨_, rfl⟩
    rw [← hw2] at HR ho2 hb2
    have H2 := Lib.hid (And.intro ho2 hb2)
    clear hw2 hrun ho2 hb2 hsrc hcl hm1 hb1 hlen1 ho1 hg1 hU hsz1 hi hz0 hz1 hz2
    go_wp2_with (refine Lib.wpList_copy_run _ rfl _ _ 29 29 rfl _ _ rfl rfl (HR.out _) ?_)
    go_wp2_with fail
    go_ret
    exact ⟨_, rfl, fun h => absurd h HNE.out, fun _ => ⟨rfl, H2.out.1⟩, H2.out.2⟩

end Go.Proofs.YtenjlhlighkenaaGreat
