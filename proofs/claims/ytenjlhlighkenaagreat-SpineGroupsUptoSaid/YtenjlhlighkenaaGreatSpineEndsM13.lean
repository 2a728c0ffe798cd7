/- Part 13 of the texts on which SpineEnds rests: facts and contracts. -/
import Derived.Test.YtenjlhlighkenaaGreatSpineEndsM12
namespace Go.Proofs.YtenjlhlighkenaaGreat
open Go Go.RowKit

theorem right_anyS (l : Lv) (A : Option Addr) (c : Nat) (f : List Tm) (w : World) (hl : LvIn w w.heap.size l) (ol : LvOk l) (hf : Times w w.heap.size A f) (hfo : TsOk f c) :
    Calls Tryz.prog 28 #[l.val, .slice A f.length c] w (Tells (LvGood f l) w) := by
  obtain ⟨cl, bu, b, m⟩ := l
  cases bu
  · exact rightI_any cl b m A c f w hl ol hf hfo
  · exact rightB_any cl b m A c f w hl ol hf hfo
theorem spbox (w : World) (s : Sp) : ∃ W, W = w.alloc (.cells #[.slice s.sA s.f.length s.sc, .slice s.lA s.L.length s.lc] 31) ∧ Below w.heap.size w W ∧ W.heap.size = w.heap.size + 1 ∧ Own W w.heap.size 31 s.cells :=
  ⟨_, rfl, (Below.refl _ _).alloc (Nat.le_refl _) _, by simp, Own.made w 31 s.cells⟩
theorem good_next {f : List Tm} {L : List Lv} {k : Nat} {l : Lv} (hl : L[k]? = some l) (h : SpGood f (L.take k)) (h1 : 1 ≤ l.cls) (h2 : ∀ l0, 0 < k → L[k - 1]? = some l0 → l.cls < l0.cls) (h3 : LvGood f l) : SpGood f (L.take (k + 1)) := by
  have e : L.take (k + 1) = L.take k ++ [l] := by rw [List.take_add_one, hl]; rfl
  rw [e]
  refine ⟨h.front, fun x hx => ?_, ?_, fun x hx => ?_⟩
  · rcases List.mem_append.1 hx with hx | hx
    · exact h.pos x hx
    · obtain rfl : x = l := by simpa using hx
      exact h1
  · refine List.pairwise_append.2 ⟨h.fall, List.pairwise_singleton _ _, fun x hx y hy => ?_⟩
    obtain rfl : y = l := by simpa using hy
    have hk : 0 < (L.take k).length := List.length_pos_of_mem hx
    rw [List.length_take] at hk
    have hlt := (List.getElem?_eq_some_iff.1 hl).1
    obtain ⟨l0, hl0⟩ : ∃ l0, L[k - 1]? = some l0 := ⟨_, List.getElem?_eq_getElem (by omega)⟩
    have h4 := h2 l0 (by omega) hl0
    obtain ⟨i, hi⟩ := List.getElem?_of_mem hx
    have hik := (List.getElem?_eq_some_iff.1 hi).1
    rw [List.length_take] at hik
    by_cases e1 : i = k - 1
    · subst e1
      rw [List.getElem?_take_of_lt (by omega), hl0] at hi
      injection hi with hi
      rw [← hi]; exact h4
    · have hp := List.pairwise_iff_getElem.1 h.fall i (k - 1) (by rw [List.length_take]; omega) (by rw [List.length_take]; omega) (by omega)
      have a1 : (L.take k)[i]'(by rw [List.length_take]; omega) = x := (List.getElem?_eq_some_iff.1 hi).2
      have a2 : (L.take k)[k - 1]'(by rw [List.length_take]; omega) = l0 := by
        rw [List.getElem_take]
        exact (List.getElem?_eq_some_iff.1 hl0).2
      rw [a1, a2] at hp
      omega
  · rcases List.mem_append.1 hx with hx | hx
    · exact h.each x hx
    · obtain rfl : x = l := by simpa using hx
      exact h3
theorem good_prev {f : List Tm} {L : List Lv} {k : Nat} {l l0 : Lv} (h : SpGood f L) (hk : 0 < k) (hl : L[k]? = some l) (hl0 : L[k - 1]? = some l0) : l.cls < l0.cls := by
  have h1 := List.getElem?_eq_some_iff.1 hl
  have h2 := List.getElem?_eq_some_iff.1 hl0
  rw [← h1.2, ← h2.2]
  exact List.pairwise_iff_getElem.1 h.fall (k - 1) k h2.1 h1.1 (by omega)
set_option maxRecDepth 100000 in
set_option maxHeartbeats 25600000 in
theorem scheck_any (s : Sp) (w : World) (hs : SpIn w w.heap.size s) (ok : SpOk s) :
    Calls Tryz.prog 11 #[s.val] w (Codes (SpGood s.f s.L) 8 w) := by
  obtain ⟨V, hV, hvb, hvs, hvo⟩ := spbox w s
  have hin := hs.keep hvb
  have y1 := Lib.hid (frontier_anyS s.sA s.sc s.f V hin.since ok.f)
  have H := Lib.hid (And.intro hin (And.intro ok (And.intro hvb hvo)))
  obtain ⟨d0, d1⟩ := own2 hvo
  have hn := ok.n
  rw [show s.val = .agg #[.slice s.sA s.f.length s.sc, .slice s.lA s.L.length s.lc] from rfl]
  clear hs ok hvb hvs hvo hin
  go_enter Tryz.func11, Tryz.ntmps11
  go_upto_region 1 with fail
  rw [← hV]
  clear hV
  go_wp2_with fail
  refine y1.out.mono ?_
  rintro _ w1 ⟨fb, rfl, hfb, b1⟩
  have H1 := Lib.hid (And.intro b1 hfb)
  clear b1 hfb d0 d1 y1
  cases fb with
  | false =>
    go_wp2_with fail
    go_ret
    exact ⟨8, rfl, .inr ⟨fun h => absurd (H1.out.2.2 h.front) (by decide), rfl⟩, H.out.2.2.1.trans (H1.out.1.mono H.out.2.2.1.size)⟩
  | true =>
  have hf := Lib.hid (H1.out.2.1 rfl)
  have hX := Lib.hid (fun W (hb : Below V.heap.size V W) => own2 (H.out.2.2.2.past hb H.out.2.2.2.inside))
  obtain ⟨d0, d1⟩ := hX.out w1 H1.out.1
  go_wp2_with fail
  go_loopw [12] (fun v12 wr => ∃ k : Nat, v12 = .int .i64 (k : Int) ∧ k ≤ s.L.length ∧ Below V.heap.size V wr ∧ SpGood s.f (s.L.take k))
    (fun v12 _ => s.L.length - (intOf v12).toNat)
  case atStart => exact ⟨0, rfl, by omega, H1.out.1, ⟨hf.out, fun l hl => (by simp at hl), by simp, fun l hl => (by simp at hl)⟩⟩
  case round =>
    obtain ⟨k, rfl, hk, hb, hg⟩ := hrel
    by_cases hlt : k < s.L.length
    · obtain ⟨l, hl⟩ : ∃ l, s.L[k]? = some l := ⟨_, List.getElem?_eq_getElem hlt⟩
      obtain ⟨b, o, hA, hB, hc⟩ := lies_lv H.out.1.lev.head (by omega)
      obtain ⟨c0, c1, c2, c3, c4, c5, c6, c7, c8, c9⟩ := lv_ten fun j u hj => (hb.cell (p := ⟨b, o + k * 10 + j, none⟩) hB).trans (hc k l hl j u hj)
      have hlm := List.mem_of_getElem? hl
      have hli := ((H.out.1.lev.each_ l hlm).past hb (Nat.le_refl _)).wide hb.size
      have hlo := H.out.2.1.each_ l hlm
      have hpos := fun (h : SpGood s.f s.L) => h.pos l hlm
      have heach := fun (h : SpGood s.f s.L) => h.each l hlm
      obtain ⟨V5, hV5, hb5, hs5, ho5⟩ := lvbox wr l
      have hb55 := belows hb hb5
      have hX5 := fun q : Past V5 => own10 (ho5.past q.h ho5.inside)
      have hX2 := fun q : Past V5 => hX.out q.w (belows hb55 q.h)
      obtain ⟨br, hbr⟩ := bool_of (LvGood s.f l)
      have u1 := fun q : Past V5 => calls_past ((right_anyS l s.sA s.sc s.f q.w ((hli.keep hb5).keep q.h) hlo ((H.out.1.since.past (belows hb55 q.h) (Nat.le_refl _)).wide (belows hb55 q.h).size) H.out.2.1.f).mono fun x w' h => tells_is hbr h)
      have HK := Lib.hid (And.intro hg (And.intro hl (And.intro hb55 (And.intro hbr (And.intro hpos heach)))))
      obtain ⟨d0, d1⟩ := hX.out wr hb
      have q0 : (0 : Int) ≤ (k : Int) := by omega
      have q1 : (k : Int) < (s.L.length : Int) := by omega
      have hP := fun q : Past V5 => (show ∀ j : Nat, ∀ l0, s.L[j]? = some l0 → q.w.cell? ⟨b, o + j * 10, none⟩ = some (.int .i64 l0.cls) from fun j l0 h0 => by
        have := ((belows hb55 q.h).cell (p := ⟨b, o + j * 10 + 0, none⟩) hB).trans (hc j l0 h0 0 _ rfl)
        exact this)
      unfold Lv.val at u1
      have HS := Lib.hid hA
      rw [hA] at d1
      clear hc hb hg hli hlo hpos heach hlm hbr hl hb5 ho5 hs5 hb55
      by_cases hc1 : l.cls < 1
      · have t1 : decide (l.cls < 1) = true := decide_eq_true hc1
        have HC := Lib.hid hc1
        clear hc1
        go_upto_region 6 with fail
        rw [← hV5]
        clear hV5
        refine wp_region_past V5 (by kernel_rfl) (by kernel_rfl) (Below.refl _ _) ?_
        repeat (first | go_big_quiet_step (fail) | quiet_step (fail))
        refine wpQuiet_nil ?_
        intro wz hw'
        obtain ⟨⟨wy, hbz⟩, hw''⟩ := hw'
        dsimp only at hw''
        subst hw''
        have HZ := Lib.hid (belows HK.out.2.2.1 hbz)
        clear hX5 hX2 hP hbz u1 c0 c1 c2 c3 c4 c5 c6 c7 c8 c9 d0 d1
        go_wp2_with fail
        go_ret
        exact ⟨8, rfl, .inr ⟨fun h => absurd (HK.out.2.2.2.2.1 h) (by have := HC.out; omega), rfl⟩, H.out.2.2.1.trans (HZ.out.mono H.out.2.2.1.size)⟩
      have t1 : decide (l.cls < 1) = false := decide_eq_false hc1
      have HC := Lib.hid hc1
      clear hc1
      by_cases hk0 : k = 0
      · have t2 : decide (k > 0) = false := decide_eq_false (by omega)
        have t2' : decide (0 < k) = false := decide_eq_false (by omega)
        have t2'' : decide ((0 : Int) < (k : Int)) = false := decide_eq_false (by omega)
        have HK0 := Lib.hid hk0
        cases br with
        | false =>
          clear hk0
          go_upto_region 6 with fail
          rw [← hV5]
          clear hV5
          refine wp_region_past V5 (by kernel_rfl) (by kernel_rfl) (Below.refl _ _) ?_
          repeat (first | go_big_quiet_step ((go_at_call 28; exact u1 _)) | quiet_step ((go_at_call 28; exact u1 _)))
          refine wpQuiet_nil ?_
          intro wz hw'
          obtain ⟨⟨wy, hbz⟩, hw''⟩ := hw'
          dsimp only at hw''
          subst hw''
          have HZ := Lib.hid (belows HK.out.2.2.1 hbz)
          clear hX5 hX2 hP hbz u1 c0 c1 c2 c3 c4 c5 c6 c7 c8 c9 d0 d1
          go_wp2_with fail
          go_ret
          exact ⟨8, rfl, .inr ⟨fun h => absurd (HK.out.2.2.2.1.2 (HK.out.2.2.2.2.2 h)) (by decide), rfl⟩, H.out.2.2.1.trans (HZ.out.mono H.out.2.2.1.size)⟩
        | true =>
          have hbl : k + 1 ≤ s.L.length := by omega
          clear hk0
          go_upto_region 6 with fail
          rw [← hV5]
          clear hV5
          refine wp_region_past V5 (by kernel_rfl) (by kernel_rfl) (Below.refl _ _) ?_
          repeat (first | go_big_quiet_step ((go_at_call 28; exact u1 _)) | quiet_step ((go_at_call 28; exact u1 _)))
          refine wpQuiet_nil ?_
          intro wz hw'
          obtain ⟨⟨wy, hbz⟩, hw''⟩ := hw'
          dsimp only at hw''
          subst hw''
          have HZ := Lib.hid (belows HK.out.2.2.1 hbz)
          clear hX5 hX2 hP hbz u1 c0 c1 c2 c3 c4 c5 c6 c7 c8 c9 d0 d1
          go_wp2_with fail
          go_roundw
          case rel => exact ⟨k + 1, by go_num, by omega, HZ.out, good_next HK.out.2.1 HK.out.1 (by have := HC.out; omega) (fun l0 h0 _ => absurd h0 (by have := HK0.out; omega)) (HK.out.2.2.2.1.1 rfl)⟩
          case measure => simp [intOf]; omega
      · have t2 : decide (0 < k) = true := decide_eq_true (by omega)
        have t2'' : decide ((0 : Int) < (k : Int)) = true := decide_eq_true (by omega)
        obtain ⟨l0, hl0⟩ : ∃ l0, s.L[k - 1]? = some l0 := ⟨_, List.getElem?_eq_getElem (by omega)⟩
        have hP1 := fun q : Past V5 => hP q (k - 1) l0 hl0
        have hsub : IntKind.i64.wrap ((k : Int) - 1) = ((k - 1 : Nat) : Int) := by rw [IntKind.wrap_i64]; omega
        have s0 : (0 : Int) ≤ ((k - 1 : Nat) : Int) := by omega
        have s1 : ((k - 1 : Nat) : Int) < (s.L.length : Int) := by omega
        have HL0 := Lib.hid (And.intro hl0 (show 0 < k by omega))
        by_cases hc2 : l0.cls ≤ l.cls
        · have t3 : decide (l.cls ≥ l0.cls) = true := decide_eq_true hc2
          have t3' : decide (l0.cls ≤ l.cls) = true := decide_eq_true hc2
          have HC2 := Lib.hid hc2
          clear hl0 hk0 hc2
          go_upto_region 6 with fail
          rw [← hV5]
          clear hV5
          refine wp_region_past V5 (by kernel_rfl) (by kernel_rfl) (Below.refl _ _) ?_
          repeat (first | go_big_quiet_step (fail) | quiet_step (fail))
          refine wpQuiet_nil ?_
          intro wz hw'
          obtain ⟨⟨wy, hbz⟩, hw''⟩ := hw'
          dsimp only at hw''
          subst hw''
          have HZ := Lib.hid (belows HK.out.2.2.1 hbz)
          clear hX5 hX2 hP hbz u1 c0 c1 c2 c3 c4 c5 c6 c7 c8 c9 d0 d1
          go_wp2_with fail
          go_ret
          exact ⟨8, rfl, .inr ⟨fun h => absurd (good_prev h HL0.out.2 HK.out.2.1 HL0.out.1) (by have := HC2.out; omega), rfl⟩, H.out.2.2.1.trans (HZ.out.mono H.out.2.2.1.size)⟩
        · have t3' : decide (l0.cls ≤ l.cls) = false := decide_eq_false hc2
          have HC2 := Lib.hid hc2
          cases br with
          | false =>
            clear hl0 hk0 hc2
            go_upto_region 6 with fail
            rw [← hV5]
            clear hV5
            refine wp_region_past V5 (by kernel_rfl) (by kernel_rfl) (Below.refl _ _) ?_
            repeat (first | go_big_quiet_step ((go_at_call 28; exact u1 _)) | quiet_step ((go_at_call 28; exact u1 _)))
            refine wpQuiet_nil ?_
            intro wz hw'
            obtain ⟨⟨wy, hbz⟩, hw''⟩ := hw'
            dsimp only at hw''
            subst hw''
            have HZ := Lib.hid (belows HK.out.2.2.1 hbz)
            clear hX5 hX2 hP hbz u1 c0 c1 c2 c3 c4 c5 c6 c7 c8 c9 d0 d1
            go_wp2_with fail
            go_ret
            exact ⟨8, rfl, .inr ⟨fun h => absurd (HK.out.2.2.2.1.2 (HK.out.2.2.2.2.2 h)) (by decide), rfl⟩, H.out.2.2.1.trans (HZ.out.mono H.out.2.2.1.size)⟩
          | true =>
            have hbl : k + 1 ≤ s.L.length := by omega
            clear hl0 hk0 hc2
            go_upto_region 6 with fail
            rw [← hV5]
            clear hV5
            refine wp_region_past V5 (by kernel_rfl) (by kernel_rfl) (Below.refl _ _) ?_
            repeat (first | go_big_quiet_step ((go_at_call 28; exact u1 _)) | quiet_step ((go_at_call 28; exact u1 _)))
            refine wpQuiet_nil ?_
            intro wz hw'
            obtain ⟨⟨wy, hbz⟩, hw''⟩ := hw'
            dsimp only at hw''
            subst hw''
            have HZ := Lib.hid (belows HK.out.2.2.1 hbz)
            clear hX5 hX2 hP hbz u1 c0 c1 c2 c3 c4 c5 c6 c7 c8 c9 d0 d1
            go_wp2_with fail
            go_roundw
            case rel => exact ⟨k + 1, by go_num, by omega, HZ.out, good_next HK.out.2.1 HK.out.1 (by have := HC.out; omega) (fun x _ h0 => by rw [HL0.out.1] at h0; injection h0 with h0; rw [← h0]; have := HC2.out; omega) (HK.out.2.2.2.1.1 rfl)⟩
            case measure => simp [intOf]; omega
    · have hk2 : k = s.L.length := by omega
      subst hk2
      rw [List.take_length] at hg
      have HH := Lib.hid (And.intro hb hg)
      clear hb hg
      go_wp2_with fail
      go_ret
      exact ⟨0, rfl, .inl ⟨HH.out.2, rfl⟩, H.out.2.2.1.trans (HH.out.1.mono H.out.2.2.1.size)⟩
end Go.Proofs.YtenjlhlighkenaaGreat
namespace Go.Proofs.YtenjlhlighkenaaGreat
open Go Go.RowKit

theorem lies_dropQ {w : World} {B g o : Nat} {l : List Up} {q : Nat} (h : Lies 6 Up.cells w B (some ⟨g, o, none⟩) l) : Lies 6 Up.cells w B (some ⟨g, o + q * 6, none⟩) (l.drop q) := fun hp => by
  obtain ⟨b', o', e, hb, hc⟩ := h (by rw [List.length_drop] at hp; omega)
  simp only [Option.some.injEq, Addr.mk.injEq, and_true] at e
  obtain ⟨rfl, rfl⟩ := e
  refine ⟨g, o + q * 6, rfl, hb, fun i x hi j u hj => ?_⟩
  rw [List.getElem?_drop] at hi
  have := hc (q + i) x hi j u hj
  rw [show o + q * 6 + i * 6 + j = o + (q + i) * 6 + j by omega]
  exact this
def dropA (A : Option Addr) (c q : Nat) : Option Addr := if c = q then A else A.map fun a => ⟨a.block, a.off + q * 6, a.spot⟩
theorem ups_dropQ {w : World} {B c q : Nat} {A : Option Addr} {l : List Up} (h : Ups w B A l) (hc : l.length ≤ c) : Ups w B (dropA A c q) (l.drop q) := by
  refine ⟨fun hp => ?_, fun u hu => h.each_ u (List.mem_of_mem_drop hu)⟩
  rw [List.length_drop] at hp
  obtain ⟨b', o', rfl, _⟩ := h.head (by omega)
  unfold dropA
  rw [if_neg (by omega)]
  exact lies_dropQ h.head (by rw [List.length_drop]; omega)
def partsR (l : Lv) : List (Rw Up) := if l.busy = true then [⟨dropA l.m.aA l.m.ac l.m.i.toNat, l.m.ac - l.m.i.toNat, l.m.a.drop l.m.i.toNat⟩, ⟨dropA l.m.bA l.m.bc l.m.j.toNat, l.m.bc - l.m.j.toNat, l.m.b.drop l.m.j.toNat⟩, ⟨l.m.oA, l.m.oc, l.m.o⟩] else [⟨l.b.uA, l.b.uc, l.b.l⟩]
theorem partsR_flat (l : Lv) : flatR (partsR l) = partsL l := by
  unfold partsR partsL
  split
  · simp [flatR, partsM]
  · simp [flatR]
theorem partsR_len (l : Lv) : (partsR l).length ≤ 3 := by
  unfold partsR
  split <;> simp
def PartsSay (l : Lv) (w : World) (x : Ending) (w' : World) : Prop := ∃ G, x = .returned (.slice (some ⟨G, 0, none⟩) (partsR l).length (partsR l).length) ∧ ULs w' w'.heap.size (some ⟨G, 0, none⟩) (partsR l) ∧ w.heap.size ≤ G ∧ Below w.heap.size w w'
theorem three_lists (w : World) (A1 A2 A3 : Option Addr) (c1 c2 c3 : Nat) (l1 l2 l3 : List Up) (h1 : Ups w w.heap.size A1 l1) (h2 : Ups w w.heap.size A2 l2) (h3 : Ups w w.heap.size A3 l3) :
    ∃ V, V = w.alloc (.cells #[.slice A1 l1.length c1, .slice A2 l2.length c2, .slice A3 l3.length c3] 32) ∧ Below w.heap.size w V ∧ ULs V V.heap.size (some ⟨w.heap.size, 0, none⟩) [⟨A1, c1, l1⟩, ⟨A2, c2, l2⟩, ⟨A3, c3, l3⟩] := by
  obtain ⟨W, e1, s1, b1, o1⟩ := boxd w [.slice A1 l1.length c1, .slice A2 l2.length c2, .slice A3 l3.length c3] 32
  refine ⟨W, e1, b1, rw_own (t := 32) o1, fun s hs => ?_⟩
  simp only [List.mem_cons, List.not_mem_nil, or_false] at hs
  rcases hs with rfl | rfl | rfl
  · exact h1.keep b1
  · exact h2.keep b1
  · exact h3.keep b1
set_option maxRecDepth 100000 in
set_option maxHeartbeats 6400000 in
theorem partsI_any (cl : Int) (b : Bt) (m : Mg) (w : World) (hl : LvIn w w.heap.size ⟨cl, false, b, m⟩) :
    Calls Tryz.prog 27 #[(⟨cl, false, b, m⟩ : Lv).val] w (PartsSay ⟨cl, false, b, m⟩ w) := by
  obtain ⟨V, hV, hvb, hvs, hvo⟩ := lvbox w ⟨cl, false, b, m⟩
  obtain ⟨a0, a1, a2, a3, a4, a5, a6, a7, a8, a9⟩ := own10 hvo
  obtain ⟨V2, hV2, hb2, hs2, ho2⟩ := mgbox V m
  obtain ⟨b0, b1, b2, b3, b4, b5, b6, b7, b8, b9⟩ := own10 (hvo.past hb2 hvo.inside)
  have hin := (hl.keep hvb).keep hb2
  have HB := Lib.hid (And.intro (belows hvb hb2) hin.b.ups)
  rw [show (⟨cl, false, b, m⟩ : Lv).val = .agg #[.int .i64 cl, .bool false, .slice b.sA b.f.length b.sc, .slice b.uA b.l.length b.uc, .slice m.aA m.a.length m.ac, .slice m.bA m.b.length m.bc, .int .i64 m.i, .int .i64 m.j, .slice m.sA m.f.length m.sc, .slice m.oA m.o.length m.oc] from rfl]
  dsimp only at hV a0 a1 a2 a3 a4 a5 a6 a7 a8 a9 b0 b1 b2 b3 b4 b5 b6 b7 b8 b9
  have HP := Lib.hid (show ∀ (G : Nat) w', ULs w' w'.heap.size (some ⟨G, 0, none⟩) [⟨b.uA, b.uc, b.l⟩] → w.heap.size ≤ G → Below w.heap.size w w' → PartsSay ⟨cl, false, b, m⟩ w (.returned (.slice (some ⟨G, 0, none⟩) 1 1)) w' from fun G w' h1 h0 h2 => ⟨G, rfl, h1, h0, h2⟩)
  clear hl hvb hvs hvo hb2 hs2 ho2 hin
  go_enter Tryz.func27, Tryz.ntmps27
  go_upto_region 1 with fail
  rw [← hV]
  clear hV
  go_upto_region 2 with fail
  rw [← hV2]
  clear hV2
  go_wp2_with fail
  go_ret
  obtain ⟨W, hW, hbW, hoW⟩ := one_list V2 b.uA b.uc b.l HB.out.2
  rw [← hW]
  exact HP.out _ _ hoW HB.out.1.size (belows HB.out.1 hbW)
set_option maxRecDepth 100000 in
set_option maxHeartbeats 6400000 in
theorem partsB_any (cl : Int) (b : Bt) (m : Mg) (i j : Nat) (w : World) (hl : LvIn w w.heap.size ⟨cl, true, b, m⟩) (cm : McOk m) (hi : m.i = (i : Int)) (hj : m.j = (j : Int)) (hia : i ≤ m.a.length) (hjb : j ≤ m.b.length) (na : 0 < m.a.length) (nb : 0 < m.b.length) :
    Calls Tryz.prog 27 #[(⟨cl, true, b, m⟩ : Lv).val] w (PartsSay ⟨cl, true, b, m⟩ w) := by
  obtain ⟨V, hV, hvb, hvs, hvo⟩ := lvbox w ⟨cl, true, b, m⟩
  obtain ⟨a0, a1, a2, a3, a4, a5, a6, a7, a8, a9⟩ := own10 hvo
  obtain ⟨V2, hV2, hb2, hs2, ho2⟩ := mgbox V m
  obtain ⟨b0, b1, b2, b3, b4, b5, b6, b7, b8, b9⟩ := own10 (hvo.past hb2 hvo.inside)
  have hin := ((hl.keep hvb).keep hb2).m
  have HB := Lib.hid (And.intro (belows hvb hb2) (And.intro hin (And.intro hi (And.intro hj cm))))
  obtain ⟨ga, oa, hA, _⟩ := hin.a.head na
  obtain ⟨gb, ob, hBB, _⟩ := hin.b.head nb
  have hX := fun q : Past V2 => own6 (ho2.past q.h ho2.inside)
  rw [hA, hBB, hi, hj] at hX
  rw [show (⟨cl, true, b, m⟩ : Lv).val = .agg #[.int .i64 cl, .bool true, .slice b.sA b.f.length b.sc, .slice b.uA b.l.length b.uc, .slice m.aA m.a.length m.ac, .slice m.bA m.b.length m.bc, .int .i64 m.i, .int .i64 m.j, .slice m.sA m.f.length m.sc, .slice m.oA m.o.length m.oc] from rfl]
  dsimp only at hV a0 a1 a2 a3 a4 a5 a6 a7 a8 a9 b0 b1 b2 b3 b4 b5 b6 b7 b8 b9
  have HA := Lib.hid (And.intro hA hBB)
  have k1 := cm.a
  have k2 := cm.b
  have q1 : (0 : Int) ≤ (i : Int) := by omega
  have q2 : (i : Int) ≤ (m.a.length : Int) := by omega
  have q3 : (0 : Int) ≤ (j : Int) := by omega
  have q4 : (j : Int) ≤ (m.b.length : Int) := by omega
  obtain ⟨B1, hB1⟩ : ∃ B1 : Option Addr, (if m.ac = i then (some ⟨ga, oa, none⟩ : Option Addr) else some ⟨ga, oa + i * 6, none⟩) = B1 := ⟨_, rfl⟩
  obtain ⟨B2, hB2⟩ : ∃ B2 : Option Addr, (if m.bc = j then (some ⟨gb, ob, none⟩ : Option Addr) else some ⟨gb, ob + j * 6, none⟩) = B2 := ⟨_, rfl⟩
  have HBB := Lib.hid (show B1 = dropA m.aA m.ac i ∧ B2 = dropA m.bA m.bc j from by
    rw [← hB1, ← hB2, hA, hBB]
    exact ⟨rfl, rfl⟩)
  have HU := Lib.hid (show ∀ W, Below V2.heap.size V2 W → Ups W W.heap.size B1 (m.a.drop i) ∧ Ups W W.heap.size B2 (m.b.drop j) ∧ Ups W W.heap.size m.oA m.o from fun W hb => by
    rw [HBB.out.1, HBB.out.2]
    exact ⟨ups_dropQ (hin.a.keep hb) cm.a, ups_dropQ (hin.b.keep hb) cm.b, hin.o.keep hb⟩)
  have HPR := Lib.hid (show partsR ⟨cl, true, b, m⟩ = [⟨B1, m.ac - i, m.a.drop i⟩, ⟨B2, m.bc - j, m.b.drop j⟩, ⟨m.oA, m.oc, m.o⟩] from by
    rw [HBB.out.1, HBB.out.2]
    have e1 : m.i.toNat = i := by omega
    have e2 : m.j.toNat = j := by omega
    show (if true = true then _ else _) = _
    rw [if_pos rfl, e1, e2])
  clear hl hvb hvs hvo hb2 hs2 ho2 hin hi hj hA hBB cm
  go_enter Tryz.func27, Tryz.ntmps27
  go_upto_region 1 with fail
  rw [← hV]
  clear hV
  go_upto_region 2 with fail
  rw [← hV2]
  clear hV2
  go_upto_region 3 with fail
  refine wp_region_past_tail V2 12 (by kernel_rfl) (by kernel_rfl) (Below.refl _ _) ?_
  repeat (first | go_big_quiet_step (fail) | quiet_step (fail))
  refine wpQuiet_nil ?_
  intro wt hw'
  obtain ⟨⟨wu, hbt⟩, hw''⟩ := hw'
  dsimp only at hw''
  subst hw''
  have HT := Lib.hid hbt
  clear hX hbt
  go_wp2_with fail
  go_ret
  obtain ⟨W, hW, hbW, hoW⟩ := three_lists wt B1 B2 m.oA (m.ac - i) (m.bc - j) m.oc (m.a.drop i) (m.b.drop j) m.o (HU.out wt HT.out).1 (HU.out wt HT.out).2.1 (HU.out wt HT.out).2.2
  rw [List.length_drop, List.length_drop] at hW
  rw [← hW]
  have bb := belows HB.out.1 (belows HT.out hbW)
  exact ⟨wt.heap.size, by rw [HPR.out]; rfl, by rw [HPR.out]; exact hoW, (belows HB.out.1 HT.out).size, bb⟩
theorem parts_anyS (l : Lv) (f : List Tm) (w : World) (hl : LvIn w w.heap.size l) (ol : LvOk l) (hg : LvGood f l) (hp : 1 ≤ l.cls) : Calls Tryz.prog 27 #[l.val] w (PartsSay l w) := by
  obtain ⟨cl, bu, b, m⟩ := l
  cases bu
  · exact partsI_any cl b m w hl
  · obtain ⟨_, _, h3, h4, h5, _, _⟩ := hg.busy rfl
    have hp : 1 ≤ cl := hp
    have h4 : (clsN m.a.length : Int) = cl := h4
    have h5 : (clsN m.b.length : Int) = cl := h5
    have z1 := (cls_zero (n := m.a.length)).2
    have z2 := (cls_zero (n := m.b.length)).2
    have d1 : 0 ≤ m.i := h3.da.lo
    have d2 : m.i ≤ (m.a.length : Int) := h3.da.hi
    have d3 : 0 ≤ m.j := h3.db.lo
    have d4 : m.j ≤ (m.b.length : Int) := h3.db.hi
    exact partsB_any cl b m m.i.toNat m.j.toNat w hl ol.cap (by omega) (by omega) (by omega) (by omega) (by
      rcases Nat.eq_zero_or_pos m.a.length with h | h
      · have := z1 h; omega
      · exact h) (by
      rcases Nat.eq_zero_or_pos m.b.length with h | h
      · have := z2 h; omega
      · exact h)
end Go.Proofs.YtenjlhlighkenaaGreat
namespace Go.Proofs.YtenjlhlighkenaaGreat
open Go Go.RowKit

def listsS (L : List Lv) : List (Rw Up) := L.flatMap partsR
theorem listsS_flat (L : List Lv) : flatR (listsS L) = partsS L := by
  unfold listsS partsS flatR
  rw [List.flatMap_assoc]
  congr 1
  funext l
  exact partsR_flat l
theorem listsS_take {L : List Lv} {k : Nat} {l : Lv} (h : L[k]? = some l) : listsS (L.take (k + 1)) = listsS (L.take k) ++ partsR l := by
  unfold listsS
  rw [List.take_add_one, h, List.flatMap_append]
  simp
theorem listsS_len (L : List Lv) : (listsS L).length ≤ 3 * L.length := by
  induction L with
  | nil => exact Nat.zero_le _
  | cons l L ih =>
    have h := partsR_len l
    show ((l :: L).flatMap partsR).length ≤ _
    rw [List.flatMap_cons, List.length_append, List.length_cons]
    have ih : (L.flatMap partsR).length ≤ 3 * L.length := ih
    omega
theorem partsR_in {w : World} {B : Nat} {l : Lv} (h : LvIn w B l) (ol : LvOk l) : ∀ r ∈ partsR l, Ups w B r.A r.l := by
  intro r hr
  unfold partsR at hr
  split at hr
  · simp only [List.mem_cons, List.not_mem_nil, or_false] at hr
    rcases hr with rfl | rfl | rfl
    · exact ups_dropQ h.m.a ol.cap.a
    · exact ups_dropQ h.m.b ol.cap.b
    · exact h.m.o
  · simp only [List.mem_cons, List.not_mem_nil, or_false] at hr
    subst hr
    exact h.b.ups
theorem partsR_uok {l : Lv} (ol : LvOk l) : ∀ r ∈ partsR l, ∀ u ∈ r.l, UOk u := by
  intro r hr u hu
  unfold partsR at hr
  split at hr
  · simp only [List.mem_cons, List.not_mem_nil, or_false] at hr
    rcases hr with rfl | rfl | rfl
    · exact ol.m.a.ok u (List.mem_of_mem_drop hu)
    · exact ol.m.b.ok u (List.mem_of_mem_drop hu)
    · exact ol.m.o.ok u hu
  · simp only [List.mem_cons, List.not_mem_nil, or_false] at hr
    subst hr
    exact ol.b.l.ok u hu
theorem infoUl : (Tryz.prog.info? 32).map (fun i => (i.zero, i.size, i.bytes)) = some (some (.slice none 0 0), 1, 24) := by kernel_rfl
theorem rwcell_len {α : Type} (s : Rw α) : (Rw.cells s).length = 1 := rfl
def CollS (f : List Tm) (l : List Up) (w : World) (x : Ending) (w' : World) : Prop :=
  ∃ b : Bt, x = .returned (.tuple #[.slice b.uA b.l.length b.uc, .int .i64 (bldE f l)]) ∧ (bldE f l = 0 → FrontOk f ∧ b.f = f ∧ b.l.map Up.p = consL [advL f l]) ∧ (bldE f l ≠ 0 → b = Bt.nil) ∧ BtIn w' w'.heap.size b ∧ BtOk b ∧ BtLo w.heap.size b ∧ Below w.heap.size w w'
set_option maxRecDepth 100000 in
set_option maxHeartbeats 1600000 in
theorem all1_any (v : Value) (w : World) : Calls Tryz.prog 32 #[v] w fun e w' => e = .returned v ∧ Below w.heap.size w w' := by
  go_enter Tryz.func32, Tryz.ntmps32
  go_wp2_with fail
  go_ret
  exact ⟨rfl, Below.refl _ _⟩
structure ClI (base : Nat) (Ls : List (Rw Up)) (v : Value) (wr : World) : Prop where
  own : wr.ownsRow base 32 1 v Ls.length (Ls.flatMap Rw.cells)
structure PtI (v : Value) (G : Nat) (R : List (Rw Up)) (wr : World) : Prop where
  in_ : G < wr.heap.size
  ne : v.ownBlock ≠ some G
  cells : ∀ j r, R[j]? = some r → wr.cell? ⟨G, j, none⟩ = some (.slice r.A r.l.length r.c)
theorem PtI.push {v v' : Value} {G : Nat} {R : List (Rw Up)} {w w' : World} (h : PtI v G R w) (hg : w.grownBy w' v.ownBlock) (hv : v'.ownBlock = v.ownBlock ∨ v'.ownBlock = some (w.heap.size + 1)) : PtI v' G R w' := by
  have hin := h.in_
  refine ⟨Nat.lt_of_lt_of_le h.in_ hg.size, ?_, fun j r hr => ?_⟩
  · rcases hv with e | e
    · rw [e]; exact h.ne
    · rw [e]; intro hh; injection hh with hh; omega
  · rw [← h.cells j r hr]
    unfold World.cell?
    rw [hg.block G h.in_ (fun e => h.ne e.symm)]
theorem partsR_pos (l : Lv) : 0 < (partsR l).length := by
  unfold partsR
  split <;> simp
theorem cl_keep {base : Nat} {Ls : List (Rw Up)} {v : Value} {w w' : World} (h : ClI base Ls v w) (hb : Below w.heap.size w w') : ClI base Ls v w' := ⟨own_below h.own hb⟩
theorem pt_start {base : Nat} {Ls : List (Rw Up)} {v : Value} {w V w' : World} {G : Nat} {R : List (Rw Up)} (h : ClI base Ls v w) (_ : Below w.heap.size w w') (hG : V.heap.size ≤ G) (hV : w.heap.size ≤ V.heap.size) (hu : ULs w' w'.heap.size (some ⟨G, 0, none⟩) R) (hp : 0 < R.length) : PtI v G R w' := by
  obtain ⟨g, o, e, hgi, hgc⟩ := hu.head hp
  simp only [Option.some.injEq, Addr.mk.injEq, and_true] at e
  obtain ⟨rfl, rfl⟩ := e
  refine ⟨hgi, fun e => ?_, fun j r hr => ?_⟩
  · have := (h.own.lt _ e).2
    omega
  · have := hgc j r hr 0 _ rfl
    simpa using this
theorem PtI.keep {v : Value} {G : Nat} {R : List (Rw Up)} {w w' : World} (h : PtI v G R w) (hb : Below w.heap.size w w') : PtI v G R w' :=
  ⟨Nat.lt_of_lt_of_le h.in_ hb.size, h.ne, fun j r hr => (hb.cell (p := ⟨G, j, none⟩) h.in_).trans (h.cells j r hr)⟩
theorem cl_push {base : Nat} {Ls : List (Rw Up)} {r : Rw Up} {v : Value} {w : World} (h : w.ownsRow base 32 1 v (Ls.length + 1) (Ls.flatMap Rw.cells ++ #[Value.slice r.A r.l.length r.c].toList)) : ClI base (Ls ++ [r]) v w := by
  refine ⟨?_⟩
  rw [List.length_append, List.flatMap_append]
  exact h
set_option maxRecDepth 100000 in
set_option maxHeartbeats 6400000 in
theorem collect_all (s : Sp) (w : World) (hs : SpIn w w.heap.size s) (os : SpOk s) (hg : SpGood s.f s.L) (hn : (partsS s.L).length ≤ 1099511627776) :
    Calls Tryz.prog 31 #[s.val, .func (.func 32) #[] #[]] w (CollS s.f (partsS s.L) w) := by
  obtain ⟨i0, hi, hz0, hz1, hz2⟩ := info_parts infoUl
  have HI := Lib.hid (And.intro Tryz.underlying68 (And.intro hi (And.intro hz0 (And.intro hz1 hz2))))
  obtain ⟨V, hV, hvb, hvs, hvo⟩ := spbox w s
  have hin := hs.keep hvb
  have H := Lib.hid (And.intro hin (And.intro os (And.intro hvb (And.intro hvo (And.intro hg hn)))))
  have hnL := os.n
  rw [show s.val = .agg #[.slice s.sA s.f.length s.sc, .slice s.lA s.L.length s.lc] from rfl]
  have hX := Lib.hid (fun W (hb : Below V.heap.size V W) => own2 (hvo.past hb hvo.inside))
  obtain ⟨d0, d1⟩ := own2 hvo
  have h0 := World.ownsRow_nil V V.heap.size 32 1
  clear hs os hvb hvs hvo hin hi hz0 hz1 hz2 hg hn
  go_enter Tryz.func31, Tryz.ntmps31
  go_upto_region 1 with fail
  rw [← hV]
  clear hV
  go_wp2_with fail
  go_loopw [6, 16] (fun v i wr => ∃ k : Nat, i = .int .i64 (k : Int) ∧ k ≤ s.L.length ∧ ClI V.heap.size (listsS (s.L.take k)) v wr ∧ Below V.heap.size V wr)
    (fun _ i _ => s.L.length - (intOf i).toNat)
  case atStart => exact ⟨0, rfl, by omega, ⟨h0⟩, Below.refl _ _⟩
  case round =>
    obtain ⟨k, rfl, hk, hown, hb⟩ := hrel
    by_cases hlt : k < s.L.length
    · obtain ⟨l, hl⟩ : ∃ l, s.L[k]? = some l := ⟨_, List.getElem?_eq_getElem hlt⟩
      obtain ⟨b, o, hA, hB, hc⟩ := lies_lv H.out.1.lev.head (by omega)
      obtain ⟨c0, c1, c2, c3, c4, c5, c6, c7, c8, c9⟩ := lv_ten fun j u hj => (hb.cell (p := ⟨b, o + k * 10 + j, none⟩) hB).trans (hc k l hl j u hj)
      have hlm := List.mem_of_getElem? hl
      have hli := ((H.out.1.lev.each_ l hlm).past hb (Nat.le_refl _)).wide hb.size
      have hlo := H.out.2.1.each_ l hlm
      obtain ⟨V5, hV5, hb5, hs5, ho5⟩ := lvbox wr l
      obtain ⟨e0, e1, e2, e3, e4, e5, e6, e7, e8, e9⟩ := own10 ho5
      have u1 := Lib.hid (parts_anyS l s.f V5 (hli.keep hb5) hlo (H.out.2.2.2.2.1.each l hlm) (H.out.2.2.2.2.1.pos l hlm))
      rw [show l.val = .agg #[.int .i64 l.cls, .bool l.busy, .slice l.b.sA l.b.f.length l.b.sc, .slice l.b.uA l.b.l.length l.b.uc, .slice l.m.aA l.m.a.length l.m.ac, .slice l.m.bA l.m.b.length l.m.bc, .int .i64 l.m.i, .int .i64 l.m.j, .slice l.m.sA l.m.f.length l.m.sc, .slice l.m.oA l.m.o.length l.m.oc] from rfl] at u1
      have hpl := partsR_len l
      have hll := listsS_len (s.L.take k)
      rw [List.length_take, Nat.min_eq_left (by omega)] at hll
      have htk := listsS_take hl
      have HA := Lib.hid hA
      have HK := Lib.hid (And.intro hown (And.intro hb (And.intro hb5 htk)))
      have q0 : (0 : Int) ≤ (k : Int) := by omega
      have q1 : (k : Int) < (s.L.length : Int) := by omega
      obtain ⟨d0, d1⟩ := hX.out wr hb
      clear hlm hli hlo hl hown hb hb5 htk hc
      go_upto_region 5 with fail
      rw [← hV5]
      clear hV5
      go_wp2_with fail
      refine u1.out.mono ?_
      rintro _ w1 ⟨G, rfl, hul, hG, hb1⟩
      have hpt := pt_start HK.out.1 (belows HK.out.2.2.1 hb1) hG HK.out.2.2.1.size hul (partsR_pos l)
      have hb1' := belows HK.out.2.1 (belows HK.out.2.2.1 hb1)
      have hown1 := cl_keep HK.out.1 (belows HK.out.2.2.1 hb1)
      have H1 := Lib.hid (And.intro hpt (And.intro hb1' hown1))
      have hpp := partsR_pos l
      clear hpt hb1' hown1 hul hG hb1
      clear u1 e0 e1 e2 e3 e4 e5 e6 e7 e8 e9 c0 c1 c2 c3 c4 c5 c6 c7 c8 c9 d0 d1
      go_wp2_with fail
      go_loopw [6, 23] (fun v i wi => ∃ j : Nat, i = .int .i64 (j : Int) ∧ j ≤ (partsR l).length ∧ ClI V.heap.size (listsS (s.L.take k) ++ (partsR l).take j) v wi ∧ PtI v G (partsR l) wi ∧ Below V.heap.size V wi)
        (fun _ i _ => (partsR l).length - (intOf i).toNat)
      case atStart => exact ⟨0, rfl, by omega, by simpa using H1.out.2.2, H1.out.1, H1.out.2.1⟩
      case round =>
        obtain ⟨j, rfl, hj, hown2, hp2, hb2⟩ := hrel
        by_cases hlt2 : j < (partsR l).length
        · obtain ⟨r, hr⟩ : ∃ r, (partsR l)[j]? = some r := ⟨_, List.getElem?_eq_getElem hlt2⟩
          have z0 := hp2.cells j r hr
          have z1 := z0
          rw [show j = 0 + j by omega] at z1
          have q2 : (0 : Int) ≤ (j : Int) := by omega
          have q3 : (j : Int) < ((partsR l).length : Int) := by omega
          have htj : (partsR l).take (j + 1) = (partsR l).take j ++ [r] := by rw [List.take_add_one, hr]; rfl
          have hlj : (listsS (s.L.take k) ++ (partsR l).take j).length ≤ 3 * k + 3 := by rw [List.length_append, List.length_take]; omega
          generalize hLs : listsS (s.L.take k) ++ (partsR l).take j = Ls at hown2 hlj
          have H2 := Lib.hid (And.intro hown2 (And.intro hp2 (And.intro hb2 (And.intro hLs htj))))
          clear hown2 hp2 hb2 hr hLs htj
          go_wp2_with fail
          refine (all1_any _ _).mono ?_
          rintro _ w2 ⟨rfl, b2⟩
          have hown3 := cl_keep H2.out.1 b2
          have hp3 := H2.out.2.1.keep b2
          have hb3 := belows H2.out.2.2.1 b2
          have H3 := Lib.hid (And.intro hown3 (And.intro hp3 hb3))
          clear b2 hown3 hp3 hb3 z0 z1
          go_wp2_with (at_builtin; refine wpList_push _ rfl _ _ 68 rfl V.heap.size 32 i0 _ 1 24 HI.out.1 HI.out.2.1 HI.out.2.2.1 HI.out.2.2.2.1 HI.out.2.2.2.2 rfl (by decide) _ _ _ rfl H3.out.1.own #[.slice r.A r.l.length r.c] rfl rfl ?k1 ?k2 ?k3 ?k4 ?_)
          case k1 => rfl
          case k2 => unfold maxLen; omega
          case k3 => omega
          case k4 => exact H3.out.2.2.size
          intro v4 w4 ho4 hb4 hv4 hg4
          have hp4 := H3.out.2.1.push hg4 hv4
          have hb5 := H3.out.2.2.trans hb4
          have ho5 : ClI V.heap.size (Ls ++ [r]) v4 w4 := cl_push ho4
          rw [← H2.out.2.2.2.1, List.append_assoc, ← H2.out.2.2.2.2] at ho5
          have H4 := Lib.hid (And.intro ho5 (And.intro hp4 hb5))
          clear ho4 hb4 hv4 hg4 hp4 hb5 ho5
          go_wp2_with fail
          go_roundw
          case rel => exact ⟨j + 1, by go_num, by omega, H4.out.1, H4.out.2.1, H4.out.2.2⟩
          case measure => simp [intOf]; omega
        · have hj2 : j = (partsR l).length := by omega
          subst hj2
          rw [List.take_length, ← HK.out.2.2.2] at hown2
          have H2 := Lib.hid (And.intro hown2 hb2)
          clear hown2 hb2 hp2
          go_wp2_with fail
          clear hA
          rw [← HA.out]
          go_roundw
          case rel =>
            exact ⟨k + 1, by go_num, by omega, H2.out.1, H2.out.2⟩
          case measure => simp [intOf]; omega
    · have hk2 : k = s.L.length := by omega
      subst hk2
      rw [List.take_length] at hown
      have hll := listsS_len s.L
      obtain ⟨A7, k7, hv7, _, _, hl7⟩ := lies_of_own (l := listsS s.L) (by decide) rwcell_len rfl hown.own
      subst hv7
      obtain ⟨d0, d1⟩ := hX.out wr hb
      have hul : ULs wr wr.heap.size A7 (listsS s.L) := ⟨hl7, fun r hr => by
        obtain ⟨l, hl, hrl⟩ := List.mem_flatMap.1 hr
        exact ((partsR_in (H.out.1.lev.each_ l hl) (H.out.2.1.each_ l hl) r hrl).past hb (Nat.le_refl _)).wide hb.size⟩
      have u1 := Lib.hid (build_any s.sA s.sc s.f A7 k7 (listsS s.L) wr ((H.out.1.since.past hb (Nat.le_refl _)).wide hb.size) H.out.2.1.f hul (fun r hr => by
        obtain ⟨l, hl, hrl⟩ := List.mem_flatMap.1 hr
        exact partsR_uok (H.out.2.1.each_ l hl) r hrl) (by rw [listsS_flat]; exact H.out.2.2.2.2.2) (by omega))
      rw [listsS_flat] at u1
      have HH := Lib.hid hb
      clear hb hown hl7 hul
      go_wp2_with fail
      refine u1.out.mono ?_
      rintro _ w1 ⟨bt, rfl, h1, h2, h3, h4, h5, h6⟩
      have hbx := HH.out
      have H1 := Lib.hid (And.intro h1 (And.intro h2 (And.intro h3 (And.intro h4 (And.intro h5 h6)))))
      clear h1 h2 h3 h4 h5 h6 u1
      rw [show bt.val = .agg #[.slice bt.sA bt.f.length bt.sc, .slice bt.uA bt.l.length bt.uc] from rfl]
      go_wp2_with fail
      exact bodyPost_ret (v := .tuple #[.slice bt.uA bt.l.length bt.uc, .int .i64 (bldE s.f (partsS s.L))]) (by simp [results, Tryz.results31, go_sem]) rfl ⟨bt, rfl, H1.out.1, H1.out.2.1, H1.out.2.2.1.keep ((Below.refl _ _).alloc (Nat.le_refl _) _), H1.out.2.2.2.1, H1.out.2.2.2.2.1.mono (belows H.out.2.2.1 hbx).size, belows (belows H.out.2.2.1 (belows hbx H1.out.2.2.2.2.2)) ((Below.refl _ _).alloc (Nat.le_refl _) _)⟩
end Go.Proofs.YtenjlhlighkenaaGreat
namespace Go.Proofs.YtenjlhlighkenaaGreat
open Go Go.RowKit

theorem cnt_busy (L : List Lv) : cntS L = L.length + busyN L := by
  induction L with
  | nil => rfl
  | cons l L ih =>
    rw [cntS_cons, busyN_cons, ih, List.length_cons]
    unfold cntL
    cases l.busy
    · simp; omega
    · simp; omega
theorem busy_take {L : List Lv} {k : Nat} {l : Lv} (h : L[k]? = some l) : busyN (L.take (k + 1)) = busyN (L.take k) + if l.busy = true then 1 else 0 := by
  rw [List.take_add_one, h, busyN_app]
  show _ + busyN [l] = _
  rw [busyN_cons]
  rfl
theorem parts_take {L : List Lv} {k : Nat} {l : Lv} (h : L[k]? = some l) : (partsS (L.take (k + 1))).length = (partsS (L.take k)).length + (flatR (partsR l)).length := by
  rw [List.take_add_one, h, partsS_app, List.length_append, partsR_flat]
  show _ + (partsS [l]).length = _
  rw [partsS_cons, List.length_append]
  rfl
theorem parts_take_le (L : List Lv) (k : Nat) : (partsS (L.take k)).length ≤ (partsS L).length := by
  have e : partsS L = partsS (L.take k) ++ partsS (L.drop k) := by rw [← partsS_app, List.take_append_drop]
  rw [e, List.length_append]
  omega
def SizeS (s : Sp) (w : World) (x : Ending) (w' : World) : Prop :=
  ∃ n k e : Int, x = .returned (.tuple #[.int .i64 n, .int .i64 k, .int .i64 e]) ∧ ((¬ SpGood s.f s.L ∧ n = 0 ∧ k = 0 ∧ e = 8) ∨ (SpGood s.f s.L ∧ n = (cntS s.L : Int) ∧ k = ((partsS s.L).length : Int) ∧ e = 0)) ∧ Below w.heap.size w w'
set_option maxRecDepth 100000 in
set_option maxHeartbeats 6400000 in
theorem size_any (s : Sp) (w : World) (hs : SpIn w w.heap.size s) (os : SpOk s) (hn : (partsS s.L).length ≤ 1099511627776) :
    Calls Tryz.prog 10 #[s.val] w (SizeS s w) := by
  obtain ⟨V, hV, hvb, hvs, hvo⟩ := spbox w s
  have hin := hs.keep hvb
  have y1 := Lib.hid (scheck_any s V hin os)
  have H := Lib.hid (And.intro hin (And.intro os (And.intro hvb hvo)))
  have hnL := os.n
  obtain ⟨d0, d1⟩ := own2 hvo
  rw [show s.val = .agg #[.slice s.sA s.f.length s.sc, .slice s.lA s.L.length s.lc] from rfl] at y1 ⊢
  have hX := Lib.hid (fun W (hb : Below V.heap.size V W) => own2 (hvo.past hb hvo.inside))
  have HP := Lib.hid (show ∀ (n k e : Int) w', ((¬ SpGood s.f s.L ∧ n = 0 ∧ k = 0 ∧ e = 8) ∨ (SpGood s.f s.L ∧ n = (cntS s.L : Int) ∧ k = ((partsS s.L).length : Int) ∧ e = 0)) → Below w.heap.size w w' → SizeS s w (.returned (.tuple #[.int .i64 n, .int .i64 k, .int .i64 e])) w' from fun n k e w' h1 h2 => ⟨n, k, e, rfl, h1, h2⟩)
  clear hs os hvb hvs hvo hin
  go_enter Tryz.func10, Tryz.ntmps10
  go_upto_region 1 with fail
  rw [← hV]
  clear hV
  go_wp2_with fail
  refine y1.out.mono ?_
  rintro _ w1 ⟨e, rfl, he, b1⟩
  have H1 := Lib.hid b1
  obtain ⟨d0, d1⟩ := hX.out w1 b1
  by_cases h0 : e = 0
  case neg =>
    have hg : ¬ SpGood s.f s.L ∧ e = 8 := by
      rcases he with ⟨_, h⟩ | h
      · exact absurd h h0
      · exact h
    have t1 : (e != 0) = true := bne_iff_ne.2 h0
    have HG := Lib.hid hg
    clear he b1 hg h0
    go_wp2_with fail
    exact bodyPost_ret (v := .tuple #[.int .i64 0, .int .i64 0, .int .i64 e]) (by simp [results, Tryz.results10, go_sem]) rfl (HP.out 0 0 e _ (.inl ⟨HG.out.1, rfl, rfl, HG.out.2⟩) (belows H.out.2.2.1 H1.out))
  have hg : SpGood s.f s.L := by
    rcases he with ⟨h, _⟩ | ⟨_, h⟩
    · exact h
    · omega
  have HG := Lib.hid hg
  have t1 : (e != 0) = false := by simp [h0]
  clear he b1 hg h0 y1
  go_wp2_with fail
  go_loopw [6, 7, 23] (fun n u i wr => ∃ k : Nat, i = .int .i64 (k : Int) ∧ k ≤ s.L.length ∧ n = .int .i64 ((s.L.length + busyN (s.L.take k) : Nat) : Int) ∧ u = .int .i64 ((partsS (s.L.take k)).length : Int) ∧ Below V.heap.size V wr)
    (fun _ _ i _ => s.L.length - (intOf i).toNat)
  case atStart => exact ⟨0, rfl, by omega, rfl, rfl, H1.out⟩
  case round =>
    obtain ⟨k, rfl, hk, rfl, rfl, hb⟩ := hrel
    obtain ⟨d0, d1⟩ := hX.out wr hb
    by_cases hlt : k < s.L.length
    · obtain ⟨l, hl⟩ : ∃ l, s.L[k]? = some l := ⟨_, List.getElem?_eq_getElem hlt⟩
      obtain ⟨b, o, hA, hB, hc⟩ := lies_lv H.out.1.lev.head (by omega)
      obtain ⟨c0, c1, c2, c3, c4, c5, c6, c7, c8, c9⟩ := lv_ten fun j u hj => (hb.cell (p := ⟨b, o + k * 10 + j, none⟩) hB).trans (hc k l hl j u hj)
      have hlm := List.mem_of_getElem? hl
      have hli := ((H.out.1.lev.each_ l hlm).past hb (Nat.le_refl _)).wide hb.size
      have hlo := H.out.2.1.each_ l hlm
      obtain ⟨V5, hV5, hb5, hs5, ho5⟩ := lvbox wr l
      obtain ⟨e0, e1, e2, e3, e4, e5, e6, e7, e8, e9⟩ := own10 ho5
      have u1 := Lib.hid (parts_anyS l s.f V5 (hli.keep hb5) hlo (HG.out.each l hlm) (HG.out.pos l hlm))
      rw [show l.val = .agg #[.int .i64 l.cls, .bool l.busy, .slice l.b.sA l.b.f.length l.b.sc, .slice l.b.uA l.b.l.length l.b.uc, .slice l.m.aA l.m.a.length l.m.ac, .slice l.m.bA l.m.b.length l.m.bc, .int .i64 l.m.i, .int .i64 l.m.j, .slice l.m.sA l.m.f.length l.m.sc, .slice l.m.oA l.m.o.length l.m.oc] from rfl] at u1
      have hbt := busy_take hl
      have hpt := parts_take hl
      have hple := parts_take_le s.L (k + 1)
      have hpp := partsR_pos l
      have hpl := partsR_len l
      have hbn : busyN (s.L.take k) ≤ 1048576 := by
        have := List.length_filter_le (fun l : Lv => l.busy) (s.L.take k)
        rw [List.length_take] at this
        unfold busyN
        omega
      have hpn : (partsS (s.L.take k)).length + (flatR (partsR l)).length ≤ 1099511627776 := by omega
      have HA := Lib.hid hA
      have q0 : (0 : Int) ≤ (k : Int) := by omega
      have q1 : (k : Int) < (s.L.length : Int) := by omega
      clear hlm hli hlo hl hc hple
      generalize (partsS (s.L.take k)).length = pk at *
      generalize busyN (s.L.take k) = bk at *
      cases hbu : l.busy
      · rw [hbu] at hV5 c1 e1 u1 hbt
        have HK := Lib.hid (And.intro hb (And.intro hb5 (And.intro hbt hpt)))
        clear hb hb5 hbu hbt hpt
        go_upto_region 8 with fail
        rw [← hV5]
        clear hV5
        go_wp2_with fail
        refine u1.out.mono ?_
        rintro _ w2 ⟨G, rfl, hul, hG, hb1⟩
        have hb2 := belows HK.out.1 (belows HK.out.2.1 hb1)
        have HU := Lib.hid (And.intro hul hb2)
        clear hul hG hb1 hb2
        clear u1 e0 e1 e2 e3 e4 e5 e6 e7 e8 e9 c0 c1 c2 c3 c4 c5 c6 c7 c8 c9 d0 d1
        go_wp2_with fail
        go_loopw [7, 34] (fun u i wi => ∃ j : Nat, i = .int .i64 (j : Int) ∧ j ≤ (partsR l).length ∧ u = .int .i64 ((pk + (flatR ((partsR l).take j)).length : Nat) : Int) ∧ Below w2.heap.size w2 wi)
          (fun _ i _ => (partsR l).length - (intOf i).toNat)
        case atStart => exact ⟨0, rfl, by omega, rfl, Below.refl _ _⟩
        case round =>
          obtain ⟨j, rfl, hj, rfl, hb2⟩ := hrel
          by_cases hlt2 : j < (partsR l).length
          · obtain ⟨r, hr⟩ : ∃ r, (partsR l)[j]? = some r := ⟨_, List.getElem?_eq_getElem hlt2⟩
            obtain ⟨g', o', e', hgi, hgc⟩ := HU.out.1.head (by omega)
            simp only [Option.some.injEq, Addr.mk.injEq, and_true] at e'
            obtain ⟨rfl, rfl⟩ := e'
            have z0 := (hb2.cell (p := ⟨G, 0 + j * 1 + 0, none⟩) hgi).trans (hgc j r hr 0 _ rfl)
            rw [show 0 + j * 1 + 0 = j by omega] at z0
            have hsn := flatR_one hr
            have hon := flatR_len hr (Nat.le_refl _)
            have q2 : (0 : Int) ≤ (j : Int) := by omega
            have q3 : (j : Int) < ((partsR l).length : Int) := by omega
            have H3 := Lib.hid (And.intro hb2 hsn)
            clear hr hb2 hsn hgi hgc
            generalize (flatR ((partsR l).take j)).length = fj at *
            go_wp2_with fail
            go_roundw
            case rel => exact ⟨j + 1, by go_num, by omega, by rw [H3.out.2]; go_num, H3.out.1⟩
            case measure => simp [intOf]; omega
          · have hj2 : j = (partsR l).length := by omega
            subst hj2
            rw [List.take_length]
            have H3 := Lib.hid (belows HU.out.2 hb2)
            clear hb2
            go_wp2_with fail
            clear hA
            rw [← HA.out]
            go_roundw
            case rel => exact ⟨k + 1, by go_num, by omega, by rw [HK.out.2.2.1]; go_num, by rw [HK.out.2.2.2], H3.out⟩
            case measure => simp [intOf]; omega
      · rw [hbu] at hV5 c1 e1 u1 hbt
        have HK := Lib.hid (And.intro hb (And.intro hb5 (And.intro hbt hpt)))
        clear hb hb5 hbu hbt hpt
        go_upto_region 8 with fail
        rw [← hV5]
        clear hV5
        go_wp2_with fail
        refine u1.out.mono ?_
        rintro _ w2 ⟨G, rfl, hul, hG, hb1⟩
        have hb2 := belows HK.out.1 (belows HK.out.2.1 hb1)
        have HU := Lib.hid (And.intro hul hb2)
        clear hul hG hb1 hb2
        clear u1 e0 e1 e2 e3 e4 e5 e6 e7 e8 e9 c0 c1 c2 c3 c4 c5 c6 c7 c8 c9 d0 d1
        go_wp2_with fail
        go_loopw [7, 34] (fun u i wi => ∃ j : Nat, i = .int .i64 (j : Int) ∧ j ≤ (partsR l).length ∧ u = .int .i64 ((pk + (flatR ((partsR l).take j)).length : Nat) : Int) ∧ Below w2.heap.size w2 wi)
          (fun _ i _ => (partsR l).length - (intOf i).toNat)
        case atStart => exact ⟨0, rfl, by omega, rfl, Below.refl _ _⟩
        case round =>
          obtain ⟨j, rfl, hj, rfl, hb2⟩ := hrel
          by_cases hlt2 : j < (partsR l).length
          · obtain ⟨r, hr⟩ : ∃ r, (partsR l)[j]? = some r := ⟨_, List.getElem?_eq_getElem hlt2⟩
            obtain ⟨g', o', e', hgi, hgc⟩ := HU.out.1.head (by omega)
            simp only [Option.some.injEq, Addr.mk.injEq, and_true] at e'
            obtain ⟨rfl, rfl⟩ := e'
            have z0 := (hb2.cell (p := ⟨G, 0 + j * 1 + 0, none⟩) hgi).trans (hgc j r hr 0 _ rfl)
            rw [show 0 + j * 1 + 0 = j by omega] at z0
            have hsn := flatR_one hr
            have hon := flatR_len hr (Nat.le_refl _)
            have q2 : (0 : Int) ≤ (j : Int) := by omega
            have q3 : (j : Int) < ((partsR l).length : Int) := by omega
            have H3 := Lib.hid (And.intro hb2 hsn)
            clear hr hb2 hsn hgi hgc
            generalize (flatR ((partsR l).take j)).length = fj at *
            go_wp2_with fail
            go_roundw
            case rel => exact ⟨j + 1, by go_num, by omega, by rw [H3.out.2]; go_num, H3.out.1⟩
            case measure => simp [intOf]; omega
          · have hj2 : j = (partsR l).length := by omega
            subst hj2
            rw [List.take_length]
            have H3 := Lib.hid (belows HU.out.2 hb2)
            clear hb2
            go_wp2_with fail
            clear hA
            rw [← HA.out]
            go_roundw
            case rel => exact ⟨k + 1, by go_num, by omega, by rw [HK.out.2.2.1]; go_num, by rw [HK.out.2.2.2], H3.out⟩
            case measure => simp [intOf]; omega
    · have hk2 : k = s.L.length := by omega
      subst hk2
      rw [List.take_length]
      have H2 := Lib.hid (belows H.out.2.2.1 hb)
      clear hb
      go_wp2_with fail
      exact bodyPost_ret (v := .tuple #[.int .i64 ((s.L.length + busyN s.L : Nat) : Int), .int .i64 ((partsS s.L).length : Int), .int .i64 0]) (by simp [results, Tryz.results10, go_sem]) rfl (HP.out _ _ 0 _ (.inr ⟨HG.out, by rw [cnt_busy], rfl, rfl⟩) H2.out)
end Go.Proofs.YtenjlhlighkenaaGreat
namespace Go.Proofs.YtenjlhlighkenaaGreat
open Go Go.RowKit

set_option maxRecDepth 100000 in
set_option maxHeartbeats 3200000 in
theorem listS_any (A : Option Addr) (c : Nat) (l : List Lv) (w : World) (hl : Lies 10 Lv.cells w w.heap.size A l) (hn : l.length * 176 ≤ 140737488355328) :
    Calls Tryz.prog 41 #[.slice A l.length c] w fun x w' => ∃ A', x = .returned (.slice A' l.length l.length) ∧ (l = [] → A' = none ∧ w' = w) ∧ (0 < l.length → A' = some ⟨w.heap.size, 0, none⟩ ∧ Own w' w.heap.size 65 (l.flatMap Lv.cells)) ∧ Below w.heap.size w w' := by
  obtain ⟨i0, hi, hz0, hz1, hz2⟩ := info_parts infoLv
  have hU := Tryz.underlying29
  have hsz1 : (Tryz.prog.info? 65).map (·.size) = some 10 := by rw [hi]; simp [hz1]
  cases l with
  | nil =>
    clear hl hn hi hz0 hz1 hz2 hU hsz1
    go_enter Tryz.func41, Tryz.ntmps41
    go_wp2_with fail
    go_ret
    exact ⟨none, rfl, fun _ => ⟨rfl, rfl⟩, fun h => absurd h (by simp), Below.refl _ _⟩
  | cons t l =>
    obtain ⟨b, o, rfl, hB, hc⟩ := hl (by simp)
    obtain ⟨m, hm⟩ : ∃ m, m = t :: l := ⟨_, rfl⟩
    have hpos : 0 < m.length := by rw [hm]; simp
    have hne : m ≠ [] := by rw [hm]; simp
    rw [← hm] at hc hn ⊢
    have t1 : ((m.length : Int) == 0) = false := beq_eq_false_iff_ne.2 (by omega)
    have HC := Lib.hid hc
    have HNE := Lib.hid hne
    clear hc hm hl hne
    go_enter Tryz.func41, Tryz.ntmps41
    go_wp2_with (refine wpList_make_full _ rfl (.tmp 8) (.tmp 8) 29 rfl w.heap.size 65 i0 _ 10 hU hi hz0 hz1 .i64 .i64 _ _ m.length rfl rfl rfl rfl ?c1 ?c2 ?c3 ?_)
    case c1 => rw [hz2]; omega
    case c2 => unfold maxLen; omega
    case c3 => exact Nat.le_refl _
    intro w1 ho1 hg1
    obtain ⟨cur, ho1⟩ : ∃ cur, w1.ownsRow w.heap.size 65 10 (.slice (some ⟨w.heap.size, 0, none⟩) m.length m.length) m.length cur := ⟨_, ho1⟩
    have hm1 := own_made ho1
    have hb1 : Below w.heap.size w w1 := (Below.refl _ _).grown hg1 (Nat.le_refl _) (fun k h => by cases h)
    have hlen1 : cur.length = m.length * 10 := ho1.1
    have hcl : (m.flatMap Lv.cells).length = m.length * 10 := flat_size (size := 10) (cells := Lv.cells) (fun _ => rfl) m
    have hsrc : ∀ j v, (m.flatMap Lv.cells)[j]? = some v → w1.cell? ((⟨b, o, none⟩ : Addr).add j) = some v := fun j v hv => by
      obtain ⟨i, r, x, rfl, hx, hr⟩ := flat_back (size := 10) (cells := Lv.cells) (by decide) (fun _ => rfl) m j v hv
      have ea : (⟨b, o, none⟩ : Addr).add (i * 10 + r) = ⟨b, o + i * 10 + r, none⟩ := by unfold Addr.add; split <;> simp_all <;> omega
      rw [ea, hb1.cell (p := ⟨b, o + i * 10 + r, none⟩) hB]
      exact HC.out i x hx r v hr
    have hrun := fun ty => run_copy_all (P := Tryz.prog) w1 29 29 ty 65 w.heap.size m.length m.length c 10 ⟨b, o, none⟩ cur (m.flatMap Lv.cells) 65 hU hsz1 hm1 hcl hsrc (by rw [hcl, hlen1]) (fun v hv => by
      obtain ⟨x, _, hx⟩ := List.mem_flatMap.1 hv
      exact lcells_one x v hx)
    have ho2 : Own (w1.setRow w.heap.size (m.flatMap Lv.cells).toArray) w.heap.size 65 (m.flatMap Lv.cells) := own_setRow hm1
    have hb2 : Below w.heap.size w (w1.setRow w.heap.size (m.flatMap Lv.cells).toArray) := below_setRow hb1 (Nat.le_refl _) _
    have HR := Lib.hid hrun
    obtain ⟨w2, hw2⟩ : ∃ w2, w2 = w1.setRow w.heap.size (m.flatMap Lv.cells).toArray := ⟨_, rfl⟩
    rw [← hw2] at HR ho2 hb2
    have H2 := Lib.hid (And.intro ho2 hb2)
    clear hw2 hrun ho2 hb2 hsrc hcl hm1 hb1 hlen1 ho1 hg1 hU hsz1 hi hz0 hz1 hz2
    go_wp2_with (refine Lib.wpList_copy_run _ rfl _ _ 29 29 rfl _ _ rfl rfl (HR.out _) ?_)
    go_wp2_with fail
    go_ret
    exact ⟨_, rfl, fun h => absurd h HNE.out, fun _ => ⟨rfl, H2.out.1⟩, H2.out.2⟩

end Go.Proofs.YtenjlhlighkenaaGreat
namespace Go.Proofs.YtenjlhlighkenaaGreat
open Go Go.RowKit

structure CopyS (s s' : Sp) (B : Nat) (w' : World) : Prop where
  f : s'.f = s.f
  L : s'.L.map Lv.pl = s.L.map Lv.pl
  in_ : SpIn w' w'.heap.size s'
  ok : SpOk s'
  lo : SpLo B s'
  row : w'.ownsRow B 65 10 (.slice s'.lA s'.L.length s'.lc) s'.L.length (s'.L.flatMap Lv.cells)
  soff : OfT (fun k => blkS s'.lA = some k) s'.sA s'.f.length
  loff : ∀ l ∈ s'.L, OfL (fun k => blkS s'.lA = some k) l
def CopiedS (s : Sp) (w : World) (x : Ending) (w' : World) : Prop := ∃ s' : Sp, x = .returned s'.val ∧ CopyS s s' w.heap.size w' ∧ Below w.heap.size w w'
theorem good_small {f : List Tm} {l : Lv} (g : LvGood f l) (hw : wtL l ≤ 274877906944) : chkUs l.b.l = 0 ∧ l.b.l.length ≤ 274877906944 ∧ MgSm l.m := by
  cases hb : l.busy
  · obtain ⟨⟨h1, h2, _, _, _, h6⟩, h7, _, _⟩ := g.idle hb
    have hwl : wtL l = l.b.l.length := by unfold wtL; rw [if_neg (by rw [hb]; decide)]
    exact ⟨h7.2.1.2.2, by omega, by rw [h1]; rfl, by rw [h2]; rfl, by rw [h6]; rfl, by rw [h1]; exact Nat.zero_le _, by rw [h2]; exact Nat.zero_le _, by rw [h6]; exact Nat.zero_le _⟩
  · obtain ⟨_, h2, h3, _⟩ := g.busy hb
    have hwtl : wtL l = max (l.m.a.length + l.m.b.length) (partsM l.m).length := by unfold wtL; rw [if_pos hb]
    have hpo : l.m.o.length ≤ (partsM l.m).length := by unfold partsM; rw [List.length_append, List.length_append]; omega
    exact ⟨by rw [h2]; rfl, by rw [h2]; exact Nat.zero_le _, h3.even.1.2.2, h3.even.2.1.2.2, h3.even.2.2.2.2, by omega, by omega, by omega⟩
theorem wt_leC {L : List Lv} {l : Lv} (h : l ∈ L) : wtL l ≤ wtS L := by
  unfold wtS
  induction L with
  | nil => cases h
  | cons x L ih =>
    rw [List.map_cons, List.sum_cons]
    rcases List.mem_cons.1 h with rfl | h
    · exact Nat.le_add_right _ _
    · have := ih h; omega
theorem turn_tail {A c c' R : List Value} (h : c.length = 10) (h' : c'.length = 10) (e : c'.take 2 = c.take 2) : (A ++ (c ++ R)).take (A.length + 2) ++ c'.drop 2 ++ (A ++ (c ++ R)).drop (A.length + 10) = A ++ (c' ++ R) := by
  rw [List.take_length_add_append, List.drop_length_add_append, List.take_append_of_le_length (by omega), ← e]
  have e3 : (c ++ R).drop 10 = R := by rw [← h, List.drop_left]
  rw [e3, List.append_assoc, List.append_assoc]
  congr 1
  rw [← List.append_assoc, List.take_append_drop]
theorem own_level {w : World} {G : Nat} {t : TypeId} {M R : List Lv} {l l' : Lv} (h : Own w G t ((M ++ l :: R).flatMap Lv.cells)) (hc : l'.cls = l.cls) (hb : l'.busy = l.busy) :
    Own (setsAt w G (M.length * 10 + 2) (l'.cells.drop 2)) G t ((M ++ l' :: R).flatMap Lv.cells) := by
  have h1 := setsAt_own (l'.cells.drop 2) w (M.length * 10 + 2) _ h (by
    show M.length * 10 + 2 + 8 ≤ _
    rw [lflat_len, List.length_append, List.length_cons]; omega)
  have e : ((M ++ l :: R).flatMap Lv.cells).take (M.length * 10 + 2) ++ l'.cells.drop 2 ++ ((M ++ l :: R).flatMap Lv.cells).drop (M.length * 10 + 2 + (l'.cells.drop 2).length) = (M ++ l' :: R).flatMap Lv.cells := by
    have hM := lflat_len M
    have e8 : (l'.cells.drop 2).length = 8 := rfl
    have e2 : l'.cells.take 2 = l.cells.take 2 := by
      show [Value.int .i64 l'.cls, Value.bool l'.busy] = [Value.int .i64 l.cls, Value.bool l.busy]
      rw [hc, hb]
    rw [List.flatMap_append, List.flatMap_append, List.flatMap_cons, List.flatMap_cons, e8, show M.length * 10 + 2 + 8 = M.length * 10 + 10 by omega, ← hM]
    exact turn_tail rfl rfl e2
  rw [e] at h1
  exact h1
theorem at_level {M R : List Lv} {l : Lv} {w : World} {G : Nat} {t : TypeId} (h : Own w G t ((M ++ l :: R).flatMap Lv.cells)) : ∀ (j : Nat) (u : Value), l.cells[j]? = some u → w.cell? ⟨G, M.length * 10 + j, none⟩ = some u := fun j u hj => by
  have hj10 : j < 10 := (List.getElem?_eq_some_iff.1 hj).1
  rw [h.at_, List.flatMap_append, List.flatMap_cons]
  have hM := lflat_len M
  rw [List.getElem?_append_right (by omega), show M.length * 10 + j - (M.flatMap Lv.cells).length = j by omega, List.getElem?_append_left hj10]
  exact hj
structure CpSt (V wr : World) (G k : Nat) (L M : List Lv) : Prop where
  len : M.length = k
  pl : M.map Lv.pl = (L.take k).map Lv.pl
  own : Own wr G 65 ((M ++ L.drop k).flatMap Lv.cells)
  each_ : ∀ l ∈ M, LvIn wr wr.heap.size l ∧ LvOk l ∧ LvLo (G + 1) l
  kept : KeptK V wr (fun b => b = G)
theorem cp_next {V wr X : World} {G k : Nat} {L M : List Lv} {l l' : Lv} {w7 : World} (h : CpSt V wr G k L M) (hl : L[k]? = some l) (hb : Below wr.heap.size wr w7) (hX : X = setsAt w7 G (k * 10 + 2) (l'.cells.drop 2)) (hc : l'.cls = l.cls) (hbu : l'.busy = l.busy) (hpl : l'.pl = l.pl) (hin : LvIn w7 w7.heap.size l') (hok : LvOk l') (hlo : LvLo (G + 1) l') :
    CpSt V X G (k + 1) L (M ++ [l']) := by
  have hd : L.drop k = l :: L.drop (k + 1) := by
    have := List.getElem?_eq_some_iff.1 hl
    rw [List.drop_eq_getElem_cons this.1, this.2]
  have ho := h.own.past hb h.own.inside
  rw [hd] at ho
  have ho2 := own_level (l' := l') ho hc hbu
  rw [h.len, ← hX] at ho2
  have kX : KeptK w7 X (fun b => b = G) := by rw [hX]; exact setsAt_kept (S := fun b => b = G) (.inl rfl) _ _ _ (KeptK.refl _ _)
  have off : ∀ {x : Lv}, LvLo (G + 1) x → OfL (fun b => b = G) x := fun hx => hx.of fun k e => by omega
  refine ⟨by rw [List.length_append, h.len]; rfl, ?_, by rw [List.append_assoc]; exact ho2, fun x hx => ?_, (h.kept.trans (KeptK.of_below hb (Nat.le_refl _) (fun b => b = G)) (fun _ _ e => e)).trans kX (fun _ _ e => e)⟩
  · rw [List.map_append, h.pl, List.take_add_one, hl, List.map_append]
    show _ ++ [l'.pl] = _ ++ [l.pl]
    rw [hpl]
  · rcases List.mem_append.1 hx with hx | hx
    · obtain ⟨a, b, c⟩ := h.each_ x hx
      exact ⟨lv_kept (a.keep hb) (off c) kX, b, c⟩
    · obtain rfl : x = l' := by simpa using hx
      exact ⟨lv_kept hin (off hlo) kX, hok, hlo⟩
theorem cp_end {s : Sp} {w V wr : World} {G : Nat} {A : Option Addr} {M : List Lv} (h : CpSt V wr G s.L.length s.L M) (hs : SpOk s) (hA : Times V V.heap.size A s.f) (hAl : LoT w.heap.size A) (hAo : OfT (fun b => b = G) A s.f.length) (hG : w.heap.size ≤ G) (_ : Below w.heap.size w V) :
    CopyS s ⟨A, s.f.length, s.f, some ⟨G, 0, none⟩, s.L.length, M⟩ w.heap.size wr := by
  have hlen : M.length = s.L.length := h.len
  have hpl := h.pl
  rw [List.take_length] at hpl
  have ho := h.own
  rw [List.drop_length, List.append_nil] at ho
  have hlies : Lies 10 Lv.cells wr wr.heap.size (some ⟨G, 0, none⟩) M := lies_owned (fun _ => rfl) ho
  have hfl := lflat_len M
  refine ⟨rfl, hpl, ⟨times_kept hA hAo h.kept, ⟨hlies, fun l hl => (h.each_ l hl).1⟩⟩, ⟨⟨hs.f.n, Nat.le_refl _, Nat.le_trans hs.f.le hs.f.c_⟩, by show M.length ≤ _; have := hs.n; omega, by show M.length ≤ s.L.length; omega, Nat.le_trans hs.le hs.c_, fun l hl => (h.each_ l hl).2.1⟩, ⟨hAl, fun b o e => ?_, fun l hl => (h.each_ l hl).2.2.mono (by omega)⟩, ?_, ?_, fun l hl => ?_⟩
  · simp only [Option.some.injEq, Addr.mk.injEq, and_true] at e
    omega
  · show World.ownsRow wr w.heap.size _ 10 (.slice (some ⟨G, 0, none⟩) M.length s.L.length) M.length (M.flatMap Lv.cells)
    have := own_to_row (base := w.heap.size) (n := s.L.length) (c := s.L.length) (size := 10) ho hG (Nat.le_refl _) (Nat.le_trans hs.le hs.c_) (by rw [hfl, hlen])
    rw [List.take_of_length_le (by rw [hfl, hlen]; exact Nat.le_refl _)] at this
    rw [hlen]; exact this
  · refine hAo.less fun k hk => ?_
    have hk : some G = some k := hk
    injection hk with hk
    exact hk.symm
  · refine (((h.each_ l hl).2.2.of (S := fun b => b = G) (fun k e => by omega))).less fun k hk => ?_
    have hk : some G = some k := hk
    injection hk with hk
    exact hk.symm
theorem CopyS.low {s s' : Sp} {B B' : Nat} {w : World} (h : CopyS s s' B w) (hB : B' ≤ B) : CopyS s s' B' w :=
  ⟨h.f, h.L, h.in_, h.ok, ⟨h.lo.f.mono hB, h.lo.l.mono hB, fun l hl => (h.lo.each_ l hl).mono hB⟩, ⟨h.row.1, by
    rcases h.row.2 with h0 | ⟨g, cap, cur, e, hb, rest⟩
    · exact .inl h0
    · exact .inr ⟨g, cap, cur, e, Nat.le_trans hB hb, rest⟩⟩, h.soff, h.loff⟩
theorem CopyS.kept {s s' : Sp} {B P : Nat} {w X : World} (h : CopyS s s' B w) (k : KeptK w X (fun b => b = P)) (hP : P < B) : CopyS s s' B X := by
  have hl : ∀ x ∈ s'.L, LvIn X X.heap.size x := fun x hx => lv_kept (h.in_.lev.each_ x hx) ((h.lo.each_ x hx).of (fun b e => by omega)) k
  refine ⟨h.f, h.L, ⟨times_kept h.in_.since (h.lo.f.of (fun b e => by omega)) k, ⟨lies_kept h.in_.lev.head (fun _ b o e hs => by have := h.lo.l b o e; omega) k, hl⟩⟩, h.ok, h.lo, k.row h.row (fun b e hs => ?_), h.soff, h.loff⟩
  rcases row_ownK h.row with ⟨h0, _⟩ | ⟨g, cur, h0, hb, _⟩
  · rw [h0] at e; simp [Value.ownBlock] at e
  · rw [h0] at e
    have : g = b := by simpa [Value.ownBlock] using e
    omega
end Go.Proofs.YtenjlhlighkenaaGreat
namespace Go.Proofs.YtenjlhlighkenaaGreat
open Go Go.RowKit

theorem sp_box2 (w : World) (s : Sp) : ∃ V, V = (w.alloc (.cells #[.slice s.sA s.f.length s.sc, .slice s.lA s.L.length s.lc] 31)).alloc (.cells #[.slice none 0 0, .slice none 0 0] 31) ∧ Below w.heap.size w V ∧ V.heap.size = w.heap.size + 2 ∧ Own V w.heap.size 31 s.cells ∧ Own V (w.heap.size + 1) 31 [.slice none 0 0, .slice none 0 0] := by
  refine ⟨_, rfl, ((Below.refl _ _).alloc (Nat.le_refl _) _).alloc (by simp) _, by simp, (Own.made w 31 s.cells).more _, ?_⟩
  exact own_next (w := w.alloc (.cells #[.slice s.sA s.f.length s.sc, .slice s.lA s.L.length s.lc] 31)) (l := [.slice none 0 0, .slice none 0 0]) (by simp)
structure CpMid (s : Sp) (V wx : World) (P : Nat) (A1 A2 : Option Addr) : Prop where
  own : Own wx P 31 [.slice A1 s.f.length s.f.length, .slice A2 s.L.length s.L.length]
  since : Times wx wx.heap.size A1 s.f
  lo1 : LoT V.heap.size A1
  lev : 0 < s.L.length → ∃ G, A2 = some ⟨G, 0, none⟩ ∧ Own wx G 65 (s.L.flatMap Lv.cells) ∧ V.heap.size ≤ G ∧ G ≠ P ∧ OfT (fun b => b = G) A1 s.f.length
  nil : s.L = [] → A2 = none
  below : Below V.heap.size V wx
  hp : V.heap.size ≤ P
theorem cp_mid {s : Sp} {V w1 W2 w2 X : World} {P : Nat} {A1 A2 : Option Addr} (hb1 : Bl V w1) (v1 : Times w1 w1.heap.size A1 s.f) (n1 : ∀ b o, A1 = some (⟨b, o, none⟩ : Addr) → V.heap.size ≤ b ∧ b < w1.heap.size ∧ b ≠ P) (hW : Below w1.heap.size w1 W2) (b2 : Below W2.heap.size W2 w2)
    (nil2 : s.L = [] → A2 = none) (own2_ : 0 < s.L.length → A2 = some ⟨W2.heap.size, 0, none⟩ ∧ Own w2 W2.heap.size 65 (s.L.flatMap Lv.cells)) (hX : KeptK w2 X (fun b => b = P)) (hPn : 0 < s.L.length → P ≠ W2.heap.size) (hPl : V.heap.size ≤ P) (ho : Own X P 31 [.slice A1 s.f.length s.f.length, .slice A2 s.L.length s.L.length]) :
    CpMid s V X P A1 A2 := by
  have b12 := belows hW b2
  have v2 := tms_keep v1 b12
  refine ⟨ho, times_kept v2 (fun _ b o e => (n1 b o e).2.2) hX, fun b o e => (n1 b o e).1, fun hp => ?_, nil2, ?_, hPl⟩
  · obtain ⟨h1, h2⟩ := own2_ hp
    refine ⟨_, h1, hX.own h2 (fun e => hPn hp e.symm), Nat.le_trans hb1.below.size hW.size, fun e => hPn hp e.symm, fun _ b o e => ?_⟩
    have := (n1 b o e).2.1
    have := hW.size
    intro e2
    omega
  · have hbb : Below V.heap.size V w2 := belows hb1.below b12
    exact ⟨hX.os.trans hbb.os, hX.tape.trans hbb.tape, hX.output.trans hbb.output, Nat.le_trans hbb.size hX.size, fun k hk => (hX.block k (Nat.lt_of_lt_of_le hk hbb.size) (fun e => by omega)).trans (hbb.block k hk)⟩
theorem cp_out {s : Sp} {V wc : World} {P : Nat} {A1 A2 : Option Addr} (ok : SpOk s) (hL : s.L = []) (hm : CpMid s V wc P A1 A2) (Q : Nat) (hQ : Q < V.heap.size) : CopyS s ⟨A1, s.f.length, s.f, none, 0, []⟩ V.heap.size ((wc.setCell ⟨Q, 0, none⟩ (.slice A1 s.f.length s.f.length)).setCell ⟨Q, 1, none⟩ (.slice none 0 0)) := by
  have h0 : CopyS s ⟨A1, s.f.length, s.f, none, 0, []⟩ V.heap.size wc := ⟨rfl, by rw [hL], ⟨hm.since, ⟨Lies.nil_, fun l hl => (by cases hl)⟩⟩, ⟨⟨ok.f.n, Nat.le_refl _, Nat.le_trans ok.f.le ok.f.c_⟩, by show 0 ≤ _; omega, Nat.le_refl _, Nat.zero_le _, fun l hl => (by cases hl)⟩, ⟨hm.lo1, lot_nil _, fun l hl => (by cases hl)⟩, World.ownsRow_nil _ _ _ _, fun _ b o e hs => (by cases hs), fun l hl => (by cases hl)⟩
  exact h0.kept (KeptK.set_ (S := fun b => b = Q) (KeptK.set_ (S := fun b => b = Q) (KeptK.refl _ _) (.inl rfl) _) (.inl rfl) _) hQ
set_option maxRecDepth 100000 in
set_option maxHeartbeats 12800000 in
theorem copyS_any (s : Sp) (w : World) (hs : SpIn w w.heap.size s) (ok : SpOk s) (hg : SpGood s.f s.L) (hwt : wtS s.L ≤ 274877906944) :
    Calls Tryz.prog 20 #[s.val] w (CopiedS s w) := by
  obtain ⟨V, hV, hvb, hvs, hvo, hvz⟩ := sp_box2 w s
  have hin := hs.keep hvb
  have hfn := ok.f.n
  have hLn := ok.n
  have y1 := fun W (h : Bl V W) => Lib.hid (listT_times s.sA s.sc s.f W (hin.keep h).since (by omega))
  have y2 := fun W (h : Bl V W) => Lib.hid (listS_any s.lA s.lc s.L W (hin.keep h).lev.head (by omega))
  have H := Lib.hid (And.intro hs (And.intro ok (And.intro hg (And.intro hwt (And.intro hvb (And.intro hvo hvz))))))
  have hself := Bl.refl V
  have hbs : V.heap.size ≤ V.heap.size := Nat.le_refl _
  have HS := Lib.hid (fun W (h : Bm V.heap.size V W) => own2 (hvo.past h hvo.inside))
  obtain ⟨d0, d1⟩ := own2 hvo
  rw [show s.val = .agg #[.slice s.sA s.f.length s.sc, .slice s.lA s.L.length s.lc] from rfl]
  have HP := Lib.hid (show ∀ x w' (s' : Sp), x = .returned s'.val → CopyS s s' w.heap.size w' → Below w.heap.size w w' → CopiedS s w x w' from fun x w' s' h1 h2 h3 => ⟨s', h1, h2, h3⟩)
  clear hs ok hg hwt hvb hvs hvo hvz hin hfn
  go_enter Tryz.func20, Tryz.ntmps20
  go_upto_region 1 with fail
  rw [← hV]
  clear hV
  go_cut [3] (fun s3 wx => ∃ (P : Nat) (A1 A2 : Option Addr), s3 = .pointer (some ⟨P, 0, none⟩) ∧ CpMid s V wx P A1 A2)
  case first =>
    go_region_held3 (fun w' => Bm V.heap.size V w' ∧ (w'.cell? ⟨w.heap.size, 0, none⟩ = some (.slice s.sA s.f.length s.sc) ∧ w'.cell? ⟨w.heap.size, 1, none⟩ = some (.slice s.lA s.L.length s.lc)))
      ((refine (fun h => And.intro h (HS.out _ h)) ?_; repeat (first | with_reducible exact Bm.of hb2 hbs | with_reducible exact Bm.of hb1 hbs | with_reducible exact Bm.of hself hbs | with_reducible refine Bm.set ?_ (by first | exact Nat.le_refl _ | exact hb1.below.size | (have z6 := hb1.below.size; simp; omega) | (have z6 := hb2.below.size; simp; omega)) _ _ | with_reducible refine Bm.more ?_ hbs _ | with_reducible refine Bm.drew ?_)))
      (first | (go_at_call 41; refine (y2 _ ?_).out.mono ?_; (repeat (first | with_reducible exact hb1 | with_reducible refine Bl.more ?_ _ | with_reducible refine Bl.drew ?_)); rintro _ w2 ⟨A2, rfl, nil2, own2_, b2⟩; have hb2 : Bl V w2 := Bl.call (by repeat (first | with_reducible exact hb1 | with_reducible refine Bl.more ?_ _ | with_reducible refine Bl.drew ?_)) b2; (try (have oz : Own w2 V.heap.size 31 [.slice none 0 0, .slice none 0 0] := oz1.past b2 (by have := oz1.inside; simpa using this); obtain ⟨e0, e1⟩ := own2 oz; have f0 := oz.open_ 0; have f1 := oz.open_ 1)); (try (have oz : Own w2 w1.heap.size 31 [.slice none 0 0, .slice none 0 0] := (Own.past (by first | exact Own.made _ _ [.slice none 0 0, .slice none 0 0] | exact own_drewKS (Own.made _ _ [.slice none 0 0, .slice none 0 0])) b2 (by simp)); obtain ⟨e0, e1⟩ := own2 oz; have f0 := oz.open_ 0; have f1 := oz.open_ 1))) | (go_at_call 26; refine (y1 _ ?_).out.mono ?_; (repeat (first | with_reducible exact hself | with_reducible refine Bl.more ?_ _ | with_reducible refine Bl.drew ?_)); rintro _ w1 ⟨A1, rfl, v1, n1, b1⟩; have hb1 : Bl V w1 := Bl.call (by repeat (first | with_reducible exact hself | with_reducible refine Bl.more ?_ _ | with_reducible refine Bl.drew ?_)) b1; (try (have oz1 : Own w1 V.heap.size 31 [.slice none 0 0, .slice none 0 0] := (Own.past (by first | exact Own.made _ _ [.slice none 0 0, .slice none 0 0] | exact own_drewKS (Own.made _ _ [.slice none 0 0, .slice none 0 0])) b1 (by simp))))))
    all_goals
      go_wp2_with fail
      go_meet
    · refine ⟨_, A1, A2, rfl, cp_mid hb1 v1 (fun b o e => ⟨(n1 b o e).1, (n1 b o e).2, ?_⟩) (Below.refl _ _) b2 (fun h => (nil2 h).1) own2_ ((KeptK.refl _ _).alloc _) (fun hp => ?_) hb2.below.size (Own.made w2 _ [.slice A1 s.f.length s.f.length, .slice A2 s.L.length s.L.length])⟩
      · have := (n1 b o e).2; have := b2.size; omega
      · have := (own2_ hp).2.inside; omega
    · refine ⟨_, A1, A2, rfl, cp_mid hb1 v1 (fun b o e => ⟨(n1 b o e).1, (n1 b o e).2, ?_⟩) ((Below.refl _ _).alloc (Nat.le_refl _) _) b2 (fun h => (nil2 h).1) own2_ (KeptK.set_ (S := fun b => b = w1.heap.size) (KeptK.set_ (S := fun b => b = w1.heap.size) (KeptK.refl _ _) (.inl rfl) _) (.inl rfl) _) (fun hp => (by simp)) hb1.below.size ((oz.set_ 0 _).set_ 1 _)⟩
      have := (n1 b o e).2; omega
    · refine ⟨_, A1, A2, rfl, cp_mid hb1 v1 (fun b o e => ⟨?_, (n1 b o e).2, ?_⟩) (Below.refl _ _) b2 (fun h => (nil2 h).1) own2_ (KeptK.set_ (S := fun b => b = V.heap.size) (KeptK.set_ (S := fun b => b = V.heap.size) (KeptK.refl _ _) (.inl rfl) _) (.inl rfl) _) (fun hp => ?_) (Nat.le_refl _) ((oz.set_ 0 _).set_ 1 _)⟩
      · have := (n1 b o e).1; simp at this; omega
      · have := (n1 b o e).1; simp at this; omega
      · have := oz1.inside; omega
  case rest =>
    obtain ⟨P, A1, A2, rfl, hm⟩ := hcut
    have hbv := hm.below
    have hP := hm.hp
    have HM := Lib.hid hm
    have hvz := H.out.2.2.2.2.2.2
    have hzi := hvz.inside
    obtain ⟨p0, p1⟩ := own2 hm.own
    by_cases hL : s.L = []
    · have hA2 := hm.nil hL
      have hL0 : s.L.length = 0 := by rw [hL]; rfl
      rw [hA2, hL0] at p1
      have oz := hvz.past hbv hzi
      obtain ⟨z0, z1⟩ := own2 oz
      have f0 := oz.open_ 0
      have f1 := oz.open_ 1
      have hX := (oz.set_ 0 (.slice A1 s.f.length s.f.length)).set_ 1 (.slice none 0 0)
      obtain ⟨x0, x1⟩ := own2 hX
      have HX := Lib.hid (cp_out H.out.2.1 hL hm (w.heap.size + 1) hzi)
      have HB := Lib.hid (show Below w.heap.size w ((wc.setCell ⟨w.heap.size + 1, 0, none⟩ (.slice A1 s.f.length s.f.length)).setCell ⟨w.heap.size + 1, 1, none⟩ (.slice none 0 0)) from ((H.out.2.2.2.2.1.trans (hbv.mono H.out.2.2.2.2.1.size)).setCell (p := ⟨w.heap.size + 1, 0, none⟩) (Nat.le_succ _) _).setCell (p := ⟨w.heap.size + 1, 1, none⟩) (Nat.le_succ _) _)
      have hsz := H.out.2.2.2.2.1.size
      clear hm hbv hP hvz hzi hL hA2 hL0 oz hX y1 y2
      go_wp2_with fail
      go_loopw [16] (fun v16 wr => v16 = .int .i64 0 ∧ wc = wr) (fun _ _ => 0)
      case atStart => exact ⟨rfl, rfl⟩
      case round =>
      obtain ⟨rfl, rfl⟩ := hrel
      go_wp2_with fail
      exact bodyPost_ret (v := .agg #[.slice A1 s.f.length s.f.length, .slice none 0 0]) (by simp [results, Tryz.results20, go_sem, x0, x1]) rfl (HP.out _ _ ⟨A1, s.f.length, s.f, none, 0, []⟩ rfl (HX.out.low hsz) HB.out)
    have hn : 0 < s.L.length := List.length_pos_iff.2 hL
    obtain ⟨G, rfl, oG, hG, hGP, hAG⟩ := hm.lev hn
    have HG := Lib.hid (And.intro hG (And.intro hGP hAG))
    have HC0 := Lib.hid (show CpSt wc wc G 0 s.L [] from ⟨rfl, rfl, oG, fun l hl => (by cases hl), KeptK.refl _ _⟩)
    clear hm hbv hP hvz hzi oG hG hGP hAG hL y1 y2 hself
    go_wp2_with fail
    go_loopw [16] (fun v16 wr => ∃ (k : Nat) (M : List Lv), v16 = .int .i64 (k : Int) ∧ k ≤ s.L.length ∧ CpSt wc wr G k s.L M)
      (fun v16 _ => s.L.length - (intOf v16).toNat)
    case atStart => exact ⟨0, [], rfl, by omega, HC0.out⟩
    case round =>
      obtain ⟨k, M, rfl, hk, hst⟩ := hrel
      have hbw : Below V.heap.size V wr := HM.out.below.trans (hst.kept.below (fun b e => by rw [e]; exact HG.out.1) HM.out.below.size)
      have oP := hst.kept.own HM.out.own (fun e => HG.out.2.1 e.symm)
      obtain ⟨p0, p1⟩ := own2 oP
      have HST := Lib.hid (And.intro hst (And.intro hbw oP))
      by_cases hlt : k < s.L.length
      · obtain ⟨l, hl⟩ : ∃ l, s.L[k]? = some l := ⟨_, List.getElem?_eq_getElem hlt⟩
        have hlm := List.mem_of_getElem? hl
        have hd : s.L.drop k = l :: s.L.drop (k + 1) := by
          have := List.getElem?_eq_some_iff.1 hl
          rw [List.drop_eq_getElem_cons this.1, this.2]
        have hown := hst.own
        rw [hd] at hown
        have hcell := at_level hown
        rw [hst.len] at hcell
        obtain ⟨c0, c1, c2, c3, c4, c5, c6, c7, c8, c9⟩ := lv_ten hcell
        obtain ⟨V5, hV5, hb5, hs5, ho5⟩ := lvbox wr l
        have hli := (((H.out.1.lev.each_ l hlm).past H.out.2.2.2.2.1 (Nat.le_refl _)).wide H.out.2.2.2.2.1.size).keep (belows hbw hb5)
        have hlo := H.out.2.1.each_ l hlm
        obtain ⟨g1, g2, g3⟩ := good_small (H.out.2.2.1.each l hlm) (Nat.le_trans (wt_leC hlm) H.out.2.2.2.1)
        have z1 := fun W (h : Bl V5 W) => Lib.hid (copyB_any l.b W (hli.b.keep h) hlo.b g1 g2)
        have z2 := fun W (h : Bl V5 W) => Lib.hid (copyM_any l.m W (hli.m.keep h) hlo.m g3)
        have oG5 := hown.past hb5 hown.inside
        have oP5 := oP.past hb5 oP.inside
        have HS5 := Lib.hid (show ∀ W, KeptK V5 W (fun b => b = G) → W.cell? ⟨P, 1, none⟩ = some (.slice (some ⟨G, 0, none⟩) s.L.length s.L.length) ∧ W.cell? ⟨wr.heap.size, 2, none⟩ = some (.slice l.b.sA l.b.f.length l.b.sc) ∧ W.cell? ⟨wr.heap.size, 3, none⟩ = some (.slice l.b.uA l.b.l.length l.b.uc) ∧ W.cell? ⟨wr.heap.size, 4, none⟩ = some (.slice l.m.aA l.m.a.length l.m.ac) ∧ W.cell? ⟨wr.heap.size, 5, none⟩ = some (.slice l.m.bA l.m.b.length l.m.bc) ∧ W.cell? ⟨wr.heap.size, 6, none⟩ = some (.int .i64 l.m.i) ∧ W.cell? ⟨wr.heap.size, 7, none⟩ = some (.int .i64 l.m.j) ∧ W.cell? ⟨wr.heap.size, 8, none⟩ = some (.slice l.m.sA l.m.f.length l.m.sc) ∧ W.cell? ⟨wr.heap.size, 9, none⟩ = some (.slice l.m.oA l.m.o.length l.m.oc) from fun W h => by
          have o1 := h.own oP5 (fun e => HG.out.2.1 e.symm)
          have o2 := h.own ho5 (fun e => by have := hown.inside; omega)
          exact ⟨o1.at_ 1, o2.at_ 2, o2.at_ 3, o2.at_ 4, o2.at_ 5, o2.at_ 6, o2.at_ 7, o2.at_ 8, o2.at_ 9⟩)
        have hkself : KeptK V5 V5 (fun b => b = G) := KeptK.refl _ _
        have hself := Bl.refl V5
        have HL := Lib.hid (And.intro hl (And.intro oG5 (And.intro hb5 (And.intro hlo (And.intro hown.inside hst.len)))))
        obtain ⟨r0, r1, r2, r3, r4, r5, r6, r7, r8, r9⟩ := own10 ho5
        have q0 : (0 : Int) ≤ (k : Int) := by omega
        have q1 : (k : Int) < (s.L.length : Int) := by omega
        unfold Bt.val at z1
        unfold Mg.val at z2
        clear hst hbw oP hlm hd hown hcell hli hlo g1 g2 g3 oG5 oP5 hb5 hs5 ho5 hl
        go_upto_region 5 with fail
        rw [← hV5]
        clear hV5
        go_region_held3 (fun w' => KeptK V5 w' (fun b => b = G) ∧ (w'.cell? ⟨P, 1, none⟩ = some (.slice (some ⟨G, 0, none⟩) s.L.length s.L.length) ∧ w'.cell? ⟨wr.heap.size, 2, none⟩ = some (.slice l.b.sA l.b.f.length l.b.sc) ∧ w'.cell? ⟨wr.heap.size, 3, none⟩ = some (.slice l.b.uA l.b.l.length l.b.uc) ∧ w'.cell? ⟨wr.heap.size, 4, none⟩ = some (.slice l.m.aA l.m.a.length l.m.ac) ∧ w'.cell? ⟨wr.heap.size, 5, none⟩ = some (.slice l.m.bA l.m.b.length l.m.bc) ∧ w'.cell? ⟨wr.heap.size, 6, none⟩ = some (.int .i64 l.m.i) ∧ w'.cell? ⟨wr.heap.size, 7, none⟩ = some (.int .i64 l.m.j) ∧ w'.cell? ⟨wr.heap.size, 8, none⟩ = some (.slice l.m.sA l.m.f.length l.m.sc) ∧ w'.cell? ⟨wr.heap.size, 9, none⟩ = some (.slice l.m.oA l.m.o.length l.m.oc)))
          ((refine (fun h => And.intro h (HS5.out _ h)) ?_; repeat (first | with_reducible exact hk7 | with_reducible exact hk6 | with_reducible exact hkself | with_reducible refine KeptK.set_ (S := fun b => b = G) ?_ (.inl rfl) _ | with_reducible refine KeptK.drew ?_)))
          (first | (go_at_call 43; refine (z2 _ hb6).out.mono ?_; rintro _ w7 ⟨m', rfl, sm, im, om, lm, b7, am⟩; unfold Mg.val; have hb7 : Bl V5 w7 := Bl.call hb6 b7; have hk7 : KeptK V5 w7 (fun b => b = G) := KeptK.of_below hb7.below (Nat.le_refl _) _; have oG7 := HL.out.2.1.past hb7.below HL.out.2.1.inside; have gg := fun j => oG7.open_ j; have hc7 := at_level oG7; rw [HL.out.2.2.2.2.2] at hc7; obtain ⟨c0, c1, c2, c3, c4, c5, c6, c7, c8, c9⟩ := lv_ten hc7; have g2 := gg (k * 10 + 2); have g3 := gg (k * 10 + 3); have g4 := gg (k * 10 + 4); have g5 := gg (k * 10 + 5); have g6 := gg (k * 10 + 6); have g7 := gg (k * 10 + 7); have g8 := gg (k * 10 + 8); have g9 := gg (k * 10 + 9); clear gg hc7 oG7) | (go_at_call 42; refine (z1 _ hself.drew).out.mono ?_; rintro _ w6 ⟨b', rfl, sb, ib, ob, lb, b6⟩; unfold Bt.val; have hb6 : Bl V5 w6 := Bl.call hself.drew b6; have hk6 : KeptK V5 w6 (fun b => b = G) := KeptK.of_below hb6.below (Nat.le_refl _) _))
        have ib7 := ib.keep b7
        have HN := Lib.hid (cp_next (l' := ⟨l.cls, l.busy, b', m'⟩) (w7 := w7) HST.out.1 HL.out.1 (belows HL.out.2.2.1 hb7.below) rfl rfl rfl (LvEq.to ⟨rfl, rfl, sb.f, sb.l, sm.a, sm.b, sm.i, sm.j, sm.f, sm.o⟩) ⟨ib7, im⟩ ⟨HL.out.2.2.2.1.c, ob, om, mc_of om ⟨am.ac, am.bc⟩⟩ ⟨lb.mono (by have h1 := HL.out.2.2.2.2.1; have h2 := HL.out.2.2.1.size; show G + 1 ≤ V5.heap.size; omega), lm.mono (by have h1 := HL.out.2.2.2.2.1; have h2 := HL.out.2.2.1.size; have h3 := hb6.below.size; show G + 1 ≤ w6.heap.size; omega)⟩)
        clear z1 z2 sm im om lm am b7 sb ib ob lb b6 ib7 hk6 hk7 hb6 hb7
        go_wp2_with fail
        go_roundw
        case rel => exact ⟨k + 1, _, by go_num, by omega, HN.out⟩
        case measure => simp [intOf]; omega
      · have hkn : k = s.L.length := by omega
        subst hkn
        have hbwc := HM.out.below
        have hsz := H.out.2.2.2.2.1.size
        have hvz := H.out.2.2.2.2.2.2
        have hzi := hvz.inside
        have hE := (cp_end hst H.out.2.1 HM.out.since HM.out.lo1 HG.out.2.2 HG.out.1 HM.out.below)
        have hlen : M.length = s.L.length := hst.len
        have oz := hvz.past HST.out.2.1 hzi
        obtain ⟨z0, z1⟩ := own2 oz
        have f0 := oz.open_ 0
        have f1 := oz.open_ 1
        have hX := (oz.set_ 0 (.slice A1 s.f.length s.f.length)).set_ 1 (.slice (some ⟨G, 0, none⟩) s.L.length s.L.length)
        obtain ⟨x0, x1⟩ := own2 hX
        have HX := Lib.hid ((hE.kept (KeptK.set_ (S := fun b => b = w.heap.size + 1) (KeptK.set_ (S := fun b => b = w.heap.size + 1) (KeptK.refl wr _) (.inl rfl) (.slice A1 s.f.length s.f.length) (o := 0)) (.inl rfl) (.slice (some ⟨G, 0, none⟩) s.L.length s.L.length) (o := 1)) hzi).low hsz)
        have HB := Lib.hid (((H.out.2.2.2.2.1.trans (HST.out.2.1.mono hsz)).setCell (p := ⟨w.heap.size + 1, 0, none⟩) (Nat.le_succ _) (.slice A1 s.f.length s.f.length)).setCell (p := ⟨w.heap.size + 1, 1, none⟩) (Nat.le_succ _) (.slice (some ⟨G, 0, none⟩) s.L.length s.L.length))
        have HLN := Lib.hid hlen
        have hn1 : ¬ ((s.L.length : Int) < (s.L.length : Int)) := by omega
        clear hst hbw oP hbwc hsz hvz hzi hE hlen oz hX
        go_wp2_with fail
        exact bodyPost_ret (v := .agg #[.slice A1 s.f.length s.f.length, .slice (some ⟨G, 0, none⟩) s.L.length s.L.length]) (by simp [results, Tryz.results20, go_sem, x0, x1]) rfl (HP.out _ _ ⟨A1, s.f.length, s.f, some ⟨G, 0, none⟩, s.L.length, M⟩ (by show _ = Ending.returned (.agg #[.slice A1 s.f.length s.f.length, .slice (some ⟨G, 0, none⟩) M.length s.L.length]); rw [HLN.out]) HX.out HB.out)
end Go.Proofs.YtenjlhlighkenaaGreat
namespace Go.Proofs.YtenjlhlighkenaaGreat
open Go Go.RowKit

def HasI (s s' : Sp) (X : List Up) : Prop := (busyN s.L ≤ 1 → consL [advL s.f X] ≠ [] → HasB s'.L (consL [advL s.f X]).length) ∧ (AllFr s.f s.L → AllFr s.f s'.L)
theorem fr_pl {f : List Tm} {L1 L : List Lv} (pl : L1.map Lv.pl = L.map Lv.pl) (h : AllFr f L) : AllFr f L1 := fun l hl hb => by
  obtain ⟨k, hk, e⟩ := pl_mem pl.symm hl
  have h1 := h k hk (by rw [e.busy]; exact hb)
  exact ⟨by rw [← e.i]; exact h1.1, by rw [← e.j]; exact h1.2.1, by have h2 := e.o; rw [h1.2.2.1] at h2; exact List.map_eq_nil_iff.1 h2.symm, by rw [← e.f]; exact h1.2.2.2⟩
def WhyI (s : Sp) (X : List Up) : Prop := bldE s.f X ≠ 0 ∨ busyN s.L ≠ 0 ∧ (busyN s.L ≤ 1 → ∃ l : Lv, l.pl ∈ s.L.map Lv.pl ∧ l.busy = true ∧ consE [advL l.m.f (partsM l.m)] = 10)
theorem why_pl {s : Sp} {X : List Up} {L1 : List Lv} (pl : L1.map Lv.pl = s.L.map Lv.pl) (h : FailS L1) : WhyI s X := by
  refine .inr ⟨by rw [← (pl_parts pl).2.2.2]; exact h.1, fun hb => ?_⟩
  obtain ⟨l, hl, h1, h2⟩ := h.2 (by rw [(pl_parts pl).2.2.2]; exact hb)
  exact ⟨l, by rw [← pl]; exact List.mem_map_of_mem hl, h1, h2⟩
def InsertedS (s : Sp) (X : List Up) (w : World) (x : Ending) (w' : World) : Prop :=
  ∃ (s' : Sp) (E : Int), x = .returned (.tuple #[s'.val, .int .i64 E]) ∧ (¬ SpGood s.f s.L ∧ E = 8 ∧ s' = Sp.nil ∨ SpGood s.f s.L ∧ s'.f = s.f ∧ (E = 0 ∧ consE [advL s.f X] = 0 ∧ PutTo s.f s.L s'.L X 1 X.length ∧ HasI s s' X ∨ E ≠ 0 ∧ s'.L.map Lv.pl = s.L.map Lv.pl ∧ WhyI s X)) ∧ SpIn w' w'.heap.size s' ∧ SpOk s' ∧ SpLo w.heap.size s' ∧ Below w.heap.size w w'
theorem wk_of_copy {s s1 : Sp} {B base : Nat} {w : World} (h : CopyS s s1 B w) (hb : base ≤ B) (hB : B ≤ w.heap.size) (V : World) (hV : V = w.alloc (.cells #[.slice s1.sA s1.f.length s1.sc, .slice s1.lA s1.L.length s1.lc] 71)) :
    Wk V base w.heap.size s1 ∧ Below w.heap.size w V := by
  have hbv : Below w.heap.size w V := by rw [hV]; exact (Below.refl _ _).alloc (Nat.le_refl _) _
  have h1 := h.low hb
  have hi := h.in_.keep hbv
  have hS : ∀ k, SpS w.heap.size s1.lA k → w.heap.size ≤ k ∨ blkS s1.lA = some k := fun k hk => by
    rcases hk with rfl | hk
    · exact .inl (Nat.le_refl _)
    · exact .inr hk
  have hrl : ∀ k, blkS s1.lA = some k → k < w.heap.size := fun k hk => (h1.row.lt k (by rw [blkS_own]; exact hk)).2
  refine ⟨⟨by rw [hV]; exact Own.made w _ _, own_below h1.row hbv, fun e => by have := hrl _ e; omega, hi.since, ?_, hi.lev.each_, fun l hl => ?_, h.ok, h1.lo.f, h1.lo.each_, by omega, by have := hbv.size; omega⟩, hbv⟩
  · exact ((times_in h.in_.since).or h.soff).less hS
  · exact ((lv_in (h.in_.lev.each_ l hl)).or (h.loff l hl)).less hS
theorem PutTo.swap {f : List Tm} {L1 L L' : List Lv} {Y X : List Up} {n : Nat} (h : PutTo f L1 L' Y 1 n) (pl : L1.map Lv.pl = L.map Lv.pl) (e : EqS f Y X) (hn : n ≤ X.length) : PutTo f L L' X 1 X.length := by
  obtain ⟨p1, p2, p3, _⟩ := pl_parts pl
  have hc := (chkUs_parts h.eq.r).1
  refine ⟨h.good, h.eq.trans ((EqS.of_p hc p1).app e), ?_, ?_⟩
  · rw [← p2]; exact h.cnt
  · rw [← p3]; have := h.wt; omega
theorem Wk.lo_ {W : World} {base g : Nat} {s : Sp} (h : Wk W base g s) : SpLo base s := by
  refine ⟨h.slo, fun b o e => ?_, h.lo⟩
  rcases row_ownK h.row with ⟨h0, _⟩ | ⟨G, cur, h0, hb, _⟩
  · rw [h0] at e; cases e
  · rw [h0] at e
    have := at_block rfl e
    omega
theorem Wk.spin {W : World} {base g : Nat} {s : Sp} (h : Wk W base g s) : SpIn W W.heap.size s := ⟨h.since, h.lies⟩
theorem sp_kept {w X : World} {P : Nat} {s : Sp} (h : SpIn w w.heap.size s) (hlo : SpLo (P + 1) s) (k : KeptK w X (fun b => b = P)) : SpIn X X.heap.size s :=
  ⟨times_kept h.since (hlo.f.of (fun b e => by omega)) k, ⟨lies_kept h.lev.head (fun _ b o e hs => by have := hlo.l b o e; omega) k, fun l hl => lv_kept (h.lev.each_ l hl) ((hlo.each_ l hl).of (fun b e => by omega)) k⟩⟩
theorem SpLo.mono {B B' : Nat} {s : Sp} (h : SpLo B s) (hB : B' ≤ B) : SpLo B' s := ⟨h.f.mono hB, h.l.mono hB, fun l hl => (h.each_ l hl).mono hB⟩
theorem kept_two {w : World} {P : Nat} (x y : Value) : KeptK w ((w.setCell ⟨P, 0, none⟩ x).setCell ⟨P, 1, none⟩ y) (fun b => b = P) := KeptK.set_ (S := fun b => b = P) (KeptK.set_ (S := fun b => b = P) (KeptK.refl w _) (.inl rfl) x) (.inl rfl) y
theorem below_two {w W : World} {P B : Nat} (h : Below B w W) (hP : B ≤ P) (x y : Value) : Below B w ((W.setCell ⟨P, 0, none⟩ x).setCell ⟨P, 1, none⟩ y) := (h.setCell (p := ⟨P, 0, none⟩) hP x).setCell (p := ⟨P, 1, none⟩) hP y
end Go.Proofs.YtenjlhlighkenaaGreat
namespace Go.Proofs.YtenjlhlighkenaaGreat
open Go Go.RowKit

theorem busy_le (L : List Lv) : busyN L ≤ L.length := List.length_filter_le ..
theorem cls_few {f : List Tm} {L : List Lv} (h : SpGood f L) (hw : wtS L ≤ 1048576) : L.length ≤ 21 := by
  have := fall_len (c := 21) h.fall h.pos (fun l hl => by
    have g := h.each l hl
    have w1 := wt_le hl
    cases hb : l.busy
    · have h1 := (g.idle hb).2.2.1
      have h2 : wtL l = l.b.l.length := by unfold wtL; rw [if_neg (by rw [hb]; decide)]
      have := cls_pow (n := l.b.l.length) (k := 21) (by omega)
      omega
    · have h1 := (g.busy hb).2.2.2.1
      have h2 : wtL l = max (l.m.a.length + l.m.b.length) (partsM l.m).length := by unfold wtL; rw [if_pos hb]
      have := cls_pow (n := l.m.a.length) (k := 21) (by omega)
      omega) (by decide)
  omega
theorem cnt_few {f : List Tm} {L : List Lv} (h : SpGood f L) (hw : wtS L ≤ 1048576) : cntS L ≤ 42 := by
  have h1 := cls_few h hw
  have h2 := busy_le L
  rw [cnt_busy]
  omega
theorem WkFin.swap {f : List Tm} {L1 L L2 : List Lv} {fuel : Int} {c : Nat} (h : WkFin f L1 fuel L2 c) (pl : L1.map Lv.pl = L.map Lv.pl) : WkFin f L fuel L2 c := by
  obtain ⟨p1, p2, p3, p4⟩ := pl_parts pl
  have hc := h.eq.r
  refine ⟨h.good, h.eq.trans (EqS.of_p hc p1), by rw [← p2]; exact h.cnt, by rw [← p3]; exact h.wt, by rw [← p3]; exact h.left, ?_⟩
  rw [← p2, ← p3, ← p4]
  exact h.full
def WorkedS (s : Sp) (fuel : Int) (w : World) (x : Ending) (w' : World) : Prop :=
  ∃ (s' : Sp) (c : Nat) (E : Int), x = .returned (.tuple #[s'.val, .int .i64 (c : Int), .int .i64 E]) ∧ (¬ SpGood s.f s.L ∧ E = 8 ∧ c = 0 ∧ s' = Sp.nil ∨ SpGood s.f s.L ∧ s'.f = s.f ∧ (E = 0 ∧ WkFin s.f s.L fuel s'.L c ∨ E = 10 ∧ c = 0 ∧ s'.L.map Lv.pl = s.L.map Lv.pl)) ∧ SpIn w' w'.heap.size s' ∧ SpOk s' ∧ SpLo w.heap.size s' ∧ Below w.heap.size w w'
end Go.Proofs.YtenjlhlighkenaaGreat
namespace Go.Proofs.YtenjlhlighkenaaGreat
open Go Go.RowKit

set_option maxRecDepth 100000 in
set_option maxHeartbeats 12800000 in
theorem work_sp (s : Sp) (fuel : Int) (w : World) (hs : SpIn w w.heap.size s) (ok : SpOk s) (hw : wtS s.L ≤ 274877906944) (hf1 : -9223372036854775808 ≤ fuel) (hf2 : fuel ≤ 9223372036854775807) :
    Calls Tryz.prog 8 #[s.val, .int .i64 fuel] w (WorkedS s fuel w) := by
  obtain ⟨V, hV, hvb, hvs, hvo, hvz⟩ := sp_box2 w s
  have hin := hs.keep hvb
  have y1 := Lib.hid (scheck_any s V hin ok)
  have H := Lib.hid (And.intro hs (And.intro ok (And.intro hw (And.intro hvb (And.intro hvo (And.intro hvz (And.intro hf1 hf2)))))))
  obtain ⟨d0, d1⟩ := own2 hvo
  have HP := Lib.hid (show ∀ x w' (s' : Sp) (c : Nat) (E : Int), x = .returned (.tuple #[s'.val, .int .i64 (c : Int), .int .i64 E]) → (¬ SpGood s.f s.L ∧ E = 8 ∧ c = 0 ∧ s' = Sp.nil ∨ SpGood s.f s.L ∧ s'.f = s.f ∧ (E = 0 ∧ WkFin s.f s.L fuel s'.L c ∨ E = 10 ∧ c = 0 ∧ s'.L.map Lv.pl = s.L.map Lv.pl)) → SpIn w' w'.heap.size s' → SpOk s' → SpLo w.heap.size s' → Below w.heap.size w w' → WorkedS s fuel w x w' from fun x w' s' c E h1 h2 h3 h4 h5 h6 => ⟨s', c, E, h1, h2, h3, h4, h5, h6⟩)
  have hsv : s.val = .agg #[.slice s.sA s.f.length s.sc, .slice s.lA s.L.length s.lc] := rfl
  rw [hsv] at y1 ⊢
  clear hs ok hw hvb hvs hvo hvz hin hf1 hf2
  go_enter Tryz.func8, Tryz.ntmps8
  go_upto_region 1 with fail
  rw [← hV]
  clear hV
  go_wp2_with fail
  refine y1.out.mono ?_
  rintro _ w1 ⟨n, rfl, hn, b1⟩
  have hv1 := H.out.2.2.2.2.1.past b1 H.out.2.2.2.2.1.inside
  have hz1 := H.out.2.2.2.2.2.1.past b1 H.out.2.2.2.2.2.1.inside
  have H1 := Lib.hid (And.intro hn (And.intro (H.out.2.2.2.1.trans (b1.mono H.out.2.2.2.1.size)) (And.intro hv1 (And.intro hz1 hz1.inside))))
  clear hn b1 d0 d1 y1
  by_cases h0 : n = 0
  case neg =>
    have t1 : (n != 0) = true := bne_iff_ne.2 h0
    have HN := Lib.hid (show ¬ SpGood s.f s.L ∧ n = 8 from by
      rcases H1.out.1 with ⟨_, h⟩ | h
      · exact absurd h h0
      · exact h)
    obtain ⟨z0, z1⟩ := own2 hz1
    have f0 := hz1.open_ 0
    have f1 := hz1.open_ 1
    have hX := (hz1.set_ 0 (.slice none 0 0)).set_ 1 (.slice none 0 0)
    obtain ⟨x0, x1⟩ := own2 hX
    have HB := Lib.hid (below_two H1.out.2.1 (Nat.le_succ _) (P := w.heap.size + 1) (.slice none 0 0) (.slice none 0 0))
    clear hv1 hz1 hX h0
    go_wp2_with fail
    exact bodyPost_ret (v := .tuple #[.agg #[.slice none 0 0, .slice none 0 0], .int .i64 0, .int .i64 n]) (by simp [results, Tryz.results8, go_sem, x0, x1]) rfl (HP.out _ _ Sp.nil 0 n rfl (.inl ⟨HN.out.1, HN.out.2, rfl, rfl⟩) (sp_nil_in _ _) sp_nil_ok (sp_nil_lo _) HB.out)
  subst h0
  have hgood : SpGood s.f s.L := by
    rcases H1.out.1 with ⟨h, _⟩ | ⟨_, h⟩
    · exact h
    · exact absurd h (by decide)
  have hin1 := H.out.1.keep H1.out.2.1
  have hwt : wtS s.L ≤ 274877906944 := H.out.2.2.1
  have y2 := Lib.hid (copyS_any s w1 hin1 H.out.2.1 hgood hwt)
  have HG := Lib.hid hgood
  obtain ⟨d0, d1⟩ := own2 hv1
  rw [hsv] at y2
  clear hv1 hz1 hgood hin1 hwt
  go_wp2_with fail
  refine y2.out.mono ?_
  rintro _ w2 ⟨s1, rfl, hc, b2⟩
  rw [show s1.val = .agg #[.slice s1.sA s1.f.length s1.sc, .slice s1.lA s1.L.length s1.lc] from rfl]
  obtain ⟨V3, hV3⟩ : ∃ V3, V3 = w2.alloc (.cells #[.slice s1.sA s1.f.length s1.sc, .slice s1.lA s1.L.length s1.lc] 71) := ⟨_, rfl⟩
  obtain ⟨hwk, b3⟩ := wk_of_copy (base := w1.heap.size) hc (Nat.le_refl _) b2.size V3 hV3
  have b23 := belows b2 b3
  have b03 := belows H1.out.2.1 b23
  have HC := Lib.hid (And.intro hc.f hc.L)
  have H3 := Lib.hid (And.intro hwk (And.intro b03 (And.intro (H1.out.2.2.1.past b23 H1.out.2.2.1.inside) (And.intro (H1.out.2.2.2.1.past b23 H1.out.2.2.2.1.inside) (Nat.le_trans H1.out.2.2.2.2 b2.size)))))
  have hgood1 : SpGood s1.f s1.L := by rw [HC.out.1]; exact pl_good HC.out.2.symm HG.out
  have y3 := Lib.hid (workS_any w1.heap.size w2.heap.size s1 fuel V3 hwk hgood1 (by rw [(pl_parts HC.out.2).2.2.1]; exact H.out.2.2.1) H.out.2.2.2.2.2.2.1 H.out.2.2.2.2.2.2.2)
  clear hc hwk b2 b3 b23 b03 d0 d1 y2 hgood1
  go_upto_region 5 with fail
  rw [← hV3]
  clear hV3
  go_wp2_with fail
  refine y3.out.mono ?_
  rintro _ w5 ⟨c, E2, rfl, hk5, h5⟩
  have hlt2 : ∀ k, SpS w2.heap.size s1.lA k → w1.heap.size ≤ k := fun k hk => (H3.out.1.lt k hk).1
  have b05 : Below w.heap.size w w5 := H3.out.2.1.trans (hk5.below (fun k hk => Nat.le_trans H1.out.2.1.size (hlt2 k hk)) (H3.out.2.1.size))
  have o25 := hk5.own H3.out.2.2.1 (fun hs => by have h1 := hlt2 _ hs; have h2 := H1.out.2.2.2.2; omega)
  have oz5 := hk5.own H3.out.2.2.2.1 (fun hs => by have h1 := hlt2 _ hs; have h2 := H1.out.2.2.2.2; omega)
  have HB5 := Lib.hid (And.intro b05 (And.intro o25 oz5))
  by_cases hE2 : E2 = 0
  · have t2 : (E2 != 0) = false := by rw [hE2]; rfl
    obtain ⟨s', hwk2, q1, q2, q3, hfin⟩ : ∃ s', Wk w5 w1.heap.size w2.heap.size s' ∧ s'.sA = s1.sA ∧ s'.sc = s1.sc ∧ s'.f = s1.f ∧ WkFin s1.f s1.L fuel s'.L c := by
      rcases h5 with ⟨_, h⟩ | h
      · exact h
      · have := h.1; omega
    obtain ⟨g0, g1⟩ := own2 hwk2.own
    obtain ⟨z0, z1⟩ := own2 oz5
    have f0 := oz5.open_ 0
    have f1 := oz5.open_ 1
    have hX := (oz5.set_ 0 (.slice s'.sA s'.f.length s'.sc)).set_ 1 (.slice s'.lA s'.L.length s'.lc)
    obtain ⟨x0, x1⟩ := own2 hX
    have hlo := hwk2.lo_
    have HX := Lib.hid (And.intro (sp_kept hwk2.spin (hlo.mono H1.out.2.2.2.2) (kept_two (P := w.heap.size + 1) (.slice s'.sA s'.f.length s'.sc) (.slice s'.lA s'.L.length s'.lc))) (And.intro hwk2.ok (And.intro (hlo.mono H1.out.2.1.size) (And.intro (below_two b05 (Nat.le_succ w.heap.size) (.slice s'.sA s'.f.length s'.sc) (.slice s'.lA s'.L.length s'.lc)) (And.intro (q3.trans HC.out.1) (by
      have h1 := hfin.swap HC.out.2
      rw [HC.out.1] at h1
      exact h1 : WkFin s.f s.L fuel s'.L c))))))
    subst hE2
    clear hk5 h5 hlt2 b05 o25 oz5 hwk2 hX hlo y3 q1 q2 q3 hfin
    go_wp2_with fail
    exact bodyPost_ret (v := .tuple #[.agg #[.slice s'.sA s'.f.length s'.sc, .slice s'.lA s'.L.length s'.lc], .int .i64 (c : Int), .int .i64 0]) (by simp [results, Tryz.results8, go_sem, x0, x1]) rfl (HP.out _ _ s' c 0 rfl (.inr ⟨HG.out, HX.out.2.2.2.2.1, .inl ⟨rfl, HX.out.2.2.2.2.2⟩⟩) HX.out.1 HX.out.2.1 HX.out.2.2.1 HX.out.2.2.2.1)
  · have t2 : (E2 != 0) = true := bne_iff_ne.2 hE2
    have HNE := Lib.hid (show E2 = 10 from by
      rcases h5 with ⟨h, _⟩ | h
      · exact absurd h hE2
      · exact h.1)
    clear hk5 h5 hlt2 b05 o25 oz5 hE2 y3
    have hin6 := H.out.1.keep HB5.out.1
    have hwt6 : wtS s.L ≤ 274877906944 := H.out.2.2.1
    have y6 := Lib.hid (copyS_any s w5 hin6 H.out.2.1 HG.out hwt6)
    obtain ⟨d0, d1⟩ := own2 HB5.out.2.1
    rw [hsv] at y6
    clear hin6 hwt6
    go_wp2_with fail
    refine y6.out.mono ?_
    rintro _ w6 ⟨s3, rfl, hc3, b6⟩
    have oz := HB5.out.2.2.past b6 HB5.out.2.2.inside
    obtain ⟨z0, z1⟩ := own2 oz
    have f0 := oz.open_ 0
    have f1 := oz.open_ 1
    have hX := (oz.set_ 0 (.slice s3.sA s3.f.length s3.sc)).set_ 1 (.slice s3.lA s3.L.length s3.lc)
    obtain ⟨x0, x1⟩ := own2 hX
    have hP1 : w.heap.size + 1 < w5.heap.size := HB5.out.2.2.inside
    have HX := Lib.hid (And.intro (sp_kept hc3.in_ (hc3.lo.mono hP1) (kept_two (P := w.heap.size + 1) (.slice s3.sA s3.f.length s3.sc) (.slice s3.lA s3.L.length s3.lc))) (And.intro hc3.ok (And.intro (hc3.lo.mono HB5.out.1.size) (And.intro (below_two (belows HB5.out.1 b6) (Nat.le_succ w.heap.size) (.slice s3.sA s3.f.length s3.sc) (.slice s3.lA s3.L.length s3.lc)) (And.intro hc3.f hc3.L)))))
    rw [show s3.val = .agg #[.slice s3.sA s3.f.length s3.sc, .slice s3.lA s3.L.length s3.lc] from rfl]
    clear hc3 b6 oz hX d0 d1 y6
    go_wp2_with fail
    exact bodyPost_ret (v := .tuple #[.agg #[.slice s3.sA s3.f.length s3.sc, .slice s3.lA s3.L.length s3.lc], .int .i64 0, .int .i64 E2]) (by simp [results, Tryz.results8, go_sem, x0, x1]) rfl (HP.out _ _ s3 0 E2 rfl (.inr ⟨HG.out, HX.out.2.2.2.2.1, .inr ⟨HNE.out, rfl, HX.out.2.2.2.2.2⟩⟩) HX.out.1 HX.out.2.1 HX.out.2.2.1 HX.out.2.2.2.1)
end Go.Proofs.YtenjlhlighkenaaGreat
namespace Go.Proofs.YtenjlhlighkenaaGreat
open Go Go.RowKit

set_option maxRecDepth 100000 in
set_option maxHeartbeats 12800000 in
theorem insert_sp (s : Sp) (A : Option Addr) (c : Nat) (L : List (Rw Up)) (w : World) (hs : SpIn w w.heap.size s) (ok : SpOk s) (hl : ULs w w.heap.size A L) (hok : ∀ r ∈ L, ∀ u ∈ r.l, UOk u) (hw : wtS s.L + (flatR L).length ≤ 274877906944) (hn : L.length ≤ 1099511627776) :
    Calls Tryz.prog 7 #[s.val, .slice A L.length c] w (InsertedS s (flatR L) w) := by
  obtain ⟨V, hV, hvb, hvs, hvo, hvz⟩ := sp_box2 w s
  have hin := hs.keep hvb
  have y1 := Lib.hid (scheck_any s V hin ok)
  have H := Lib.hid (And.intro hs (And.intro ok (And.intro hl (And.intro hok (And.intro hw (And.intro hn (And.intro hvb (And.intro hvo hvz))))))))
  obtain ⟨d0, d1⟩ := own2 hvo
  have HP := Lib.hid (show ∀ x w' (s' : Sp) (E : Int), x = .returned (.tuple #[s'.val, .int .i64 E]) → (¬ SpGood s.f s.L ∧ E = 8 ∧ s' = Sp.nil ∨ SpGood s.f s.L ∧ s'.f = s.f ∧ (E = 0 ∧ consE [advL s.f (flatR L)] = 0 ∧ PutTo s.f s.L s'.L (flatR L) 1 (flatR L).length ∧ HasI s s' (flatR L) ∨ E ≠ 0 ∧ s'.L.map Lv.pl = s.L.map Lv.pl ∧ WhyI s (flatR L))) → SpIn w' w'.heap.size s' → SpOk s' → SpLo w.heap.size s' → Below w.heap.size w w' → InsertedS s (flatR L) w x w' from fun x w' s' E h1 h2 h3 h4 h5 h6 => ⟨s', E, h1, h2, h3, h4, h5, h6⟩)
  have hsv : s.val = .agg #[.slice s.sA s.f.length s.sc, .slice s.lA s.L.length s.lc] := rfl
  rw [hsv] at y1 ⊢
  clear hs ok hl hok hw hn hvb hvs hvo hvz hin
  go_enter Tryz.func7, Tryz.ntmps7
  go_upto_region 1 with fail
  rw [← hV]
  clear hV
  go_wp2_with fail
  refine y1.out.mono ?_
  rintro _ w1 ⟨n, rfl, hn, b1⟩
  have hv1 := H.out.2.2.2.2.2.2.2.1.past b1 H.out.2.2.2.2.2.2.2.1.inside
  have hz1 := H.out.2.2.2.2.2.2.2.2.past b1 H.out.2.2.2.2.2.2.2.2.inside
  have H1 := Lib.hid (And.intro hn (And.intro (H.out.2.2.2.2.2.2.1.trans (b1.mono H.out.2.2.2.2.2.2.1.size)) (And.intro hv1 (And.intro hz1 hz1.inside))))
  clear hn b1 d0 d1 y1
  by_cases h0 : n = 0
  case neg =>
    have t1 : (n != 0) = true := bne_iff_ne.2 h0
    have HN := Lib.hid (show ¬ SpGood s.f s.L ∧ n = 8 from by
      rcases H1.out.1 with ⟨_, h⟩ | h
      · exact absurd h h0
      · exact h)
    obtain ⟨z0, z1⟩ := own2 hz1
    have f0 := hz1.open_ 0
    have f1 := hz1.open_ 1
    have hX := (hz1.set_ 0 (.slice none 0 0)).set_ 1 (.slice none 0 0)
    obtain ⟨x0, x1⟩ := own2 hX
    have HB := Lib.hid (below_two H1.out.2.1 (Nat.le_succ _) (P := w.heap.size + 1) (.slice none 0 0) (.slice none 0 0))
    clear hv1 hz1 hX h0
    go_wp2_with fail
    exact bodyPost_ret (v := .tuple #[.agg #[.slice none 0 0, .slice none 0 0], .int .i64 n]) (by simp [results, Tryz.results7, go_sem, x0, x1]) rfl (HP.out _ _ Sp.nil n rfl (.inl ⟨HN.out.1, HN.out.2, rfl⟩) (sp_nil_in _ _) sp_nil_ok (sp_nil_lo _) HB.out)
  subst h0
  have hgood : SpGood s.f s.L := by
    rcases H1.out.1 with ⟨h, _⟩ | ⟨_, h⟩
    · exact h
    · exact absurd h (by decide)
  have hin1 := H.out.1.keep H1.out.2.1
  have hwt : wtS s.L ≤ 274877906944 := by have := H.out.2.2.2.2.1; omega
  have y2 := Lib.hid (copyS_any s w1 hin1 H.out.2.1 hgood hwt)
  have HG := Lib.hid hgood
  obtain ⟨d0, d1⟩ := own2 hv1
  rw [hsv] at y2
  clear hv1 hz1 hgood hin1 hwt
  go_wp2_with fail
  refine y2.out.mono ?_
  rintro _ w2 ⟨s1, rfl, hc, b2⟩
  rw [show s1.val = .agg #[.slice s1.sA s1.f.length s1.sc, .slice s1.lA s1.L.length s1.lc] from rfl]
  obtain ⟨V3, hV3⟩ : ∃ V3, V3 = w2.alloc (.cells #[.slice s1.sA s1.f.length s1.sc, .slice s1.lA s1.L.length s1.lc] 71) := ⟨_, rfl⟩
  obtain ⟨hwk, b3⟩ := wk_of_copy (base := w1.heap.size) hc (Nat.le_refl _) b2.size V3 hV3
  have b23 := belows b2 b3
  have b03 := belows H1.out.2.1 b23
  have HC := Lib.hid (And.intro hc.f hc.L)
  have H3 := Lib.hid (And.intro hwk (And.intro b03 (And.intro (H1.out.2.2.1.past b23 H1.out.2.2.1.inside) (And.intro (H1.out.2.2.2.1.past b23 H1.out.2.2.2.1.inside) (Nat.le_trans H1.out.2.2.2.2 b2.size)))))
  have y3 := Lib.hid (build_any s1.sA s1.sc s1.f A c L V3 hwk.since hwk.ok.f (H.out.2.2.1.keep b03) H.out.2.2.2.1 (by have := H.out.2.2.2.2.1; omega) H.out.2.2.2.2.2.1)
  have g0 : V3.cell? ⟨w2.heap.size, 0, none⟩ = some (.slice s1.sA s1.f.length s1.sc) := hwk.own.at_ 0
  clear hc hwk b2 b3 b23 b03 d0 d1 y2
  go_upto_region 5 with fail
  rw [← hV3]
  clear hV3
  go_wp2_with fail
  refine y3.out.mono ?_
  rintro _ w4 ⟨b, rfl, hb0, hbn, ib, ob, lb, b4⟩
  obtain ⟨E, hE⟩ : ∃ E, bldE s1.f (flatR L) = E := ⟨_, rfl⟩
  rw [hE] at hb0 hbn ⊢
  have HE := Lib.hid hE
  obtain ⟨V4, hV4, hb4, hs4, ho4⟩ := btbox w4 b
  have b44 := belows b4 hb4
  have H4 := Lib.hid (And.intro hb0 (And.intro (ib.keep hb4) (And.intro ob (And.intro lb (And.intro ho4 (And.intro (H3.out.1.past b44) (And.intro (belows H3.out.2.1 b44) (And.intro (H3.out.2.2.1.past b44 H3.out.2.2.1.inside) (And.intro (H3.out.2.2.2.1.past b44 H3.out.2.2.2.1.inside) b44)))))))))
  rw [show b.val = .agg #[.slice b.sA b.f.length b.sc, .slice b.uA b.l.length b.uc] from rfl]
  clear hb0 hbn ib ob lb b4 hb4 hs4 ho4 b44 hE g0 y3
  go_upto_region 6 with fail
  rw [← hV4]
  clear hV4
  by_cases hE0 : E = 0
  · have t1 : (E == 0) = true := by rw [hE0]; rfl
    have hlen : b.l.length ≤ (flatR L).length := by
      have h1 := congrArg List.length (H4.out.1 hE0).2.2
      have h2 := consL_len [advL s1.f (flatR L)]
      rw [List.length_map] at h1
      simp only [List.flatten_cons, List.flatten_nil, List.append_nil] at h2
      have h3 : (advL s1.f (flatR L)).length = (flatR L).length := List.length_map ..
      omega
    have hcons : consE [advL s1.f (flatR L)] = 0 := by
      have h1 := HE.out
      unfold bldE at h1
      rw [if_pos (show chk s1.f = 0 ∧ frontL s1.f = s1.f from (H4.out.1 hE0).1)] at h1
      omega
    have hgood1 : SpGood s1.f s1.L := by rw [HC.out.1]; exact pl_good HC.out.2.symm HG.out
    have hok : PutIn w1.heap.size w2.heap.size s1 b V4 := ⟨H4.out.2.2.2.2.2.1, hgood1, H4.out.2.1, H4.out.2.2.1, H4.out.2.2.2.1.of (fun k hk => (H3.out.1.lt k hk).2), H4.out.2.2.2.1.mono (H3.out.1.base_), by
      obtain ⟨k1, k2, k3⟩ := H4.out.1 hE0
      rw [k2]
      exact batch_ok k1 hcons k3, by rw [(H4.out.1 hE0).2.1]; exact later_refl _, by
      have h1 := (pl_parts HC.out.2).2.2.1
      have h2 := H.out.2.2.2.2.1
      omega⟩
    have y4 := Lib.hid (put_any w1.heap.size w2.heap.size _ s1 b V4 hok (Nat.le_refl _))
    have HK := Lib.hid (And.intro hlen (And.intro hcons hok))
    obtain ⟨e0, e1⟩ := own2 H4.out.2.2.2.2.1
    rw [show b.val = .agg #[.slice b.sA b.f.length b.sc, .slice b.uA b.l.length b.uc] from rfl] at y4
    have HE0 := Lib.hid hE0
    clear hlen hcons hgood1 hok hE0
    go_wp2_with fail
    refine y4.out.mono ?_
    rintro _ w5 ⟨E2, rfl, hk5, h5⟩
    have hlt2 : ∀ k, SpS w2.heap.size s1.lA k → w1.heap.size ≤ k := fun k hk => (H3.out.1.lt k hk).1
    have b05 : Below w.heap.size w w5 := H4.out.2.2.2.2.2.2.1.trans (hk5.below (fun k hk => Nat.le_trans H1.out.2.1.size (hlt2 k hk)) (H4.out.2.2.2.2.2.2.1.size))
    have o25 := hk5.own H4.out.2.2.2.2.2.2.2.1 (fun hs => by have h1 := hlt2 _ hs; have h2 := H1.out.2.2.2.2; omega)
    have oz5 := hk5.own H4.out.2.2.2.2.2.2.2.2.1 (fun hs => by have h1 := hlt2 _ hs; have h2 := H1.out.2.2.2.2; omega)
    have HB5 := Lib.hid (And.intro b05 (And.intro o25 oz5))
    by_cases hE2 : E2 = 0
    · have t2 : (E2 != 0) = false := by rw [hE2]; rfl
      have hput : ∃ s', PutOut w1.heap.size w2.heap.size s1 b.l 1 b.l.length V4 w5 s' := by
        rcases h5 with ⟨_, h⟩ | h
        · exact h
        · have := h.1; omega
      obtain ⟨s', hp⟩ := hput
      obtain ⟨g0, g1⟩ := own2 hp.wk.own
      obtain ⟨z0, z1⟩ := own2 oz5
      have f0 := oz5.open_ 0
      have f1 := oz5.open_ 1
      have hX := (oz5.set_ 0 (.slice s'.sA s'.f.length s'.sc)).set_ 1 (.slice s'.lA s'.L.length s'.lc)
      obtain ⟨x0, x1⟩ := own2 hX
      have hlo := hp.wk.lo_
      have HX := Lib.hid (And.intro (sp_kept hp.wk.spin (hlo.mono H1.out.2.2.2.2) (kept_two (P := w.heap.size + 1) (.slice s'.sA s'.f.length s'.sc) (.slice s'.lA s'.L.length s'.lc))) (And.intro hp.wk.ok (And.intro (hlo.mono H1.out.2.1.size) (And.intro (below_two b05 (Nat.le_succ w.heap.size) (.slice s'.sA s'.f.length s'.sc) (.slice s'.lA s'.L.length s'.lc)) (And.intro (hp.h3.trans HC.out.1) (by
        have h1 := hp.put.swap HC.out.2 (eqs_cons (HK.out.2.2.good.front.right) HK.out.2.1 (H4.out.1 HE0.out).2.2) HK.out.1
        rw [HC.out.1] at h1
        have h2 : HasI s s' (flatR L) := ⟨fun hb hq => by
          have e2 := (H4.out.1 HE0.out).2.2
          rw [HC.out.1] at e2
          have e3 := congrArg List.length e2
          rw [List.length_map] at e3
          rw [← e3]
          exact hp.has.new (by rw [(pl_parts HC.out.2).2.2.2]; exact hb) (fun h0 => hq (List.eq_nil_of_length_eq_zero (e3.symm.trans h0))), fun h => by
          have h3 := hp.has.fr
          rw [HC.out.1] at h3
          exact h3 (fr_pl HC.out.2 h)⟩
        exact And.intro h1 h2 : PutTo s.f s.L s'.L (flatR L) 1 (flatR L).length ∧ HasI s s' (flatR L)))))))
      have HCE := Lib.hid (show consE [advL s.f (flatR L)] = 0 by rw [← HC.out.1]; exact HK.out.2.1)
      clear hk5 h5 hlt2 b05 o25 oz5 hE2 hp hX hlo e0 e1 y4
      go_wp2_with fail
      exact bodyPost_ret (v := .tuple #[.agg #[.slice s'.sA s'.f.length s'.sc, .slice s'.lA s'.L.length s'.lc], .int .i64 0]) (by simp [results, Tryz.results7, go_sem, x0, x1]) rfl (HP.out _ _ s' 0 rfl (.inr ⟨HG.out, HX.out.2.2.2.2.1, .inl ⟨rfl, HCE.out, HX.out.2.2.2.2.2⟩⟩) HX.out.1 HX.out.2.1 HX.out.2.2.1 HX.out.2.2.2.1)
    · have t2 : (E2 != 0) = true := bne_iff_ne.2 hE2
      have HNE := Lib.hid hE2
      have HWY := Lib.hid (show WhyI s (flatR L) from by
        rcases h5 with ⟨h, _⟩ | h
        · exact absurd h hE2
        · exact why_pl HC.out.2 h.2)
      clear hk5 h5 hlt2 b05 o25 oz5 hE2 e0 e1 y4
      have hin6 := H.out.1.keep HB5.out.1
      have hwt6 : wtS s.L ≤ 274877906944 := by have := H.out.2.2.2.2.1; omega
      have y6 := Lib.hid (copyS_any s w5 hin6 H.out.2.1 HG.out hwt6)
      obtain ⟨d0, d1⟩ := own2 HB5.out.2.1
      rw [hsv] at y6
      clear hin6 hwt6
      go_wp2_with fail
      refine y6.out.mono ?_
      rintro _ w6 ⟨s3, rfl, hc3, b6⟩
      have oz := HB5.out.2.2.past b6 HB5.out.2.2.inside
      obtain ⟨z0, z1⟩ := own2 oz
      have f0 := oz.open_ 0
      have f1 := oz.open_ 1
      have hX := (oz.set_ 0 (.slice s3.sA s3.f.length s3.sc)).set_ 1 (.slice s3.lA s3.L.length s3.lc)
      obtain ⟨x0, x1⟩ := own2 hX
      have hP1 : w.heap.size + 1 < w5.heap.size := HB5.out.2.2.inside
      have HX := Lib.hid (And.intro (sp_kept hc3.in_ (hc3.lo.mono hP1) (kept_two (P := w.heap.size + 1) (.slice s3.sA s3.f.length s3.sc) (.slice s3.lA s3.L.length s3.lc))) (And.intro hc3.ok (And.intro (hc3.lo.mono HB5.out.1.size) (And.intro (below_two (belows HB5.out.1 b6) (Nat.le_succ w.heap.size) (.slice s3.sA s3.f.length s3.sc) (.slice s3.lA s3.L.length s3.lc)) (And.intro hc3.f hc3.L)))))
      rw [show s3.val = .agg #[.slice s3.sA s3.f.length s3.sc, .slice s3.lA s3.L.length s3.lc] from rfl]
      clear hc3 b6 oz hX d0 d1 y6
      go_wp2_with fail
      exact bodyPost_ret (v := .tuple #[.agg #[.slice s3.sA s3.f.length s3.sc, .slice s3.lA s3.L.length s3.lc], .int .i64 E2]) (by simp [results, Tryz.results7, go_sem, x0, x1]) rfl (HP.out _ _ s3 E2 rfl (.inr ⟨HG.out, HX.out.2.2.2.2.1, .inr ⟨HNE.out, HX.out.2.2.2.2.2, HWY.out⟩⟩) HX.out.1 HX.out.2.1 HX.out.2.2.1 HX.out.2.2.2.1)
  · have t1 : (E == 0) = false := beq_eq_false_iff_ne.2 hE0
    have t2 : (E != 0) = true := bne_iff_ne.2 hE0
    have HNE := Lib.hid hE0
    have HWY := Lib.hid (show WhyI s (flatR L) from .inl (by rw [← HC.out.1, HE.out]; exact hE0))
    have HB5 := Lib.hid (And.intro H4.out.2.2.2.2.2.2.1 (And.intro H4.out.2.2.2.2.2.2.2.1 H4.out.2.2.2.2.2.2.2.2.1))
    clear hE0
    have hin6 := H.out.1.keep HB5.out.1
    have hwt6 : wtS s.L ≤ 274877906944 := by have := H.out.2.2.2.2.1; omega
    have y6 := Lib.hid (copyS_any s V4 hin6 H.out.2.1 HG.out hwt6)
    obtain ⟨d0, d1⟩ := own2 HB5.out.2.1
    rw [hsv] at y6
    clear hin6 hwt6
    go_wp2_with fail
    refine y6.out.mono ?_
    rintro _ w6 ⟨s3, rfl, hc3, b6⟩
    have oz := HB5.out.2.2.past b6 HB5.out.2.2.inside
    obtain ⟨z0, z1⟩ := own2 oz
    have f0 := oz.open_ 0
    have f1 := oz.open_ 1
    have hX := (oz.set_ 0 (.slice s3.sA s3.f.length s3.sc)).set_ 1 (.slice s3.lA s3.L.length s3.lc)
    obtain ⟨x0, x1⟩ := own2 hX
    have hP1 : w.heap.size + 1 < V4.heap.size := HB5.out.2.2.inside
    have HX := Lib.hid (And.intro (sp_kept hc3.in_ (hc3.lo.mono hP1) (kept_two (P := w.heap.size + 1) (.slice s3.sA s3.f.length s3.sc) (.slice s3.lA s3.L.length s3.lc))) (And.intro hc3.ok (And.intro (hc3.lo.mono HB5.out.1.size) (And.intro (below_two (belows HB5.out.1 b6) (Nat.le_succ w.heap.size) (.slice s3.sA s3.f.length s3.sc) (.slice s3.lA s3.L.length s3.lc)) (And.intro hc3.f hc3.L)))))
    rw [show s3.val = .agg #[.slice s3.sA s3.f.length s3.sc, .slice s3.lA s3.L.length s3.lc] from rfl]
    clear hc3 b6 oz hX d0 d1 y6
    go_wp2_with fail
    exact bodyPost_ret (v := .tuple #[.agg #[.slice s3.sA s3.f.length s3.sc, .slice s3.lA s3.L.length s3.lc], .int .i64 E]) (by simp [results, Tryz.results7, go_sem, x0, x1]) rfl (HP.out _ _ s3 E rfl (.inr ⟨HG.out, HX.out.2.2.2.2.1, .inr ⟨HNE.out, HX.out.2.2.2.2.2, HWY.out⟩⟩) HX.out.1 HX.out.2.1 HX.out.2.2.1 HX.out.2.2.2.1)
end Go.Proofs.YtenjlhlighkenaaGreat
