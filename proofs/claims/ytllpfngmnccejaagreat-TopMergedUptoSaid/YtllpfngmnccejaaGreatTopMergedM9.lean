/- Part 9 of the texts on which TopMerged rests: facts and contracts. -/
import Derived.Test.YtllpfngmnccejaaGreatTopMergedM8
import Derived.Lib.Bytealg
import Derived.Laws.CopyRow
import Derived.Laws.CopyOwn
import Derived.OwnWalk
import Derived.Lib.AppendZerosOnto
import Derived.Lib.Overlaps
import Derived.Laws.Externs
import Derived.Test.YtllpfngmnccejaaGreatProg
import Derived.Deep.Draws
import Derived.Deep.RegionLaw
import Derived.Outline
import Derived.Handy
import Derived.Test.YtllpfngmnccejaaGreatShelf
import Derived.Deep.Cut
import Derived.Deep.DeepCutAuto
import Derived.BigQuiet
import Derived.Deep.RegionHeld3
namespace Go.Proofs.YtllpfngmnccejaaGreat
open Go Go.RowKit

set_option maxRecDepth 100000 in
set_option maxHeartbeats 1600000 in
theorem brow_any (n : Int) (w : World) : Calls Tryz.prog 43 #[.int .i64 n] w fun x w' => ∃ G, x = .returned (.slice (some ⟨G, 0, none⟩) 1 1) ∧ Vals w' w'.heap.size (some ⟨G, 0, none⟩) [vnum n] ∧ Below w.heap.size w w' := by
  have hv := Lib.hid (vals_num w n)
  go_enter Tryz.func43, Tryz.ntmps43
  go_wp2_with fail
  go_ret
  exact ⟨_, rfl, hv.out, (Below.refl _ _).alloc (Nat.le_refl _) _⟩
/-- one update in a row of its own -/
theorem box_one (w : World) (G : Nat) (n d : Int) (h : Vals w w.heap.size (some ⟨G, 0, none⟩) [vnum n]) :
    ∃ V, V = w.alloc (.cells #[.slice none 0 0, .slice (some ⟨G, 0, none⟩) 1 1, .int .u64 0, .int .u64 0, .int .u64 0, .int .i64 d] 48) ∧ Below w.heap.size w V ∧ Ups V V.heap.size (some ⟨w.heap.size, 0, none⟩) [lu G n d 0] := by
  obtain ⟨W, e1, s1, b1, o1⟩ := boxd w [.slice none 0 0, .slice (some ⟨G, 0, none⟩) 1 1, .int .u64 0, .int .u64 0, .int .u64 0, .int .i64 d] 48
  refine ⟨W, e1, b1, ups_own (t := 48) (l := [lu G n d 0]) o1 fun u hu => ?_⟩
  obtain rfl : u = lu G n d 0 := by simpa using hu
  exact lu_in (vals_keep h b1)
theorem bld_a (G1 G2 : Nat) : bldE [] [lu G1 1 1 0, lu G2 2 5 0] = 0 := (if_pos bfront_nil).trans (bl_a G1 G2).2
theorem bld_b (G : Nat) : bldE [] [lu G 1 (-1) 0] = 0 := (if_pos bfront_nil).trans (bl_b G).2
theorem lu_ok' {G : Nat} {n d : Int} (hn : n = 1 ∨ n = 2) (hd : d = 1 ∨ d = 5 ∨ d = -1) : UOk (lu G n d 0) := lu_ok (by omega) (by omega)
/-- Build at the first two lists -/
theorem build_a (A A1 A2 : Option Addr) (G1 G2 : Nat) (w : World) (h : ULs w w.heap.size A [⟨A1, 1, [lu G1 1 1 0]⟩, ⟨A2, 1, [lu G2 2 5 0]⟩]) :
    Calls Tryz.prog 20 #[.slice none 0 0, .slice A 2 2] w fun x w' => ∃ b : Bt, x = .returned (.tuple #[b.val, .int .i64 0]) ∧ b.f = [] ∧ b.l.map Up.p = [(bk 1, (1 : Int)), (bk 2, 5)] ∧ BatchOk b.f b.l ∧ BtIn w' w'.heap.size b ∧ BtOk b ∧ Below w.heap.size w w' := by
  have := build_any none 0 [] A 2 [⟨A1, 1, [lu G1 1 1 0]⟩, ⟨A2, 1, [lu G2 2 5 0]⟩] w Times.nil_ ts_nil h (fun s hs u hu => by
    rcases List.mem_cons.1 hs with rfl | hs
    · obtain rfl : u = lu G1 1 1 0 := by simpa using hu
      exact lu_ok' (.inl rfl) (.inl rfl)
    · obtain rfl : s = ⟨A2, 1, [lu G2 2 5 0]⟩ := by simpa using hs
      obtain rfl : u = lu G2 2 5 0 := by simpa using hu
      exact lu_ok' (.inr rfl) (.inr (.inl rfl))) (by simp [flatR]) (by simp)
  refine this.mono fun x w' ⟨b, h1, h2, h3, h4, h5, h6, h7⟩ => ?_
  have hE : bldE [] (flatR [⟨A1, 1, [lu G1 1 1 0]⟩, ⟨A2, 1, [lu G2 2 5 0]⟩]) = 0 := bld_a G1 G2
  rw [hE] at h1
  obtain ⟨k1, k2, k3⟩ := h2 hE
  have k3 : b.l.map Up.p = consL [advL [] [lu G1 1 1 0, lu G2 2 5 0]] := k3
  refine ⟨b, h1, k2, k3.trans (bl_a G1 G2).1, ?_, h4, h5, h7⟩
  rw [k2]
  exact batch_ok bfront_nil (bl_a G1 G2).2 k3
theorem build_b (A A1 : Option Addr) (G : Nat) (w : World) (h : ULs w w.heap.size A [⟨A1, 1, [lu G 1 (-1) 0]⟩]) :
    Calls Tryz.prog 20 #[.slice none 0 0, .slice A 1 1] w fun x w' => ∃ b : Bt, x = .returned (.tuple #[b.val, .int .i64 0]) ∧ b.f = [] ∧ b.l.map Up.p = [(bk 1, (-1 : Int))] ∧ BatchOk b.f b.l ∧ BtIn w' w'.heap.size b ∧ BtOk b ∧ Below w.heap.size w w' := by
  have := build_any none 0 [] A 1 [⟨A1, 1, [lu G 1 (-1) 0]⟩] w Times.nil_ ts_nil h (fun s hs u hu => by
    obtain rfl : s = ⟨A1, 1, [lu G 1 (-1) 0]⟩ := by simpa using hs
    obtain rfl : u = lu G 1 (-1) 0 := by simpa using hu
    exact lu_ok' (.inl rfl) (.inr (.inr rfl))) (by simp [flatR]) (by simp)
  refine this.mono fun x w' ⟨b, h1, h2, h3, h4, h5, h6, h7⟩ => ?_
  have hE : bldE [] (flatR [⟨A1, 1, [lu G 1 (-1) 0]⟩]) = 0 := bld_b G
  rw [hE] at h1
  obtain ⟨k1, k2, k3⟩ := h2 hE
  have k3 : b.l.map Up.p = consL [advL [] [lu G 1 (-1) 0]] := k3
  refine ⟨b, h1, k2, k3.trans (bl_b G).1, ?_, h4, h5, h7⟩
  rw [k2]
  exact batch_ok bfront_nil (bl_b G).2 k3
theorem mg_other {w X : World} {P : Nat} {m : Mg} (h : MgIn w w.heap.size m) (hlo : MgLo (P + 1) m) (hs : X.heap.size = w.heap.size) (hX : ∀ b, b ≠ P → X.heap[b]? = w.heap[b]?) : MgIn X X.heap.size m := ⟨ups_other h.a hlo.a hs hX, ups_other h.b hlo.b hs hX, times_other h.f hlo.f hs hX, ups_other h.o hlo.o hs hX⟩
/-- what a merger is at each of its three states there -/
structure Lm (m : Mg) (i j : Nat) (o : List (Uk × Int)) : Prop where
  way : OnWay m i j
  f : m.f = []
  a : m.a.map Up.p = [(bk 1, (1 : Int)), (bk 2, 5)]
  b : m.b.map Up.p = [(bk 1, (-1 : Int))]
  o_ : m.o.map Up.p = o
theorem lm_len {m : Mg} {i j : Nat} {o : List (Uk × Int)} (h : Lm m i j o) (ho : o.length ≤ 1) : m.a.length = 2 ∧ m.b.length = 1 ∧ m.o.length ≤ 274877906944 := by
  have h1 := congrArg List.length h.a
  have h2 := congrArg List.length h.b
  have h3 := congrArg List.length h.o_
  simp at h1 h2 h3
  exact ⟨h1, h2, by omega⟩
theorem start_l (a b : Bt) (w : World) (ha : BtIn w w.heap.size a) (oa : BtOk a) (hb : BtIn w w.heap.size b) (ob : BtOk b) (fa : a.f = []) (fb : b.f = []) (pa : a.l.map Up.p = [(bk 1, (1 : Int)), (bk 2, 5)]) (pb : b.l.map Up.p = [(bk 1, (-1 : Int))]) (ka : BatchOk a.f a.l) (kb : BatchOk b.f b.l) :
    Calls Tryz.prog 12 #[.slice none 0 0, a.val, b.val] w fun x w' => ∃ m : Mg, x = .returned (.tuple #[m.val, .int .i64 0]) ∧ Lm m 0 0 [] ∧ MgIn w' w'.heap.size m ∧ MgOk m ∧ Below w.heap.size w w' := by
  have la : a.l.length = 2 := by have := congrArg List.length pa; simpa using this
  have lb : b.l.length = 1 := by have := congrArg List.length pb; simpa using this
  refine (start_any none 0 [] a b w Times.nil_ ts_nil ha oa (by omega) hb ob (by omega)).mono fun x w' ⟨m, E, h1, h2, h3, h4, h5, h6⟩ => ?_
  rcases h2 with ⟨rfl, hs, k1, k2, k3, k4, k5, k6⟩ | ⟨_, _, hn⟩
  · exact ⟨m, h1, ⟨start_way (by rw [k5]; exact bfront_nil) (even_p k1.symm ka.2.1) (even_p k2.symm kb.2.1) k3 k4 k6, k5, k1.trans pa, k2.trans pb, by rw [k6]; rfl⟩, h3, h4, h6⟩
  · exact absurd ⟨ka, kb, bfront_nil, .inl fa, .inl fb⟩ hn
theorem work_l1 (m : Mg) (w : World) (h : Lm m 0 0 []) (hm : MgIn w w.heap.size m) (ok : MgOk m) :
    Calls Tryz.prog 8 #[m.val, .int .i64 1] w fun x w' => ∃ m' : Mg, x = .returned (.tuple #[m'.val, .int .i64 2, .int .i64 0]) ∧ Lm m' 1 1 [] ∧ MgIn w' w'.heap.size m' ∧ MgOk m' ∧ MgLo w.heap.size m' ∧ Below w.heap.size w w' := by
  obtain ⟨la, lb, lo⟩ := lm_len h (by simp)
  refine (work_any m 1 w hm ok (by omega) (by omega) lo).mono fun x w' ⟨m', c, E, h1, h2, h3, h4, h5, h6⟩ => ?_
  rcases h2 with ⟨hn, _⟩ | ⟨_, hw⟩
  · exact absurd h.way.ok hn
  · obtain ⟨n, s, hn, hs, hc, hE, hi, hj, ho⟩ := hw.s
    have e1 : m.i.toNat = 0 := by rw [h.way.i_]; rfl
    have e2 : m.j.toNat = 0 := by rw [h.way.j_]; rfl
    rw [e1, e2, la, lb] at hn
    rw [e1, e2, h.o_, h.f] at hs
    obtain ⟨b1, b2, b3, b4, b5⟩ := bl_work1 (hw.a.trans h.a) (hw.b.trans h.b) n hn.symm
    rw [← hs] at b1 b2 b3 b4 b5
    obtain ⟨i', j', k, _, q2, _, _, _⟩ := workok_fine hw h.way
    have hi2 : m'.i = 1 := by rw [hi, b3]; rfl
    have hj2 : m'.j = 1 := by rw [hj, b4]; rfl
    have e3 : i' = 1 := by have := q2.i_; omega
    have e4 : j' = 1 := by have := q2.j_; omega
    subst e3; subst e4
    refine ⟨m', by rw [h1, hc, hE, b1, b2]; rfl, ⟨q2, hw.f.trans h.f, hw.a.trans h.a, hw.b.trans h.b, ho.trans b5⟩, h3, h4, h5, h6⟩
theorem work_l2 (m : Mg) (w : World) (h : Lm m 1 1 []) (hm : MgIn w w.heap.size m) (ok : MgOk m) :
    Calls Tryz.prog 8 #[m.val, .int .i64 9] w fun x w' => ∃ m' : Mg, x = .returned (.tuple #[m'.val, .int .i64 1, .int .i64 0]) ∧ Lm m' 2 1 [(bk 2, 5)] ∧ MgIn w' w'.heap.size m' ∧ MgOk m' ∧ MgLo w.heap.size m' ∧ Below w.heap.size w w' := by
  obtain ⟨la, lb, lo⟩ := lm_len h (by simp)
  refine (work_any m 9 w hm ok (by omega) (by omega) lo).mono fun x w' ⟨m', c, E, h1, h2, h3, h4, h5, h6⟩ => ?_
  rcases h2 with ⟨hn, _⟩ | ⟨_, hw⟩
  · exact absurd h.way.ok hn
  · obtain ⟨n, s, hn, hs, hc, hE, hi, hj, ho⟩ := hw.s
    have e1 : m.i.toNat = 1 := by rw [h.way.i_]; rfl
    have e2 : m.j.toNat = 1 := by rw [h.way.j_]; rfl
    rw [e1, e2, la, lb] at hn
    rw [e1, e2, h.o_, h.f] at hs
    obtain ⟨b1, b2, b3, b4, b5⟩ := bl_work2 (hw.a.trans h.a) (hw.b.trans h.b) n hn.symm
    rw [← hs] at b1 b2 b3 b4 b5
    obtain ⟨i', j', k, _, q2, _, _, _⟩ := workok_fine hw h.way
    have hi2 : m'.i = 2 := by rw [hi, b3]; rfl
    have hj2 : m'.j = 1 := by rw [hj, b4]; rfl
    have e3 : i' = 2 := by have := q2.i_; omega
    have e4 : j' = 1 := by have := q2.j_; omega
    subst e3; subst e4
    refine ⟨m', by rw [h1, hc, hE, b1, b2]; rfl, ⟨q2, hw.f.trans h.f, hw.a.trans h.a, hw.b.trans h.b, ho.trans b5⟩, h3, h4, h5, h6⟩
theorem end_l1 (m : Mg) (w : World) (h : Lm m 1 1 []) (hm : MgIn w w.heap.size m) (ok : MgOk m) :
    Calls Tryz.prog 10 #[m.val] w fun x w' => ∃ b : Bt, x = .returned (.tuple #[b.val, .int .i64 8]) ∧ Below w.heap.size w w' := by
  obtain ⟨la, lb, lo⟩ := lm_len h (by simp)
  refine (end_any m w hm ok lo).mono fun x w' ⟨b, E, h1, h2, _, _, _, h6⟩ => ?_
  rcases h2 with ⟨_, he, _⟩ | ⟨rfl, _, _⟩
  · have := he.2.1
    rw [h.way.i_, la] at this
    omega
  · exact ⟨b, h1, h6⟩
theorem end_l2 (m : Mg) (w : World) (h : Lm m 2 1 [(bk 2, 5)]) (hm : MgIn w w.heap.size m) (ok : MgOk m) :
    Calls Tryz.prog 10 #[m.val] w fun x w' => ∃ b : Bt, x = .returned (.tuple #[b.val, .int .i64 0]) ∧ b.l.map Up.p = [(bk 2, 5)] ∧ BtIn w' w'.heap.size b ∧ Below w.heap.size w w' := by
  obtain ⟨la, lb, lo⟩ := lm_len h (by simp)
  refine (end_any m w hm ok lo).mono fun x w' ⟨b, E, h1, h2, h3, _, _, h6⟩ => ?_
  rcases h2 with ⟨rfl, _, _, hb⟩ | ⟨_, hn, _⟩
  · exact ⟨b, h1, hb.trans h.o_, h3, h6⟩
  · exact absurd ⟨h.way.ok, by rw [h.way.i_, la], by rw [h.way.j_, lb]⟩ hn
end Go.Proofs.YtllpfngmnccejaaGreat
namespace Go.Proofs.YtllpfngmnccejaaGreat
open Go Go.RowKit

theorem later_l (w : World) : Calls Tryz.prog 37 #[.slice (some ⟨w.heap.size, 0, none⟩) 1 1, .slice (some ⟨w.heap.size + 1, 0, none⟩) 1 1] ((w.alloc (.cells #[.int .u64 2, .int .u64 0, .int .u64 0] 46)).alloc (.cells #[.int .u64 1, .int .u64 0, .int .u64 0] 46)) fun x w' => x = .returned (.bool true) ∧ Below w.heap.size w w' := by
  have h1 := times_made w ⟨2, 0, 0⟩
  have hb1 : Below w.heap.size w (w.alloc (.cells #[.int .u64 2, .int .u64 0, .int .u64 0] 46)) := (Below.refl _ _).alloc (Nat.le_refl _) _
  have hb2 : Below (w.heap.size + 1) (w.alloc (.cells #[.int .u64 2, .int .u64 0, .int .u64 0] 46)) ((w.alloc (.cells #[.int .u64 2, .int .u64 0, .int .u64 0] 46)).alloc (.cells #[.int .u64 1, .int .u64 0, .int .u64 0] 46)) := (Below.refl _ _).alloc (by simp) _
  have h1' : Times (w.alloc (.cells #[.int .u64 2, .int .u64 0, .int .u64 0] 46)) (w.heap.size + 1) (some ⟨w.heap.size, 0, none⟩) [⟨2, 0, 0⟩] := by simpa using h1
  have h2 := times_made (w.alloc (.cells #[.int .u64 2, .int .u64 0, .int .u64 0] 46)) ⟨1, 0, 0⟩
  have h2' : Times ((w.alloc (.cells #[.int .u64 2, .int .u64 0, .int .u64 0] 46)).alloc (.cells #[.int .u64 1, .int .u64 0, .int .u64 0] 46)) ((w.alloc (.cells #[.int .u64 2, .int .u64 0, .int .u64 0] 46)).alloc (.cells #[.int .u64 1, .int .u64 0, .int .u64 0] 46)).heap.size (some ⟨w.heap.size + 1, 0, none⟩) [⟨1, 0, 0⟩] := by simpa using h2
  refine (later_any (some ⟨w.heap.size, 0, none⟩) 1 [⟨2, 0, 0⟩] (some ⟨w.heap.size + 1, 0, none⟩) 1 [⟨1, 0, 0⟩] _ ((h1'.past hb2 (Nat.le_refl _)).wide (by simp)) (by unfold maxLen; simp) h2' (by unfold maxLen; simp)).mono fun x w' ⟨b, k1, k2, k3⟩ => ?_
  refine ⟨by rw [k1, k2.2 bl_later], ?_⟩
  have hz : w.heap.size ≤ (w.alloc (.cells #[.int .u64 2, .int .u64 0, .int .u64 0] 46)).heap.size := hb1.size
  exact (hb1.trans (hb2.mono (Nat.le_succ _))).trans (k3.mono (by simp; omega))
set_option maxRecDepth 100000 in
set_option maxHeartbeats 12800000 in
theorem blives_true (w : World) : Calls Tryz.prog 14 #[] w fun e w' => e = .returned (.bool true) ∧ Below w.heap.size w w' := by
  have y1 := fun W => Lib.hid (brow_any 1 W)
  have y2 := fun W => Lib.hid (brow_any 2 W)
  go_enter Tryz.func14, Tryz.ntmps14
  go_wp2_with fail
  refine (y1 _).out.mono ?_
  rintro _ w1 ⟨G1, rfl, v1, b1⟩
  obtain ⟨V1, hV1, hb1, hu1⟩ := box_one w1 G1 1 1 v1
  have H1 := Lib.hid (And.intro (belows b1 hb1) hu1)
  clear b1 v1 hb1 hu1
  go_wp2_with fail
  rw [← hV1]
  clear hV1
  refine (y2 _).out.mono ?_
  rintro _ w2 ⟨G2, rfl, v2, b2⟩
  obtain ⟨V2, hV2, hb2, hu2⟩ := box_one w2 G2 2 5 v2
  obtain ⟨V3, hV3, hb3, hul⟩ := two_lists V2 (some ⟨w1.heap.size, 0, none⟩) (some ⟨w2.heap.size, 0, none⟩) 1 1 [lu G1 1 1 0] [lu G2 2 5 0] ((H1.out.2.keep b2).keep hb2) hu2
  have z1 := Lib.hid (build_a (some ⟨V2.heap.size, 0, none⟩) (some ⟨w1.heap.size, 0, none⟩) (some ⟨w2.heap.size, 0, none⟩) G1 G2 V3 hul)
  have H3 := Lib.hid (belows H1.out.1 (belows b2 (belows hb2 hb3)))
  rw [hV2] at hV3 z1
  simp only [List.length_cons, List.length_nil, Nat.zero_add, World.size_alloc] at hV3 z1
  clear b2 v2 hb2 hb3 hu2 hul hV2
  go_wp2_with fail
  rw [← hV3]
  clear hV3
  refine z1.out.mono ?_
  rintro _ w3 ⟨a, rfl, fa, pa, ka, ia, oa, b3⟩
  obtain ⟨V4, hV4, hb4, hs4, ho4⟩ := btbox w3 a
  have HA := Lib.hid (And.intro (belows H3.out (belows b3 hb4)) (And.intro ho4 (And.intro (ia.keep hb4) (And.intro oa (And.intro fa (And.intro pa ka))))))
  unfold Bt.val
  clear fa pa ka ia oa b3 hb4 ho4 z1
  go_wp2_with fail
  rw [← hV4]
  clear hV4
  refine (y1 _).out.mono ?_
  rintro _ w5 ⟨G5, rfl, v5, b5⟩
  obtain ⟨V5, hV5, hb5, hu5⟩ := box_one w5 G5 1 (-1) v5
  obtain ⟨V6, hV6, hb6, hul⟩ := one_list V5 (some ⟨w5.heap.size, 0, none⟩) 1 [lu G5 1 (-1) 0] hu5
  have z2 := Lib.hid (build_b (some ⟨V5.heap.size, 0, none⟩) (some ⟨w5.heap.size, 0, none⟩) G5 V6 hul)
  have hb56 : Below V4.heap.size V4 V6 := belows b5 (belows hb5 hb6)
  have H6 := Lib.hid (And.intro (belows HA.out.1 hb56) (And.intro (HA.out.2.1.past hb56 (by omega)) (HA.out.2.2.1.keep hb56)))
  rw [hV5] at hV6 z2
  simp only [List.length_cons, List.length_nil, Nat.zero_add, World.size_alloc] at hV6 z2
  clear b5 v5 hb5 hb6 hu5 hul hV5 hb56
  go_wp2_with fail
  rw [← hV6]
  clear hV6
  refine z2.out.mono ?_
  rintro _ w6 ⟨b, rfl, fb, pb, kb, ib, ob, b6⟩
  obtain ⟨V7, hV7, hb7, hs7, ho7⟩ := btbox w6 b
  have hb67 : Below V6.heap.size V6 V7 := belows b6 hb7
  have h3in : w3.heap.size < V6.heap.size := H6.out.2.1.inside
  have HB := Lib.hid (And.intro (belows H6.out.1 hb67) (And.intro (H6.out.2.1.past hb67 h3in) (And.intro ho7 (And.intro (H6.out.2.2.keep hb67) (And.intro (ib.keep hb7) (And.intro ob (And.intro fb (And.intro pb kb))))))))
  have z3 := Lib.hid (start_l a b V7 HB.out.2.2.2.1 HA.out.2.2.2.1 HB.out.2.2.2.2.1 HB.out.2.2.2.2.2.1 HA.out.2.2.2.2.1 HB.out.2.2.2.2.2.2.1 HA.out.2.2.2.2.2.1 HB.out.2.2.2.2.2.2.2.1 HA.out.2.2.2.2.2.2 HB.out.2.2.2.2.2.2.2.2)
  obtain ⟨d0, d1⟩ := own2 HB.out.2.1
  obtain ⟨e0, e1⟩ := own2 HB.out.2.2.1
  unfold Bt.val at z3 ⊢
  clear fb pb kb ib ob b6 hb7 ho7 z2 hb67 h3in
  go_upto_region 3 with fail
  rw [← hV7]
  clear hV7
  go_wp2_with fail
  refine z3.out.mono ?_
  rintro _ w8 ⟨m0, rfl, hm0, im0, om0, b8⟩
  clear d0 d1 e0 e1 z3
  obtain ⟨V8, hV8, hb8, hs8, ho8⟩ := mgbox w8 m0
  have z4 := Lib.hid (work_l1 m0 V8 hm0 (im0.keep hb8) om0)
  have H8 := Lib.hid (And.intro (belows HB.out.1 (belows b8 hb8)) ho8)
  have b8' := Lib.hid b8.size
  obtain ⟨c0, c1, c2, c3, c4, c5⟩ := own6 ho8
  unfold Mg.val at z4 ⊢
  clear hm0 im0 om0 b8 hb8 ho8
  go_upto_region 4 with fail
  rw [← hV8]
  clear hV8
  go_wp2_with fail
  refine z4.out.mono ?_
  rintro _ w9 ⟨m1, rfl, hm1, im1, om1, lm1, b9⟩
  clear c0 c1 c2 c3 c4 c5 z4
  have ho9 := H8.out.2.past b9 H8.out.2.inside
  obtain ⟨f0, f1, f2, f3, f4, f5⟩ := own_frozen6 ho9
  obtain ⟨c0, c1, c2, c3, c4, c5⟩ := own6 ho9
  obtain ⟨X, hX', hXo, hXb, hXs, hXh⟩ := own_six ho9 (.slice m1.aA m1.a.length m1.ac) (.slice m1.bA m1.b.length m1.bc) (.int .i64 m1.i) (.int .i64 m1.j) (.slice m1.sA m1.f.length m1.sc) (.slice m1.oA m1.o.length m1.oc)
  have hin8 := H8.out.2.inside
  have hmX : MgIn X X.heap.size m1 := mg_other im1 (lm1.mono hin8) hXs hXh
  have hbX : Below w.heap.size w X := hXb w.heap.size w (H8.out.1.trans (b9.mono H8.out.1.size)) (by have h1 := HB.out.1.size; have h2 := b8'.out; omega)
  have z5 := Lib.hid (end_l1 m1 X hm1 hmX om1)
  have HX := Lib.hid (And.intro hbX (And.intro hXo (And.intro hmX (And.intro hm1 om1))))
  have HR := Lib.hid hX'
  unfold Mg.val at z5
  clear hX' hXo hXb hXs hXh hin8 hmX hbX hm1 im1 om1 lm1 b9 ho9
  go_upto_region 5 with fail
  rw [← HR.out]
  clear c0 c1 c2 c3 c4 c5 f0 f1 f2 f3 f4 f5 HR
  obtain ⟨c0, c1, c2, c3, c4, c5⟩ := own6 HX.out.2.1
  go_wp2_with fail
  refine z5.out.mono ?_
  rintro _ w10 ⟨b0, rfl, b10⟩
  obtain ⟨V10, hV10, hb10, hs10, ho10⟩ := btbox w10 b0
  have hb1 : Below X.heap.size X V10 := belows b10 hb10
  have z6 := Lib.hid (work_l2 m1 V10 HX.out.2.2.2.1 (HX.out.2.2.1.keep hb1) HX.out.2.2.2.2)
  have H10 := Lib.hid (And.intro (belows HX.out.1 hb1) (HX.out.2.1.past hb1 HX.out.2.1.inside))
  unfold Mg.val at z6
  unfold Bt.val
  clear c0 c1 c2 c3 c4 c5 z5 b10 hb10 ho10 hb1
  go_upto_region 6 with fail
  rw [← hV10]
  clear hV10
  obtain ⟨c0, c1, c2, c3, c4, c5⟩ := own6 H10.out.2
  go_wp2_with fail
  refine z6.out.mono ?_
  rintro _ w11 ⟨m2, rfl, hm2, im2, om2, lm2, b11⟩
  clear c0 c1 c2 c3 c4 c5 z6
  have ho11 := H10.out.2.past b11 H10.out.2.inside
  obtain ⟨f0, f1, f2, f3, f4, f5⟩ := own_frozen6 ho11
  obtain ⟨c0, c1, c2, c3, c4, c5⟩ := own6 ho11
  obtain ⟨Y, hY', hYo, hYb, hYs, hYh⟩ := own_six ho11 (.slice m2.aA m2.a.length m2.ac) (.slice m2.bA m2.b.length m2.bc) (.int .i64 m2.i) (.int .i64 m2.j) (.slice m2.sA m2.f.length m2.sc) (.slice m2.oA m2.o.length m2.oc)
  have hin10 := H10.out.2.inside
  have hmY : MgIn Y Y.heap.size m2 := mg_other im2 (lm2.mono hin10) hYs hYh
  have hbY : Below w.heap.size w Y := hYb w.heap.size w (H10.out.1.trans (b11.mono H10.out.1.size)) (by have h1 := HB.out.1.size; have h2 := b8'.out; omega)
  have z7 := Lib.hid (end_l2 m2 Y hm2 hmY om2)
  have HY := Lib.hid (And.intro hbY hYo)
  have HR := Lib.hid hY'
  unfold Mg.val at z7
  clear hY' hYo hYb hYs hYh hin10 hmY hbY hm2 im2 om2 lm2 b11 ho11
  go_upto_region 7 with fail
  rw [← HR.out]
  clear c0 c1 c2 c3 c4 c5 f0 f1 f2 f3 f4 f5 HR
  obtain ⟨c0, c1, c2, c3, c4, c5⟩ := own6 HY.out.2
  go_wp2_with fail
  refine z7.out.mono ?_
  rintro _ w12 ⟨e, rfl, pe, ie, b12⟩
  have le : e.l.length = 1 := by have := congrArg List.length pe; simpa using this
  obtain ⟨u, hu⟩ := List.length_eq_one_iff.1 le
  have hud : u.d = 5 := by
    rw [hu] at pe
    have : u.p = (bk 2, (5 : Int)) := by simpa using pe
    exact congrArg Prod.snd this
  obtain ⟨V12, hV12, hb12, hs12, ho12⟩ := btbox w12 e
  have heV := (ie.keep hb12).ups
  rw [hu] at heV
  obtain ⟨b, o, hA, hBb, hxs⟩ := lies_up heV.head (by simp)
  have e5 := (hxs 0 u rfl).six.2.2.2.2.2
  rw [hud, Nat.zero_mul, Nat.add_zero] at e5
  obtain ⟨d0, d1⟩ := own2 ho12
  rw [le, hA] at d1
  have H12 := Lib.hid (belows HY.out.1 (belows b12 hb12))
  unfold Bt.val
  rw [le, hA]
  rw [le, hA] at hV12
  have zl := Lib.hid (later_l V12)
  clear c0 c1 c2 c3 c4 c5 z7 pe ie b12 le hu hud hb12 hs12 ho12 heV hA hxs
  go_upto_region 8 with fail
  rw [← hV12]
  clear hV12
  go_wp2_with fail
  refine zl.out.mono ?_
  rintro _ w13 ⟨rfl, b13⟩
  have H13 := Lib.hid (H12.out.trans (b13.mono H12.out.size))
  clear b13 d0 d1 e5
  go_wp2_with fail
  go_ret
  exact ⟨rfl, H13.out⟩
end Go.Proofs.YtllpfngmnccejaaGreat
namespace Go.Proofs.YtllpfngmnccejaaGreat
open Go Go.RowKit

theorem check_yes (b : Bt) (w : World) (hb : BtIn w w.heap.size b) (hok : BtOk b) (h : BatchOk b.f b.l) :
    Calls Tryz.prog 35 #[b.val] w fun x w' => x = .returned (.int .i64 0) ∧ Below w.heap.size w w' :=
  (bcheck_any b w hb hok).mono fun x w' h' => codes_is (.inl ⟨h, rfl⟩) h'
theorem beyond_is (A : Option Addr) (c : Nat) (l : List Tm) (t : Tm) (w : World) (hl : Times w w.heap.size A l) (hn : l.length ≤ maxLen) {b : Bool} (h : beyond l t = b) :
    Calls Tryz.prog 84 #[.slice A l.length c, .agg #[.int .u64 (t.e : Int), .int .u64 (t.a : Int), .int .u64 (t.b : Int)]] w fun e w' => e = .returned (.bool b) ∧ Below w.heap.size w w' := by
  have := beyond_any A c l t w hl hn
  rw [h] at this
  exact this
end Go.Proofs.YtllpfngmnccejaaGreat
namespace Go.Proofs.YtllpfngmnccejaaGreat
open Go Go.RowKit

def cellI (n : Int) : Value := .int .i64 n
theorem cellI_flat (l : List Int) : l.flatMap (fun n => [cellI n]) = l.map cellI := by
  induction l with
  | nil => rfl
  | cons x l ih => simp [ih]
theorem ints_of_own {w : World} {base : Nat} {e : TypeId} {v : Value} {l : List Int} {n : Nat} (hn : n = l.length) (h : w.ownsRow base e 1 v n (l.map cellI)) :
    ∃ A c, v = .slice A l.length c ∧ l.length ≤ c ∧ c ≤ maxLen ∧ Ints w w.heap.size A l := by
  rw [← cellI_flat] at h
  obtain ⟨A, c, h1, h2, h3, h4⟩ := lies_of_own (size := 1) (cells := fun n => [cellI n]) (by decide) (fun _ => rfl) hn h
  refine ⟨A, c, h1, h2, h3, fun hp => ?_⟩
  obtain ⟨b, o, e, hb, hc⟩ := h4 hp
  refine ⟨b, o, e, hb, fun i n hi => ?_⟩
  have := hc i n hi 0 _ rfl
  rwa [Nat.mul_one, Nat.add_zero] at this
theorem own_snoc {w : World} {base n : Nat} {e : TypeId} {v : Value} {F : List Value} {l : List Int} {k : Int} (h : w.ownsRow base e 1 v (n + 1) (F ++ [.int .i64 k])) (hF : l.map cellI = F) (hn : l.length = n) : w.ownsRow base e 1 v (l ++ [k]).length ((l ++ [k]).map cellI) := by
  subst hF hn
  simpa [cellI] using h
theorem own_app {w : World} {base n : Nat} {e : TypeId} {v : Value} {F : List Value} {l m : List Int} (h : w.ownsRow base e 1 v (n + m.length) (F ++ m.flatMap fun n => [cellI n])) (hF : l.map cellI = F) (hn : l.length = n) : w.ownsRow base e 1 v (l ++ m).length ((l ++ m).map cellI) := by
  subst hF hn
  rw [cellI_flat] at h
  simpa using h
/-- two rows lie in two blocks -/
def Sep (v y : Value) : Prop := ∀ b, v.ownBlock = some b → y.ownBlock ≠ some b
theorem Sep.symm {v y : Value} (h : Sep v y) : Sep y v := fun b hb hv => h b hv hb
theorem Sep.nil_ (y : Value) : Sep (.slice none 0 0) y := fun b hb => by simp [Value.ownBlock] at hb
theorem Sep.pushed {v v' y : Value} {N : Nat} (h : Sep v y) (hy : ∀ b, y.ownBlock = some b → b < N) (hv : v'.ownBlock = v.ownBlock ∨ v'.ownBlock = some (N + 1)) : Sep v' y := fun b hb hyb => by
  rcases hv with hv | hv
  · exact h b (hv ▸ hb) hyb
  · have := hy b hyb
    rw [hv] at hb
    simp only [Option.some.injEq] at hb
    omega
theorem Sep.kept {v y : Value} (h : Sep v y) : y.ownBlock = none ∨ y.ownBlock ≠ v.ownBlock := by
  cases hy : y.ownBlock with
  | none => exact .inl rfl
  | some b => exact .inr fun e => h b e.symm hy
end Go.Proofs.YtllpfngmnccejaaGreat
namespace Go.Proofs.YtllpfngmnccejaaGreat
open Go Go.RowKit

/-- a right merger of two batches' updates, on its way -/
structure OfM (f : List Tm) (a b : List Up) (m : Mg) (i j : Nat) : Prop where
  way : OnWay m i j
  f_ : m.f = f
  a_ : m.a.map Up.p = a.map Up.p
  b_ : m.b.map Up.p = b.map Up.p
theorem OfM.front {f : List Tm} {a b : List Up} {m : Mg} {i j : Nat} (h : OfM f a b m i j) : FrontOk f := h.f_ ▸ h.way.front
theorem OfM.la {f : List Tm} {a b : List Up} {m : Mg} {i j : Nat} (h : OfM f a b m i j) : m.a.length = a.length := len_p h.a_
theorem OfM.lb {f : List Tm} {a b : List Up} {m : Mg} {i j : Nat} (h : OfM f a b m i j) : m.b.length = b.length := len_p h.b_
theorem OfM.lo {f : List Tm} {a b : List Up} {m : Mg} {i j : Nat} (h : OfM f a b m i j) : m.o.length ≤ a.length + b.length := by
  have h1 := congrArg List.length h.way.fine.2.2.inv.out_
  have h2 := nz_len (cmp := Uk.cmp) ((advL m.f ((startM m.a i m.b j (m.o.map Up.p)).ta ++ (startM m.a i m.b j (m.o.map Up.p)).tb)).map Up.p)
  have e1 : (startM m.a i m.b j (m.o.map Up.p)).ta = m.a.take i := rfl
  have e2 : (startM m.a i m.b j (m.o.map Up.p)).tb = m.b.take j := rfl
  have e3 : (startM m.a i m.b j (m.o.map Up.p)).out = m.o.map Up.p := rfl
  rw [e1, e2] at h1 h2
  rw [e3] at h1
  rw [← h1] at h2
  have h3 : ((advL m.f (m.a.take i ++ m.b.take j)).map Up.p).length = (m.a.take i).length + (m.b.take j).length := by
    unfold advL
    simp only [List.length_map, List.length_append]
  rw [h3, List.length_map, List.length_take, List.length_take] at h2
  have := h.la
  have := h.lb
  omega
theorem OfM.ij {f : List Tm} {a b : List Up} {m : Mg} {i j : Nat} (h : OfM f a b m i j) : i ≤ a.length ∧ j ≤ b.length := ⟨h.la ▸ h.way.fine.1, h.lb ▸ h.way.fine.2.1⟩
theorem OfM.cons {f : List Tm} {a b : List Up} {m : Mg} {i j : Nat} (h : OfM f a b m i j) : consL [advL m.f (m.a ++ m.b)] = consL [advL f (a ++ b)] ∧ consE [advL m.f (m.a ++ m.b)] = consE [advL f (a ++ b)] := by
  rw [h.f_]
  exact consL_p (advL_p f (app_p h.a_ h.b_))
theorem OfM.bld {f : List Tm} {a b : List Up} {m : Mg} {i j : Nat} (h : OfM f a b m i j) : bldE f (a ++ b) = consE [advL m.f (m.a ++ m.b)] := by
  rw [h.cons.2]
  exact if_pos h.front
theorem OfM.done {f : List Tm} {a b : List Up} {m : Mg} {i j : Nat} (h : OfM f a b m i j) (hl : leftN m i j = 0) : bldE f (a ++ b) = 0 ∧ m.o.map Up.p = consL [advL f (a ++ b)] := by
  have hs : (startM m.a i m.b j (m.o.map Up.p)).left = 0 := by rw [start_left]; exact hl
  obtain ⟨h1, h2⟩ := fine_end h.way.fine.2.2 h.way.front.right (even_two h.way.a h.way.b) hs
  exact ⟨h.bld.trans h1, (h2.symm).trans h.cons.1⟩
def StartedS (f : List Tm) (a b : Bt) (w : World) (x : Ending) (w' : World) : Prop :=
  ∃ (m : Mg) (E : Int), x = .returned (.tuple #[m.val, .int .i64 E]) ∧ (E = 0 → OfM f a.l b.l m 0 0) ∧ (E ≠ 0 → m = Mg.nil) ∧ MgIn w' w'.heap.size m ∧ MgOk m ∧ MgLo w.heap.size m ∧ Below w.heap.size w w'
theorem start_st (A : Option Addr) (c : Nat) (f : List Tm) (a b : Bt) (w : World) (hf : Times w w.heap.size A f) (hfo : TsOk f c) (ha : BtIn w w.heap.size a) (oa : BtOk a) (na : a.l.length ≤ 1048576) (hb : BtIn w w.heap.size b) (ob : BtOk b) (nb : b.l.length ≤ 1048576) :
    Calls Tryz.prog 12 #[.slice A f.length c, a.val, b.val] w (StartedS f a b w) := by
  refine (start_any A c f a b w hf hfo ha oa (by omega) hb ob (by omega)).mono fun x w' ⟨m, E, h1, h2, h3, h4, h5, h6⟩ => ⟨m, E, h1, ?_, ?_, h3, h4, h5, h6⟩
  · intro hE
    rcases h2 with ⟨_, hs, k1, k2, k3, k4, k5, k6⟩ | ⟨hn, _⟩
    · exact ⟨start_way (by rw [k5]; exact hs.2.2.1) (even_p k1.symm hs.1.2.1) (even_p k2.symm hs.2.1.2.1) k3 k4 k6, k5, k1, k2⟩
    · exact absurd hE hn
  · intro hE
    rcases h2 with ⟨h0, _⟩ | ⟨_, hm, _⟩
    · exact absurd h0 hE
    · exact hm
def WorkedS (f : List Tm) (a b : List Up) (m : Mg) (i j : Nat) (fuel : Int) (w : World) (x : Ending) (w' : World) : Prop :=
  ∃ (m' : Mg) (i' j' k : Nat) (E : Int), x = .returned (.tuple #[m'.val, .int .i64 (k : Int), .int .i64 E]) ∧ OfM f a b m' i' j' ∧ k + leftN m' i' j' = leftN m i j ∧ (E = 0 → (leftN m' i' j' = 0 ∨ fuel ≤ k) ∧ ((0 < fuel ∧ 0 < leftN m i j) ↔ 0 < k)) ∧ (E ≠ 0 → bldE f (a ++ b) = E) ∧ MgIn w' w'.heap.size m' ∧ MgOk m' ∧ MgLo w.heap.size m' ∧ Below w.heap.size w w'
theorem work_st {f : List Tm} {a b : List Up} (m : Mg) {i j : Nat} (fuel : Int) (w : World) (h : OfM f a b m i j) (hm : MgIn w w.heap.size m) (ok : MgOk m) (hn : a.length + b.length ≤ 1048576) :
    Calls Tryz.prog 8 #[m.val, .int .i64 fuel] w (WorkedS f a b m i j fuel w) := by
  have := h.la
  have := h.lb
  have := h.lo
  refine (work_any m fuel w hm ok (by omega) (by omega) (by omega)).mono fun x w' ⟨m', c, E, h1, h2, h3, h4, h5, h6⟩ => ?_
  rcases h2 with ⟨hn, _⟩ | ⟨_, hw⟩
  · exact absurd h.way.ok hn
  · obtain ⟨i', j', k, q1, q2, q3, q4, q5⟩ := workok_fine hw h.way
    refine ⟨m', i', j', k, E, by rw [h1, q1], ⟨q2, hw.f.trans h.f_, hw.a.trans h.a_, hw.b.trans h.b_⟩, q3, ?_, ?_, h3, h4, h5, h6⟩
    · intro hE
      rcases q4 with ⟨_, r1, r2⟩ | ⟨r, _⟩
      · refine ⟨r1, fun hh => r2 hh.1 hh.2, fun hk => ?_⟩
        refine ⟨?_, ?_⟩
        · apply Decidable.byContradiction
          intro hq
          have := q5 (.inr (by omega))
          omega
        · omega
      · omega
    · intro hE
      rcases q4 with ⟨r, _⟩ | ⟨r, r'⟩
      · exact absurd r hE
      · rw [h.bld, r', r]
theorem end_st {f : List Tm} {a b : List Up} (m : Mg) {i j : Nat} (w : World) (h : OfM f a b m i j) (hm : MgIn w w.heap.size m) (ok : MgOk m) (hn : a.length + b.length ≤ 1048576) (hl : leftN m i j = 0) :
    Calls Tryz.prog 10 #[m.val] w fun x w' => ∃ e : Bt, x = .returned (.tuple #[e.val, .int .i64 0]) ∧ e.f = f ∧ e.l.map Up.p = consL [advL f (a ++ b)] ∧ BtIn w' w'.heap.size e ∧ BtOk e ∧ Below w.heap.size w w' := by
  have h1 := h.la
  have h2 := h.lb
  have h3 := h.lo
  have h4 := h.ij
  refine (end_any m w hm ok (by omega)).mono fun x w' ⟨e, E, k1, k2, k3, k4, _, k6⟩ => ?_
  rcases k2 with ⟨rfl, _, r1, r2⟩ | ⟨_, hn, _⟩
  · exact ⟨e, k1, r1.trans h.f_, r2.trans (h.done hl).2, k3, k4, k6⟩
  · unfold leftN at hl
    have e1 := h.way.i_
    have e2 := h.way.j_
    exact absurd ⟨h.way.ok, by omega, by omega⟩ hn
/-- Build of two lists -/
theorem build_two (A : Option Addr) (c : Nat) (f : List Tm) (A1 A' A2 : Option Addr) (c' c2 : Nat) (l m : List Up) (w : World) (hf : Times w w.heap.size A f) (hfo : TsOk f c) (hl : ULs w w.heap.size A1 [⟨A', c', l⟩, ⟨A2, c2, m⟩]) (ol : UsOk l) (om : UsOk m) (hn : l.length + m.length ≤ 1099511627776) :
    Calls Tryz.prog 20 #[.slice A f.length c, .slice A1 2 2] w (Built f (l ++ m) w) := by
  have he : flatR [(⟨A', c', l⟩ : Rw Up), ⟨A2, c2, m⟩] = l ++ m := by simp [flatR]
  have := build_any A c f A1 2 [⟨A', c', l⟩, ⟨A2, c2, m⟩] w hf hfo hl (fun s hs u hu => by
    rcases List.mem_cons.1 hs with rfl | hs
    · exact ol.ok u hu
    · obtain rfl : s = ⟨A2, c2, m⟩ := by simpa using hs
      exact om.ok u hu) (by rw [he, List.length_append]; exact hn) (by simp)
  rw [he] at this
  exact this
theorem checkM_yes {f : List Tm} {a b : List Up} (m : Mg) {i j : Nat} (w : World) (h : OfM f a b m i j) (hm : MgIn w w.heap.size m) (ok : MgOk m) :
    Calls Tryz.prog 17 #[m.val] w fun x w' => x = .returned (.int .i64 0) ∧ Below w.heap.size w w' :=
  (checkM_any m w hm ok).mono fun x w' h' => codes_is (.inl ⟨h.way.ok, rfl⟩) h'
theorem lies_ints {w : World} {B : Nat} {A : Option Addr} {l : List Int} (h : Ints w B A l) : Lies 1 (fun n => [cellI n]) w B A l := fun hp => by
  obtain ⟨b, o, e, hb, hc⟩ := h hp
  refine ⟨b, o, e, hb, fun i n hi j u hj => ?_⟩
  match j, hj with
  | 0, hj => rw [← hj, Nat.mul_one, Nat.add_zero]; exact hc i n hi
theorem infoI : (Tryz.prog.info? 3).map (fun i => (i.zero, i.size, i.bytes)) = some (some (.int .i64 0), 1, 8) := by kernel_rfl
theorem cellI_len (n : Int) : ([cellI n] : List Value).length = 1 := rfl
theorem cellI_one (n : Int) : ∀ v ∈ ([cellI n] : List Value), v.oneCell' = true := fun v hv => by
  obtain rfl : v = cellI n := by simpa using hv
  rfl
theorem empty_ints (w : World) : (w.alloc (.cells #[] 3)).ownsRow w.heap.size 3 1 (.slice (some ⟨w.heap.size, 0, none⟩) 0 0) 0 [] :=
  World.ownsRow_made w #[] 0 (Nat.le_refl _) (Nat.zero_le _) rfl
/-- one number in a block of its own -/
theorem one_int (w : World) (n : Int) : ∃ V, V = w.alloc (.cells #[.int .i64 n] 3) ∧ Below w.heap.size w V ∧ Lies 1 (fun n => [cellI n]) V V.heap.size (some ⟨w.heap.size, 0, none⟩) [n] := by
  obtain ⟨W, e1, s1, b1, o1⟩ := boxd w [.int .i64 n] 3
  exact ⟨W, e1, b1, lies_owned (t := 3) cellI_len o1⟩
end Go.Proofs.YtllpfngmnccejaaGreat
namespace Go.Proofs.YtllpfngmnccejaaGreat
open Go Go.RowKit

/-- two lists of right updates that have the same at each time -/
structure SameU (l e : List Up) : Prop where
  l_ : chkUs l = 0
  e_ : chkUs e = 0
  sum : ∀ t r, sumOf cmpRows (atP l t) r = sumOf cmpRows (atP e t) r
theorem SameU.nil : SameU [] [] := ⟨rfl, rfl, fun _ _ => rfl⟩
theorem SameU.refl {l : List Up} (h : chkUs l = 0) : SameU l l := ⟨h, h, fun _ _ => rfl⟩
theorem SameU.trans {a b c : List Up} (h : SameU a b) (k : SameU b c) : SameU a c := ⟨h.l_, k.e_, fun t r => (h.sum t r).trans (k.sum t r)⟩
theorem atP_append (a b : List Up) (t : Tm) : atP (a ++ b) t = atP a t ++ atP b t := by
  unfold atP
  rw [List.filter_append, List.map_append]
theorem chkUs_app {a b : List Up} (h : chkUs a = 0) (k : chkUs b = 0) : chkUs (a ++ b) = 0 :=
  chkUs_all.2 fun u hu => by
    rcases List.mem_append.1 hu with hu | hu
    · exact chkUs_all.1 h u hu
    · exact chkUs_all.1 k u hu
theorem SameU.app {a a' b b' : List Up} (h : SameU a a') (k : SameU b b') : SameU (a ++ b) (a' ++ b') :=
  ⟨chkUs_app h.l_ k.l_, chkUs_app h.e_ k.e_, fun t r => by rw [atP_append, atP_append, sumOf_append, sumOf_append, h.sum, k.sum]⟩
/-- of updates, and of them evened out -/
theorem SameU.of {l e : List Up} (h : consE [l] = 0) (he : e.map Up.p = consL [l]) : SameU l e := by
  have hev := (cons_even h he).2.2
  obtain ⟨h1, h2, h3⟩ := cons_chk h
  have hl : chkUs l = 0 := chkLs_all.1 h1 l (by simp)
  simp only [List.flatten_cons, List.flatten_nil, List.append_nil] at h2 h3
  refine ⟨hl, hev, fun t r => ?_⟩
  rw [at_sum, at_sum, he, h3, (resE_zero h2).1, psum_nz uk_lin _ (keys_right (chkUs_all.1 hl))]
/-- what they have at a time -/
theorem SameU.at_ {l e : List Up} (h : SameU l e) (t : Tm) : atL l t = atL e t ∧ atE l t = atE e t := by
  by_cases ht : chk [t] = 0
  · rw [(at_of h.l_ ht).1, (at_of h.l_ ht).2, (at_of h.e_ ht).1, (at_of h.e_ ht).2]
    exact resL_ext row_lin (at_right h.l_) (at_right h.e_) fun r => h.sum t r
  · have c1 : chkAt l t = chk [t] := by unfold chkAt orI; rw [if_pos h.l_]
    have c2 : chkAt e t = chk [t] := by unfold chkAt orI; rw [if_pos h.e_]
    unfold atL atE
    rw [c1, c2, if_neg ht, if_neg ht, if_neg ht, if_neg ht]
    exact ⟨rfl, rfl⟩
/-- a list built into a batch since the beginning -/
theorem SameU.built {l e : List Up} (h : consE [advL [] l] = 0) (he : e.map Up.p = consL [advL [] l]) : SameU l e := by
  rw [advL_nil] at h he
  exact SameU.of h he
/-- one more list, merged -/
theorem SameU.more {all sum l b e : List Up} (h : SameU all sum) (k : SameU l b) (hc : consE [advL [] (sum ++ b)] = 0) (he : e.map Up.p = consL [advL [] (sum ++ b)]) : SameU (all ++ l) e :=
  (h.app k).trans (SameU.built hc he)
/-- a merger that is done -/
theorem SameU.done {all sum l b : List Up} {m : Mg} {i j : Nat} (h : SameU all sum) (k : SameU l b) (hm : OfM [] sum b m i j) (hl : leftN m i j = 0) : SameU (all ++ l) m.o := by
  obtain ⟨h1, h2⟩ := hm.done hl
  refine h.more k ?_ h2
  exact (hm.cons.2).symm.trans (hm.bld.symm.trans h1)
end Go.Proofs.YtllpfngmnccejaaGreat
namespace Go.Proofs.YtllpfngmnccejaaGreat
open Go Go.RowKit

theorem front_none : FrontOk [] := ⟨rfl, List.eq_nil_iff_forall_not_mem.2 fun x hx => absurd ((frontL_facts []).2.1 x hx) (by simp)⟩
theorem bld_of {l : List Up} : bldE [] l = consE [advL [] l] := if_pos front_none
theorem cons_len {l e : List Up} (h : consE [advL [] l] = 0) (he : e.map Up.p = consL [advL [] l]) : e.length ≤ l.length := by
  obtain ⟨_, h2, h3⟩ := cons_chk h
  rw [h3, (resE_zero h2).1] at he
  have h4 := congrArg List.length he
  have h5 := nz_len (cmp := Uk.cmp) (([advL [] l] : List (List Up)).flatten.map Up.p)
  simp only [List.flatten_cons, List.flatten_nil, List.append_nil, List.length_map] at h4 h5
  unfold advL at h4 h5
  rw [List.length_map] at h5
  omega
/-- a batch since the beginning -/
structure Since0 (b : Bt) : Prop where
  f : b.f = []
  ok : BatchOk [] b.l
theorem start_zero (a b : Bt) (w : World) (ha : BtIn w w.heap.size a) (oa : BtOk a) (na : a.l.length ≤ 1048576) (sa : Since0 a) (hb : BtIn w w.heap.size b) (ob : BtOk b) (nb : b.l.length ≤ 1048576) (sb : Since0 b) :
    Calls Tryz.prog 12 #[.slice none 0 0, a.val, b.val] w fun x w' => ∃ m : Mg, x = .returned (.tuple #[m.val, .int .i64 0]) ∧ OfM [] a.l b.l m 0 0 ∧ MgIn w' w'.heap.size m ∧ MgOk m ∧ MgLo w.heap.size m ∧ Below w.heap.size w w' := by
  refine (start_any none 0 [] a b w Times.nil_ ts_nil ha oa (by omega) hb ob (by omega)).mono fun x w' ⟨m, E, h1, h2, h3, h4, h5, h6⟩ => ?_
  rcases h2 with ⟨rfl, hs, k1, k2, k3, k4, k5, k6⟩ | ⟨_, _, hn⟩
  · exact ⟨m, h1, ⟨start_way (by rw [k5]; exact hs.2.2.1) (even_p k1.symm hs.1.2.1) (even_p k2.symm hs.2.1.2.1) k3 k4 k6, k5, k1, k2⟩, h3, h4, h5, h6⟩
  · exact absurd ⟨by rw [sa.f]; exact sa.ok, by rw [sb.f]; exact sb.ok, front_none, .inl sa.f, .inl sb.f⟩ hn
theorem end_more {a b : List Up} (m : Mg) {i j : Nat} (w : World) (h : OfM [] a b m i j) (hm : MgIn w w.heap.size m) (ok : MgOk m) (hn : a.length + b.length ≤ 1048576) (hl : leftN m i j = 0) :
    Calls Tryz.prog 10 #[m.val] w fun x w' => ∃ e : Bt, x = .returned (.tuple #[e.val, .int .i64 0]) ∧ Since0 e ∧ (∀ all l, SameU all a → SameU l b → SameU (all ++ l) e.l) ∧ e.l.length ≤ a.length + b.length ∧ BtIn w' w'.heap.size e ∧ BtOk e ∧ BtLo w.heap.size e ∧ Below w.heap.size w w' := by
  have h1 := h.la
  have h2 := h.lb
  have h3 := h.lo
  have h4 := h.ij
  obtain ⟨d1, d2⟩ := h.done hl
  refine (end_any m w hm ok (by omega)).mono fun x w' ⟨e, E, k1, k2, k3, k4, k5, k6⟩ => ?_
  rcases k2 with ⟨rfl, _, r1, r2⟩ | ⟨_, hn, _⟩
  · have hp := r2.trans d2
    rw [bld_of] at d1
    refine ⟨e, k1, ⟨r1.trans h.f_, batch_ok front_none d1 hp⟩, fun all l ha hb => ha.more hb d1 hp, ?_, k3, k4, k5, k6⟩
    have := len_p r2
    omega
  · unfold leftN at hl
    have e1 := h.way.i_
    have e2 := h.way.j_
    exact absurd ⟨h.way.ok, by omega, by omega⟩ hn
theorem build_more (A1 A' : Option Addr) (c' : Nat) (l : List Up) (w : World) (hl : ULs w w.heap.size A1 [⟨A', c', l⟩]) (ol : UsOk l) :
    Calls Tryz.prog 20 #[.slice none 0 0, .slice A1 1 1] w fun x w' => ∃ (b : Bt) (E : Int), x = .returned (.tuple #[b.val, .int .i64 E]) ∧ (E = 0 → Since0 b ∧ SameU l b.l ∧ b.l.length ≤ l.length) ∧ (E ≠ 0 → b = Bt.nil) ∧ BtIn w' w'.heap.size b ∧ BtOk b ∧ BtLo w.heap.size b ∧ Below w.heap.size w w' := by
  refine (build_one none 0 [] A1 A' c' l w Times.nil_ ts_nil hl ol).mono fun x w' ⟨b, h1, h2, h3, h4, h5, h6, h7⟩ => ⟨b, _, h1, fun hE => ?_, h3, h4, h5, h6, h7⟩
  obtain ⟨_, k2, k3⟩ := h2 hE
  rw [bld_of] at hE
  exact ⟨⟨k2, batch_ok front_none hE k3⟩, SameU.built hE k3, cons_len hE k3⟩
theorem bld_none : bldE [] [] = 0 := by kernel_rfl
theorem build_none (w : World) :
    Calls Tryz.prog 20 #[.slice none 0 0, .slice none 0 0] w fun x w' => ∃ b : Bt, x = .returned (.tuple #[b.val, .int .i64 0]) ∧ Since0 b ∧ b.l = [] ∧ BtIn w' w'.heap.size b ∧ BtOk b ∧ BtLo w.heap.size b ∧ Below w.heap.size w w' := by
  have h := build_any none 0 [] none 0 [] w Times.nil_ ts_nil ⟨Lies.nil_, fun s hs => by cases hs⟩ (fun s hs => by cases hs) (by simp [flatR]) (by simp)
  refine h.mono fun x w' ⟨b, h1, h2, h3, h4, h5, h6, h7⟩ => ?_
  rw [show flatR ([] : List (Rw Up)) = [] from rfl] at h1 h2
  obtain ⟨_, k2, k3⟩ := h2 bld_none
  have hE : consE [advL [] ([] : List Up)] = 0 := bld_of.symm.trans bld_none
  rw [bld_none] at h1
  have hn := cons_len hE k3
  exact ⟨b, h1, ⟨k2, batch_ok front_none hE k3⟩, List.eq_nil_of_length_eq_zero (by simpa using hn), h4, h5, h6, h7⟩
end Go.Proofs.YtllpfngmnccejaaGreat
namespace Go.Proofs.YtllpfngmnccejaaGreat
open Go Go.RowKit

theorem u8_eqK {a b : UInt8} (h1 : ¬ a < b) (h2 : ¬ b < a) : a = b := by
  rw [UInt8.lt_iff_toNat_lt] at h1 h2
  exact UInt8.toNat_inj.1 (by omega)
theorem cmpB_casesK : ∀ a b : List UInt8, (Lib.compareBytes a b = -1 ∧ Op.bytesLess a b = true) ∨ (Lib.compareBytes a b = 0 ∧ Op.bytesLess a b = false ∧ a = b) ∨ (Lib.compareBytes a b = 1 ∧ Op.bytesLess a b = false ∧ a ≠ b)
  | [], [] => .inr (.inl ⟨rfl, rfl, rfl⟩)
  | [], _ :: _ => .inl ⟨rfl, rfl⟩
  | _ :: _, [] => .inr (.inr ⟨rfl, rfl, by simp⟩)
  | x :: a, y :: b => by
    have ih := cmpB_casesK a b
    unfold Lib.compareBytes Op.bytesLess
    by_cases h1 : x < y
    · left; simp [h1]
    · by_cases h2 : y < x
      · have hne : x ≠ y := fun e => by subst e; exact h1 h2
        right; right; simp [h1, h2, hne]
      · have he := u8_eqK h1 h2
        subst he
        simpa [h1] using ih


theorem cmpB_swapK : ∀ a b : List UInt8, Lib.compareBytes b a = - Lib.compareBytes a b
  | [], [] => rfl
  | [], _ :: _ => rfl
  | _ :: _, [] => rfl
  | x :: a, y :: b => by
    have ih := cmpB_swapK a b
    unfold Lib.compareBytes
    by_cases h1 : x < y
    · have h2 : ¬ y < x := by rw [UInt8.lt_iff_toNat_lt] at *; omega
      simp [h1, h2]
    · by_cases h2 : y < x
      · simp [h1, h2]
      · simp [h1, h2, ih]
theorem cmpB_zeroK {a b : List UInt8} : Lib.compareBytes a b = 0 ↔ a = b := by
  rcases cmpB_casesK a b with ⟨h, _⟩ | ⟨h, _, rfl⟩ | ⟨h, _, hn⟩
  · rw [h]; refine ⟨fun h => by omega, fun e => ?_⟩
    subst e
    have := cmpB_swapK a a
    omega
  · simp [h]
  · rw [h]; exact ⟨fun h => by omega, fun e => absurd e hn⟩
theorem cmpB_leK : ∀ a b c : List UInt8, Lib.compareBytes a b ≤ 0 → Lib.compareBytes b c ≤ 0 → Lib.compareBytes a c ≤ 0 ∧ (Lib.compareBytes a b < 0 ∨ Lib.compareBytes b c < 0 → Lib.compareBytes a c < 0)
  | [], _, [], _, h => by
    rename_i b _
    cases b with
    | nil => exact ⟨by decide, by decide⟩
    | cons x b => simp [Lib.compareBytes] at h
  | [], [], _ :: _, _, _ => ⟨by simp [Lib.compareBytes], fun _ => by simp [Lib.compareBytes]⟩
  | [], _ :: _, _ :: _, _, _ => ⟨by simp [Lib.compareBytes], fun _ => by simp [Lib.compareBytes]⟩
  | _ :: _, [], _, h, _ => by simp [Lib.compareBytes] at h
  | _ :: _, _ :: _, [], _, h => by simp [Lib.compareBytes] at h
  | x :: a, y :: b, z :: c, h, k => by
    have ih := cmpB_leK a b c
    unfold Lib.compareBytes at h k ⊢
    simp only [UInt8.lt_iff_toNat_lt] at *
    by_cases h1 : x.toNat < y.toNat
    · by_cases h2 : y.toNat < z.toNat
      · have h3 : x.toNat < z.toNat := by omega
        simp [h1, h2, h3]
      · by_cases h4 : z.toNat < y.toNat
        · simp [h2, h4] at k
        · have h3 : x.toNat < z.toNat := by omega
          simp [h1, h2, h4, h3]
    · by_cases h5 : y.toNat < x.toNat
      · simp [h1, h5] at h
      · by_cases h2 : y.toNat < z.toNat
        · have h3 : x.toNat < z.toNat := by omega
          simp [h1, h5, h2, h3]
        · by_cases h4 : z.toNat < y.toNat
          · simp [h2, h4] at k
          · have h3 : ¬ x.toNat < z.toNat := by omega
            have h6 : ¬ z.toNat < x.toNat := by omega
            simp only [h1, h5, h2, h4, h3, h6, if_false] at h k ⊢
            exact ih h k

/-- a file: its name, and what it contains -/
structure Fl where
  n : ByteArray
  d : ByteArray
instance : Inhabited Fl := ⟨⟨⟨#[]⟩, ⟨#[]⟩⟩⟩
def cmpN (a b : ByteArray) : Int := Lib.compareBytes a.data.toList b.data.toList
theorem bytes_eq {a b : ByteArray} : a.data.toList = b.data.toList ↔ a = b := ⟨str_ext, fun h => by rw [h]⟩
theorem cmpN_zero {a b : ByteArray} : cmpN a b = 0 ↔ a = b := by unfold cmpN; rw [cmpB_zeroK, bytes_eq]
theorem cmpN_swap (a b : ByteArray) : cmpN b a = - cmpN a b := cmpB_swapK _ _
theorem cmpN_lt {a b c : ByteArray} (h : cmpN a b < 0) (k : cmpN b c < 0) : cmpN a c < 0 := (cmpB_leK _ _ _ (by unfold cmpN at h; omega) (by unfold cmpN at k; omega)).2 (.inl h)
theorem cmpN_le {a b c : ByteArray} (h : cmpN a b ≤ 0) (k : cmpN b c < 0) : cmpN a c < 0 := (cmpB_leK _ _ _ h (by unfold cmpN at k; omega)).2 (.inr k)
theorem cmpN_le' {a b c : ByteArray} (h : cmpN a b < 0) (k : cmpN b c ≤ 0) : cmpN a c < 0 := (cmpB_leK _ _ _ (by unfold cmpN at h; omega) k).2 (.inl h)
theorem cmpN_self (a : ByteArray) : cmpN a a = 0 := cmpN_zero.2 rfl
/-- names that ascend -/
def SortedN (ns : List ByteArray) : Prop := ns.Pairwise (fun a b => cmpN a b < 0)
def posN (ns : List ByteArray) (n : ByteArray) : Nat := ns.countP (fun x => decide (cmpN x n < 0))
def hasN (ns : List ByteArray) (n : ByteArray) : Bool := ns.any (fun x => decide (x = n))
theorem hasN_mem {ns : List ByteArray} {n : ByteArray} : hasN ns n = true ↔ n ∈ ns := by
  unfold hasN; rw [List.any_eq_true]
  exact ⟨fun ⟨x, hx, e⟩ => by have := of_decide_eq_true e; rwa [← this], fun h => ⟨n, h, by simp⟩⟩
theorem hasN_not {ns : List ByteArray} {n : ByteArray} : hasN ns n = false ↔ n ∉ ns := by rw [← hasN_mem]; simp
theorem posN_le (ns : List ByteArray) (n : ByteArray) : posN ns n ≤ ns.length := List.countP_le_length
theorem posN_zero {ns : List ByteArray} {n : ByteArray} (h : ∀ x ∈ ns, 0 ≤ cmpN x n) : posN ns n = 0 := by
  unfold posN; rw [List.countP_eq_zero]; intro x hx; have := h x hx; simp; omega
theorem posN_at {ns : List ByteArray} {n : ByteArray} (hs : SortedN ns) : ∀ i x, ns[i]? = some x → (i < posN ns n ↔ cmpN x n < 0) := by
  induction ns with
  | nil => simp
  | cons y r ih =>
    obtain ⟨h1, h2⟩ := List.pairwise_cons.1 hs
    intro i x hx
    by_cases hy : cmpN y n < 0
    · have e : posN (y :: r) n = posN r n + 1 := by unfold posN; rw [List.countP_cons]; simp [hy]
      rw [e]
      cases i with
      | zero => obtain rfl : y = x := by simpa using hx
                exact ⟨fun _ => hy, fun _ => by omega⟩
      | succ i =>
        have := ih h2 i x (by simpa using hx)
        rw [← this]; omega
    · have e : posN (y :: r) n = 0 := posN_zero fun x hx => by
        rcases List.mem_cons.1 hx with rfl | hx
        · omega
        · have hyx := h1 x hx
          by_cases hc : 0 ≤ cmpN x n
          · exact hc
          · have := cmpN_lt hyx (show cmpN x n < 0 by omega); omega
      rw [e]
      refine ⟨fun h => by omega, fun h => ?_⟩
      exfalso
      cases i with
      | zero => obtain rfl : y = x := by simpa using hx
                exact hy h
      | succ i =>
        have hm : x ∈ r := List.mem_of_getElem? (show r[i]? = some x by simpa using hx)
        exact hy (cmpN_lt (h1 x hm) h)
/-- where a name stands that is there -/
theorem posN_has {ns : List ByteArray} {n : ByteArray} (hs : SortedN ns) (h : hasN ns n = true) : ns[posN ns n]? = some n := by
  have hm : n ∈ ns := hasN_mem.1 h
  obtain ⟨i, hi⟩ := List.getElem?_of_mem hm
  have h0 := (posN_at (n := n) hs i n hi)
  rw [cmpN_self] at h0
  have hle : posN ns n ≤ i := by omega
  rcases Nat.lt_or_ge (posN ns n) i with hlt | hge
  · have hin : i < ns.length := (List.getElem?_eq_some_iff.1 hi).1
    have hx : ns[posN ns n]? = some (ns[posN ns n]'(by omega)) := List.getElem?_eq_getElem (by omega)
    have h1 := posN_at (n := n) hs _ _ hx
    have h2 : cmpN (ns[posN ns n]'(by omega)) n < 0 := by
      have := List.pairwise_iff_getElem.1 hs (posN ns n) i (by omega) hin hlt
      rwa [(List.getElem?_eq_some_iff.1 hi).2] at this
    omega
  · have : posN ns n = i := by omega
    rw [this]; exact hi
theorem posN_not {ns : List ByteArray} {n : ByteArray} (h : hasN ns n = false) : ns[posN ns n]? ≠ some n := by
  intro hx
  exact hasN_not.1 h (List.mem_of_getElem? hx)
def namesF (l : List Fl) : List ByteArray := l.map Fl.n
def SortedF (l : List Fl) : Prop := SortedN (namesF l)
def posF (l : List Fl) (n : ByteArray) : Nat := posN (namesF l) n
def hasF (l : List Fl) (n : ByteArray) : Bool := hasN (namesF l) n
theorem posF_le (l : List Fl) (n : ByteArray) : posF l n ≤ l.length := by have := posN_le (namesF l) n; simpa [namesF, posF] using this
/-- one put in, one taken away, one made longer, one called otherwise -/
def putF (l : List Fl) (f : Fl) : List Fl := l.take (posF l f.n) ++ f :: l.drop (posF l f.n)
def takeF (l : List Fl) (n : ByteArray) : List Fl := if hasF l n then l.take (posF l n) ++ l.drop (posF l n + 1) else l
def oldF (l : List Fl) (n : ByteArray) : Fl := (l[posF l n]?).getD ⟨n, ⟨#[]⟩⟩
def extF (l : List Fl) (n d : ByteArray) : List Fl := if hasF l n then l.set (posF l n) ⟨n, (oldF l n).d ++ d⟩ else putF l ⟨n, ⟨#[]⟩ ++ d⟩
def renF (l : List Fl) (n t : ByteArray) : List Fl := if hasF l n then putF (takeF (takeF l n) t) ⟨t, (oldF l n).d⟩ else l
def getF (l : List Fl) (n : ByteArray) : Option ByteArray := (l.find? (fun f => decide (f.n = n))).map Fl.d
theorem hasF_at {l : List Fl} {n : ByteArray} (hs : SortedF l) (h : hasF l n = true) : ∃ d, l[posF l n]? = some ⟨n, d⟩ := by
  have := posN_has hs h
  unfold namesF at this
  rw [List.getElem?_map] at this
  obtain ⟨f, hf, e⟩ := Option.map_eq_some_iff.1 this
  refine ⟨f.d, ?_⟩
  unfold posF namesF
  rw [hf, ← e]
/-- a list that has a name, parted there -/
theorem parted {l : List Fl} {n : ByteArray} (hs : SortedF l) (h : hasF l n = true) : ∃ A d B, l = A ++ ⟨n, d⟩ :: B ∧ A.length = posF l n ∧ (∀ f ∈ A, cmpN f.n n < 0) ∧ (∀ f ∈ B, cmpN n f.n < 0) ∧ oldF l n = ⟨n, d⟩ := by
  obtain ⟨d, hd⟩ := hasF_at hs h
  have hlt := (List.getElem?_eq_some_iff.1 hd).1
  have e : l = l.take (posF l n) ++ ⟨n, d⟩ :: l.drop (posF l n + 1) := by
    have h1 := (List.getElem?_eq_some_iff.1 hd).2
    rw [← h1, ← List.drop_eq_getElem_cons hlt, List.take_append_drop]
  refine ⟨_, d, _, e, by rw [List.length_take]; omega, ?_, ?_, by unfold oldF; rw [hd]; rfl⟩
  · intro f hf
    unfold SortedF SortedN namesF at hs
    rw [e, List.map_append, List.pairwise_append] at hs
    exact hs.2.2 f.n (List.mem_map_of_mem hf) n (by simp)
  · intro f hf
    unfold SortedF SortedN namesF at hs
    rw [e, List.map_append, List.pairwise_append, List.map_cons, List.pairwise_cons] at hs
    exact hs.2.1.1 f.n (List.mem_map_of_mem hf)
/-- .. that has not -/
theorem parted_not {l : List Fl} {n : ByteArray} (hs : SortedF l) (h : hasF l n = false) : (∀ f ∈ l.take (posF l n), cmpN f.n n < 0) ∧ (∀ f ∈ l.drop (posF l n), cmpN n f.n < 0) := by
  have hat := posN_at (n := n) hs
  have hne : ∀ f ∈ l, f.n ≠ n := by
    intro f hf e
    have : n ∈ namesF l := by rw [← e]; exact List.mem_map_of_mem hf
    exact hasN_not.1 h this
  constructor
  · intro f hf
    obtain ⟨i, hi⟩ := List.getElem?_of_mem hf
    rw [List.getElem?_take] at hi
    split at hi
    · rename_i hlt
      exact (hat i f.n (by simp [namesF, hi])).1 hlt
    · cases hi
  · intro f hf
    obtain ⟨i, hi⟩ := List.getElem?_of_mem hf
    rw [List.getElem?_drop] at hi
    have h1 := (hat (posF l n + i) f.n (by simp [namesF, hi]))
    unfold posF at h1
    have h2 : ¬ cmpN f.n n < 0 := fun hc => by have := h1.2 hc; omega
    have h3 : cmpN f.n n ≠ 0 := fun hc => hne f (List.mem_of_mem_drop hf) (cmpN_zero.1 hc)
    rw [cmpN_swap]; omega
theorem take_of_parts {l A B : List Fl} {x : Fl} {p : Nat} (e : l = A ++ x :: B) (hp : A.length = p) : l.take p = A ∧ l.drop p = x :: B ∧ l.drop (p + 1) = B ∧ l[p]? = some x := by
  subst e hp
  refine ⟨by simp, by simp, by rw [← List.drop_drop]; simp, by simp⟩
theorem sorted_parts {A B : List Fl} {f : Fl} (ha : SortedF A) (hb : SortedF B) (h1 : ∀ x ∈ A, cmpN x.n f.n < 0) (h2 : ∀ x ∈ B, cmpN f.n x.n < 0) : SortedF (A ++ f :: B) := by
  unfold SortedF SortedN namesF at *
  rw [List.map_append, List.pairwise_append, List.map_cons, List.pairwise_cons]
  refine ⟨ha, ⟨?_, hb⟩, ?_⟩
  · intro n hn
    obtain ⟨x, hx, rfl⟩ := List.mem_map.1 hn
    exact h2 x hx
  · intro n hn m hm
    obtain ⟨x, hx, rfl⟩ := List.mem_map.1 hn
    rcases List.mem_cons.1 hm with rfl | hm
    · exact h1 x hx
    · obtain ⟨y, hy, rfl⟩ := List.mem_map.1 hm
      exact cmpN_lt (h1 x hx) (h2 y hy)
theorem sorted_sub {l m : List Fl} (h : SortedF l) (hs : m.Sublist l) : SortedF m := List.Pairwise.sublist (hs.map _) h
theorem sorted_put {l : List Fl} {f : Fl} (hs : SortedF l) (h : hasF l f.n = false) : SortedF (putF l f) := by
  obtain ⟨h1, h2⟩ := parted_not hs h
  exact sorted_parts (sorted_sub hs (List.take_sublist _ _)) (sorted_sub hs (List.drop_sublist _ _)) h1 h2
theorem sorted_take {l : List Fl} {n : ByteArray} (hs : SortedF l) : SortedF (takeF l n) := by
  unfold takeF
  split
  · rename_i h
    obtain ⟨A, d, B, e, hp, _, _, _⟩ := parted hs h
    obtain ⟨e1, _, e3, _⟩ := take_of_parts e hp
    rw [e1, e3]
    refine sorted_sub hs ?_
    rw [e]
    exact List.Sublist.append_left (List.sublist_cons_self _ _) _
  · exact hs
theorem names_set {l : List Fl} {n : ByteArray} (hs : SortedF l) (h : hasF l n = true) (d : ByteArray) : namesF (l.set (posF l n) ⟨n, d⟩) = namesF l := by
  obtain ⟨x, hx⟩ := hasF_at hs h
  unfold namesF
  rw [List.map_set]
  apply List.ext_getElem?
  intro i
  rw [List.getElem?_set]
  split
  · rename_i hi
    subst hi
    rw [List.getElem?_map, hx]
    have := (List.getElem?_eq_some_iff.1 hx).1
    simp [this]
  · rfl
theorem sorted_ext {l : List Fl} {n d : ByteArray} (hs : SortedF l) : SortedF (extF l n d) := by
  unfold extF
  split
  · rename_i h; unfold SortedF; rw [names_set hs h]; exact hs
  · rename_i h; exact sorted_put hs (by simpa using h)
theorem has_take {l : List Fl} {n : ByteArray} (hs : SortedF l) : hasF (takeF l n) n = false := by
  by_cases h : hasF l n = true
  · obtain ⟨A, d, B, e, hp, ha, hb, _⟩ := parted hs h
    obtain ⟨e1, _, e3, _⟩ := take_of_parts e hp
    unfold takeF
    rw [if_pos h, e1, e3]
    unfold hasF namesF
    rw [hasN_not]
    intro hm
    obtain ⟨f, hf, rfl⟩ := List.mem_map.1 hm
    rcases List.mem_append.1 hf with hf | hf
    · have := ha f hf; rw [cmpN_self] at this; omega
    · have := hb f hf; rw [cmpN_self] at this; omega
  · unfold takeF; rw [if_neg h]; simpa using h
theorem sorted_ren {l : List Fl} {n t : ByteArray} (hs : SortedF l) : SortedF (renF l n t) := by
  unfold renF
  split
  · exact sorted_put (sorted_take (sorted_take hs)) (has_take (sorted_take hs))
  · exact hs
theorem get_app (A B : List Fl) (m : ByteArray) : getF (A ++ B) m = (getF A m).or (getF B m) := by
  unfold getF; rw [List.find?_append]; cases List.find? (fun f => decide (f.n = m)) A <;> simp
theorem get_cons (f : Fl) (B : List Fl) (m : ByteArray) : getF (f :: B) m = if m = f.n then some f.d else getF B m := by
  unfold getF; rw [List.find?_cons]
  by_cases h : m = f.n
  · subst h; simp
  · have : decide (f.n = m) = false := by simpa using fun e => h e.symm
    simp [this, h]
theorem get_none {l : List Fl} {m : ByteArray} : getF l m = none ↔ hasF l m = false := by
  unfold getF hasF namesF
  rw [Option.map_eq_none_iff, List.find?_eq_none, hasN_not]
  simp
theorem get_lt {l : List Fl} {m : ByteArray} (h : ∀ f ∈ l, cmpN f.n m < 0) : getF l m = none := by
  rw [get_none]; unfold hasF namesF; rw [hasN_not]
  intro hm; obtain ⟨f, hf, rfl⟩ := List.mem_map.1 hm; have := h f hf; rw [cmpN_self] at this; omega
theorem get_gt {l : List Fl} {m : ByteArray} (h : ∀ f ∈ l, cmpN m f.n < 0) : getF l m = none := by
  rw [get_none]; unfold hasF namesF; rw [hasN_not]
  intro hm; obtain ⟨f, hf, rfl⟩ := List.mem_map.1 hm; have := h f hf; rw [cmpN_self] at this; omega
theorem get_put {l : List Fl} {f : Fl} (h : hasF l f.n = false) (m : ByteArray) : getF (putF l f) m = if m = f.n then some f.d else getF l m := by
  unfold putF
  rw [get_app, get_cons]
  have e : getF l m = (getF (l.take (posF l f.n)) m).or (getF (l.drop (posF l f.n)) m) := by rw [← get_app, List.take_append_drop]
  split
  · rename_i hm
    have h0 := get_none.2 h
    rw [← hm, e] at h0
    cases hx : getF (List.take (posF l f.n) l) m
    · rfl
    · rw [hx] at h0; simp at h0
  · rw [e]
theorem get_take {l : List Fl} {n : ByteArray} (hs : SortedF l) (m : ByteArray) : getF (takeF l n) m = if m = n then none else getF l m := by
  by_cases h : hasF l n = true
  · by_cases hm : m = n
    · subst hm; rw [if_pos rfl, get_none]; exact has_take hs
    · obtain ⟨A, d, B, e, hp, ha, hb, _⟩ := parted hs h
      obtain ⟨e1, _, e3, _⟩ := take_of_parts e hp
      unfold takeF
      rw [if_pos h, e1, e3, if_neg hm, get_app, e, get_app, get_cons, if_neg hm]
  · have h0 : hasF l n = false := by simpa using h
    unfold takeF
    rw [if_neg h]
    split
    · rename_i hm; rw [hm]; exact get_none.2 h0
    · rfl
theorem get_old {l : List Fl} {n : ByteArray} (hs : SortedF l) (h : hasF l n = true) : getF l n = some (oldF l n).d := by
  obtain ⟨A, d, B, e, hp, ha, hb, ho⟩ := parted hs h
  rw [ho, e, get_app, get_lt ha, get_cons, if_pos rfl]; rfl
theorem empty_app (d : ByteArray) : (⟨#[]⟩ : ByteArray) ++ d = d := by apply str_ext; simp
theorem get_ext {l : List Fl} {n d : ByteArray} (hs : SortedF l) (m : ByteArray) : getF (extF l n d) m = if m = n then some ((getF l n).getD ⟨#[]⟩ ++ d) else getF l m := by
  unfold extF
  by_cases h : hasF l n = true
  · obtain ⟨A, x, B, e, hp, ha, hb, ho⟩ := parted hs h
    rw [if_pos h, get_old hs h, ho]
    have : l.set (posF l n) ⟨n, x ++ d⟩ = A ++ ⟨n, x ++ d⟩ :: B := by
      rw [← hp, e]; simp
    dsimp only
    rw [this, get_app, get_cons]
    by_cases hm : m = n
    · subst hm; rw [if_pos rfl, if_pos rfl, get_lt ha]; simp
    · rw [if_neg hm, if_neg hm, e, get_app, get_cons, if_neg hm]
  · have h0 : hasF l n = false := by simpa using h
    rw [if_neg h, get_put h0, get_none.2 h0]; rfl
theorem get_ren {l : List Fl} {n t : ByteArray} (hs : SortedF l) (h : hasF l n = true) (m : ByteArray) : getF (renF l n t) m = if m = t then getF l n else if m = n then none else getF l m := by
  unfold renF
  have h1 := has_take (n := t) (sorted_take (n := n) hs)
  rw [if_pos h, get_put (f := ⟨t, (oldF l n).d⟩) h1, get_take (sorted_take hs), get_take hs, get_old hs h]
  dsimp only
  split
  · rfl
  · rfl
/-- files that ascend are what is there of each name -/
theorem files_ext : ∀ {l k : List Fl}, SortedF l → SortedF k → (∀ m, getF l m = getF k m) → l = k
  | [], [], _, _, _ => rfl
  | [], f :: k, _, _, h => by have := h f.n; rw [get_cons, if_pos rfl] at this; simp [getF] at this
  | f :: l, [], _, _, h => by have := h f.n; rw [get_cons, if_pos rfl] at this; simp [getF] at this
  | f :: l, g :: k, hl, hk, h => by
    obtain ⟨a1, a2⟩ := List.pairwise_cons.1 (show List.Pairwise _ (f.n :: l.map Fl.n) from hl)
    obtain ⟨b1, b2⟩ := List.pairwise_cons.1 (show List.Pairwise _ (g.n :: k.map Fl.n) from hk)
    have al : ∀ x ∈ l, cmpN f.n x.n < 0 := fun x hx => a1 x.n (List.mem_map_of_mem hx)
    have bl : ∀ x ∈ k, cmpN g.n x.n < 0 := fun x hx => b1 x.n (List.mem_map_of_mem hx)
    have hfg : f.n = g.n := by
      by_cases h0 : f.n = g.n
      · exact h0
      · exfalso
        have h1 := h f.n
        rw [get_cons, if_pos rfl, get_cons, if_neg h0] at h1
        have h2 := h g.n
        rw [get_cons, if_neg (fun e => h0 e.symm), get_cons, if_pos rfl] at h2
        by_cases hc : cmpN f.n g.n < 0
        · have : getF k f.n = none := get_gt fun x hx => cmpN_lt hc (bl x hx)
          rw [this] at h1; cases h1
        · have hc2 : cmpN g.n f.n < 0 := by
            have := cmpN_swap f.n g.n
            have h3 : cmpN f.n g.n ≠ 0 := fun e => h0 (cmpN_zero.1 e)
            omega
          have : getF l g.n = none := get_gt fun x hx => cmpN_lt hc2 (al x hx)
          rw [this] at h2; cases h2
    have hd : f.d = g.d := by
      have h1 := h f.n
      rw [get_cons, if_pos rfl, get_cons, if_pos hfg] at h1
      exact Option.some.inj h1
    have hfe : f = g := by cases f; cases g; simp_all
    subst hfe
    have : l = k := files_ext a2 b2 fun m => by
      have h1 := h m
      rw [get_cons, get_cons] at h1
      by_cases hm : m = f.n
      · rw [hm, get_gt al, get_gt bl]
      · rwa [if_neg hm, if_neg hm] at h1
    rw [this]
/-- how much they contain -/
def szF (l : List Fl) : Nat := (l.map (fun f => f.d.size)).sum
theorem szF_app (A B : List Fl) : szF (A ++ B) = szF A + szF B := by unfold szF; simp
theorem szF_cons (f : Fl) (B : List Fl) : szF (f :: B) = f.d.size + szF B := by unfold szF; simp
theorem szF_put (l : List Fl) (f : Fl) : szF (putF l f) = szF l + f.d.size := by
  unfold putF
  have : szF l = szF (l.take (posF l f.n)) + szF (l.drop (posF l f.n)) := by rw [← szF_app, List.take_append_drop]
  rw [szF_app, szF_cons, this]; omega
theorem szF_take {l : List Fl} {n : ByteArray} (hs : SortedF l) (h : hasF l n = true) : szF (takeF l n) + (oldF l n).d.size = szF l := by
  obtain ⟨A, d, B, e, hp, _, _, ho⟩ := parted hs h
  obtain ⟨e1, _, e3, _⟩ := take_of_parts e hp
  unfold takeF
  rw [if_pos h, e1, e3, ho, e, szF_app, szF_app, szF_cons]
  dsimp only; omega
theorem bsize_app (a b : ByteArray) : (a ++ b).size = a.size + b.size := ByteArray.size_append ..
theorem szF_ext {l : List Fl} {n d : ByteArray} (hs : SortedF l) : szF (extF l n d) = szF l + d.size := by
  unfold extF
  by_cases h : hasF l n = true
  · obtain ⟨A, x, B, e, hp, _, _, ho⟩ := parted hs h
    rw [if_pos h, ho]
    have : l.set (posF l n) ⟨n, x ++ d⟩ = A ++ ⟨n, x ++ d⟩ :: B := by rw [← hp, e]; simp
    dsimp only
    rw [this, e, szF_app, szF_app, szF_cons, szF_cons]
    dsimp only
    rw [bsize_app]; omega
  · rw [if_neg h, szF_put]
    dsimp only
    rw [empty_app]
theorem len_put (l : List Fl) (f : Fl) : (putF l f).length = l.length + 1 := by
  unfold putF; have := posF_le l f.n; simp; omega
theorem len_take {l : List Fl} {n : ByteArray} : (takeF l n).length ≤ l.length := by
  unfold takeF; split
  · simp; omega
  · omega
theorem len_take_has {l : List Fl} {n : ByteArray} (hs : SortedF l) (h : hasF l n = true) : (takeF l n).length + 1 = l.length := by
  obtain ⟨A, d, B, e, hp, _, _, _⟩ := parted hs h
  obtain ⟨e1, _, e3, _⟩ := take_of_parts e hp
  unfold takeF
  rw [if_pos h, e1, e3, e]; simp; omega
/-- what writes do -/
structure Wr where
  k : Int
  n : ByteArray
  t : ByteArray
  d : ByteArray
instance : Inhabited Wr := ⟨⟨0, ⟨#[]⟩, ⟨#[]⟩, ⟨#[]⟩⟩⟩
def appF (l : List Fl) (w : Wr) : List Fl := if w.k = 1 then extF l w.n w.d else if w.k = 2 then renF l w.n w.t else if w.k = 3 then takeF l w.n else l
def baseF (fs : List Fl) : List Fl := fs.foldl (fun l f => extF l f.n f.d) []
def lookF (fs : List Fl) (ws : List Wr) : List Fl := ws.foldl appF (baseF fs)
theorem sorted_app {l : List Fl} {w : Wr} (hs : SortedF l) : SortedF (appF l w) := by
  unfold appF
  split
  · exact sorted_ext hs
  · split
    · exact sorted_ren hs
    · split
      · exact sorted_take hs
      · exact hs
theorem ext_end {A : List Fl} {f : Fl} (h : ∀ x ∈ A, cmpN x.n f.n < 0) : extF A f.n f.d = A ++ [f] := by
  have h0 : hasF A f.n = false := get_none.1 (get_lt h)
  unfold extF
  rw [if_neg (by simp [h0])]
  have hp : posF A f.n = A.length := by
    unfold posF posN
    rw [List.countP_eq_length.2]
    · simp [namesF]
    · intro x hx
      obtain ⟨y, hy, rfl⟩ := List.mem_map.1 hx
      simpa using h y hy
  unfold putF
  dsimp only
  rw [hp, empty_app]; simp
theorem base_from : ∀ (fs A : List Fl), SortedF (A ++ fs) → fs.foldl (fun l f => extF l f.n f.d) A = A ++ fs
  | [], A, _ => by simp
  | f :: fs, A, h => by
    have h1 : ∀ x ∈ A, cmpN x.n f.n < 0 := by
      unfold SortedF SortedN namesF at h
      rw [List.map_append, List.pairwise_append] at h
      exact fun x hx => h.2.2 x.n (List.mem_map_of_mem hx) f.n (by simp)
    rw [List.foldl_cons, ext_end h1, base_from fs (A ++ [f]) (by simpa using h)]
    simp
theorem base_sorted {fs : List Fl} (h : SortedF fs) : baseF fs = fs := base_from fs [] (by simpa using h)
theorem sorted_look : ∀ (ws : List Wr) {l : List Fl}, SortedF l → SortedF (ws.foldl appF l)
  | [], _, h => h
  | w :: ws, _, h => sorted_look ws (sorted_app h)
end Go.Proofs.YtllpfngmnccejaaGreat
namespace Go.Proofs.YtllpfngmnccejaaGreat
open Go Go.RowKit

/-- l with vs from place o on -/
def splice (l : List Value) (o : Nat) (vs : List Value) : List Value := l.take o ++ vs ++ l.drop (o + vs.length)
theorem splice_len {l : List Value} {o : Nat} {vs : List Value} (h : o + vs.length ≤ l.length) : (splice l o vs).length = l.length := by
  unfold splice; simp; omega
theorem own_rowK {w : World} {g : Nat} {t : TypeId} {cur cs : List Value} (h : Own w g t cur) : Own (w.setRow g cs.toArray) g t cs := by
  unfold Own at *
  simp [World.setRow, Array.getElem?_modify, h]
theorem row_other {w : World} {g k : Nat} {cs : Array Value} (h : k ≠ g) : (w.setRow g cs).heap[k]? = w.heap[k]? := setRow_other w g k cs h
/-- only the blocks of S have turned, of those that were there -/
structure KeptK (w w' : World) (S : Nat → Prop) : Prop where
  os : w'.os = w.os
  tape : w'.tape = w.tape
  output : w'.output = w.output
  size : w.heap.size ≤ w'.heap.size
  block : ∀ k, k < w.heap.size → ¬ S k → w'.heap[k]? = w.heap[k]?
section
variable {w w' w'' : World} {S T : Nat → Prop}
theorem KeptK.refl (w : World) (S : Nat → Prop) : KeptK w w S := ⟨rfl, rfl, rfl, Nat.le_refl _, fun _ _ _ => rfl⟩
theorem KeptK.trans (h : KeptK w w' S) (k : KeptK w' w'' T) (hs : ∀ b, b < w.heap.size → T b → S b) : KeptK w w'' S :=
  ⟨k.os.trans h.os, k.tape.trans h.tape, k.output.trans h.output, Nat.le_trans h.size k.size,
    fun b hb hn => (k.block b (Nat.lt_of_lt_of_le hb h.size) (fun ht => hn (hs b hb ht))).trans (h.block b hb hn)⟩
theorem KeptK.more (h : KeptK w w' S) (hs : ∀ b, S b → T b) : KeptK w w' T := ⟨h.os, h.tape, h.output, h.size, fun b hb hn => h.block b hb (fun x => hn (hs b x))⟩
theorem KeptK.of_below {B : Nat} (h : Below B w w') (hB : w.heap.size ≤ B) (S : Nat → Prop) : KeptK w w' S := ⟨h.os, h.tape, h.output, h.size, fun b hb _ => h.block b (by omega)⟩
theorem KeptK.of_grown {o : Option Nat} (h : w.grownBy w' o) (hs : ∀ b, o = some b → S b) : KeptK w w' S :=
  ⟨h.os, h.tape, h.output, h.size, fun b hb hn => h.block b hb (fun e => hn (hs b e.symm))⟩
theorem KeptK.below {B : Nat} (h : KeptK w w' S) (hB : ∀ b, S b → B ≤ b) (hs : B ≤ w.heap.size) : Below B w w' := ⟨h.os, h.tape, h.output, h.size, fun b hb => h.block b (by omega) (fun x => by have := hB b x; omega)⟩
theorem KeptK.row {base : Nat} {e : TypeId} {size : Nat} {v : Value} {n : Nat} {xs : List Value} (h : KeptK w w' S) (ho : w.ownsRow base e size v n xs) (hn : ∀ k, v.ownBlock = some k → ¬ S k) : w'.ownsRow base e size v n xs := by
  refine ⟨ho.1, ?_⟩
  rcases ho.2 with h0 | ⟨g, cap, cur, rfl, hb, hg, rest⟩
  · exact .inl h0
  · refine .inr ⟨g, cap, cur, rfl, hb, ?_, rest⟩
    rw [h.block g (Array.getElem?_eq_some_iff.1 hg).1 (hn g rfl)]
    exact hg
theorem KeptK.own {g : Nat} {t : TypeId} {l : List Value} (h : KeptK w w' S) (ho : Own w g t l) (hn : ¬ S g) : Own w' g t l := (h.block g ho.inside hn).trans ho
theorem KeptK.set_ (h : KeptK w w' S) {g o : Nat} (hg : S g ∨ w.heap.size ≤ g) (u : Value) : KeptK w (w'.setCell ⟨g, o, none⟩ u) S :=
  ⟨h.os, h.tape, h.output, by simpa using h.size, fun b hb hn => (Below.heap_setCell w' ⟨g, o, none⟩ u b (by intro e; dsimp only at e; subst e; rcases hg with h1 | h1; exact hn h1; omega)).trans (h.block b hb hn)⟩
theorem KeptK.alloc (h : KeptK w w' S) (o : Obj) : KeptK w (w'.alloc o) S := ⟨h.os, h.tape, h.output, Nat.le_trans h.size (by simp), fun b hb hn => (Below.heap_alloc w' o b (Nat.lt_of_lt_of_le hb h.size)).trans (h.block b hb hn)⟩
theorem KeptK.drew (h : KeptK w w' S) : KeptK w w'.drew S := ⟨h.os, h.tape, h.output, h.size, h.block⟩
end
/-- a row by the block in which it lies -/
theorem row_ownK {w : World} {base c n size : Nat} {e : TypeId} {A : Option Addr} {xs : List Value} (h : w.ownsRow base e size (.slice A n c) n xs) :
    (A = none ∧ n = 0 ∧ c = 0 ∧ xs = []) ∨ ∃ g cur, A = some ⟨g, 0, none⟩ ∧ base ≤ g ∧ Own w g e cur ∧ n ≤ c ∧ c ≤ maxLen ∧ cur.length = c * size ∧ cur.take (n * size) = xs := by
  rcases h.2 with ⟨h0, h1⟩ | ⟨g, cap, cur, hv, hb, hg, h1, h2, h3, h4⟩
  · simp only [Value.slice.injEq] at h0
    refine .inl ⟨h0.1, h1, h0.2.2, ?_⟩
    have := h.1
    rw [h1] at this
    exact List.length_eq_zero_iff.1 (by omega)
  · simp only [Value.slice.injEq] at hv
    obtain ⟨rfl, _, rfl⟩ := hv
    exact .inr ⟨g, cur.toList, rfl, hb, by unfold Own; simpa using hg, h1, h2, by simpa using h3, h4⟩
theorem own_to_row {w : World} {base g c n size : Nat} {e : TypeId} {cur : List Value} (h : Own w g e cur) (hb : base ≤ g) (hn : n ≤ c) (hm : c ≤ maxLen) (hl : cur.length = c * size) :
    w.ownsRow base e size (.slice (some ⟨g, 0, none⟩) n c) n (cur.take (n * size)) :=
  ⟨by rw [List.length_take, hl]; exact Nat.min_eq_left (Nat.mul_le_mul_right _ hn), .inr ⟨g, c, cur.toArray, rfl, hb, h, hn, hm, by simpa using hl, by simp⟩⟩
/-- 'copy' into a block of the call's own -/
theorem run_copy_into {P : Program} (w : World) (dT sT ty elem : TypeId) (g o dLen dCap : Nat) (a : Addr) (sLen sCap k : Nat) (cur cs : List Value) (t : TypeId) (hu : P.underlying dT = some (.slice elem)) (hs : (P.info? elem).map (·.size) = some k)
    (hg : Own w g t cur) (hn : cs.length = Nat.min sLen dLen * k) (hsrc : ∀ j v, cs[j]? = some v → w.cell? (a.add j) = some v) (hfit : o + cs.length ≤ cur.length) (h1 : ∀ v ∈ cs, v.oneCell' = true) :
    (Builtin.copy_ #[dT, sT] ty #[.slice (some ⟨g, o, none⟩) dLen dCap, .slice (some a) sLen sCap]).run P w = .ok (goInt (Nat.min sLen dLen)) (w.setRow g (splice cur o cs).toArray) := by
  have hl := run_loadCells_list (P := P) w a cs hsrc
  have hst := run_storeCells_at P g o t cs 0 cur.toArray w hg (by simpa using hfit) h1
  simp only [Nat.add_zero] at hst
  cases hq : P.info? elem with
  | none => simp [hq] at hs
  | some i =>
    have hi : i.size = k := by simpa [hq] using hs
    simp [Builtin.copy_, run_underlying hu, Builtin.lenOf, Builtin.firstCells, sizeOf, typeInfo, hq, hi, ← hn, hl, hst, splice]
/-- 'clear' of one element in a block of the call's own -/
theorem run_clear_one {P : Program} (w : World) (t e ty tt : TypeId) (z : Value) (ht : P.underlying t = some (.slice e)) (hv : ∀ w, (zeroValue e).run P w = .ok z w) (h1 : ∀ u ∈ z.cells.toList, u.oneCell' = true) (g o c : Nat) (cur : List Value) (hg : Own w g tt cur)
    (hfit : o + z.cells.size ≤ cur.length) :
    (Builtin.clear_ #[t] ty #[.slice (some ⟨g, o, none⟩) 1 c]).run P w = .ok (.tuple #[]) (w.setRow g (splice cur o z.cells.toList).toArray) := by
  have hz : (Builtin.zeroCells z.cells 1).toList = z.cells.toList := by
    unfold Builtin.zeroCells
    apply List.ext_getElem
    · simp
    · intro i h1 h2
      simp at h1 h2 ⊢
      rw [getElem!_pos z.cells (i % z.cells.size) (by rw [Nat.mod_eq_of_lt h1]; exact h1)]
      simp [Nat.mod_eq_of_lt h1]
  have hst := run_storeCells_at P g o tt z.cells.toList 0 cur.toArray w hg (by simpa using hfit) h1
  simp only [Nat.add_zero] at hst
  simp [Builtin.clear_, run_underlying ht, hv, hz, hst, splice]
/-- a builtin of two arguments whose run is known, as a step of a region that draws its order -/
theorem step_append_known {P : Program} {ops : Array Oper} {o : Oper} {a : Act} {w : World} {K : Act → World → Prop} {Q : Exit → Act → World → Prop} {E : Prop}
    (hg : o.guard = none) (d x : Operand) (dT sT : TypeId) (hop : o.op = Op.call { callee := Callee.builtin Builtin.append, args := #[d, x], argTypes := #[dT, sT] })
    (v u : Value) (hd : a.eval d = v) (hx : a.eval x = u) {v' : Value} {w' : World} (hr : (Builtin.append_ #[dT, sT] o.type #[v, u]).run P w = .ok v' w') (hK : K (a.put o.dst v') w') :
    if Region.wanted o (yielded ops a.tmps) = true then Oper.wp P o a w K Q else E := by
  have hw : Region.wanted o (yielded ops a.tmps) = true := by simp [Region.wanted, hg]
  rw [if_pos hw]
  unfold Oper.wp
  simp [execOp, hop, resolve, invoke, builtin, hd, hx, hr, Result.andThen]
  exact hK
theorem step_copy_known {P : Program} {ops : Array Oper} {o : Oper} {a : Act} {w : World} {K : Act → World → Prop} {Q : Exit → Act → World → Prop} {E : Prop}
    (hg : o.guard = none) (d x : Operand) (dT sT : TypeId) (hop : o.op = Op.call { callee := Callee.builtin Builtin.copy, args := #[d, x], argTypes := #[dT, sT] })
    (v u : Value) (hd : a.eval d = v) (hx : a.eval x = u) {v' : Value} {w' : World} (hr : (Builtin.copy_ #[dT, sT] o.type #[v, u]).run P w = .ok v' w') (hK : K (a.put o.dst v') w') :
    if Region.wanted o (yielded ops a.tmps) = true then Oper.wp P o a w K Q else E := by
  have hw : Region.wanted o (yielded ops a.tmps) = true := by simp [Region.wanted, hg]
  rw [if_pos hw]
  unfold Oper.wp
  simp [execOp, hop, resolve, invoke, builtin, hd, hx, hr, Result.andThen]
  exact hK
theorem list_append_known {P : Program} (w : World) {ops : Array Oper} {rest : List Oper} {o : Oper} {a : Act} {Q : Exit → Act → World → Prop} (hgd : o.guard = none) (d s : Operand) (t t' : TypeId)
    (ho : o.op = .call { callee := .builtin .append, args := #[d, s], argTypes := #[t, t'] }) (v u : Value) (hd : a.eval d = v) (hs : a.eval s = u) {v' : Value} {w' : World}
    (hr : (Builtin.append_ #[t, t'] o.type #[v, u]).run P w = .ok v' w') (h : wpList P ops Q rest (a.put o.dst v') w') : wpList P ops Q (o :: rest) a w := by
  refine wpList_plain hgd fun K hK => ?_
  unfold Oper.wp execOp
  simp only [ho, resolve, invoke, builtin, Sem.run_bind, Sem.run_pure, Result.andThen_ok, List.map_toArray, List.map_cons, List.map_nil, hd, hs, hr]
  exact hK _ _ h
theorem list_copy_known {P : Program} (w : World) {ops : Array Oper} {rest : List Oper} {o : Oper} {a : Act} {Q : Exit → Act → World → Prop} (hgd : o.guard = none) (d s : Operand) (t t' : TypeId)
    (ho : o.op = .call { callee := .builtin .copy, args := #[d, s], argTypes := #[t, t'] }) (v u : Value) (hd : a.eval d = v) (hs : a.eval s = u) {v' : Value} {w' : World}
    (hr : (Builtin.copy_ #[t, t'] o.type #[v, u]).run P w = .ok v' w') (h : wpList P ops Q rest (a.put o.dst v') w') : wpList P ops Q (o :: rest) a w := by
  refine wpList_plain hgd fun K hK => ?_
  unfold Oper.wp execOp
  simp only [ho, resolve, invoke, builtin, Sem.run_bind, Sem.run_pure, Result.andThen_ok, List.map_toArray, List.map_cons, List.map_nil, hd, hs, hr]
  exact hK _ _ h
theorem list_clear_known {P : Program} (w : World) {ops : Array Oper} {rest : List Oper} {o : Oper} {a : Act} {Q : Exit → Act → World → Prop} (hgd : o.guard = none) (d : Operand) (t : TypeId)
    (ho : o.op = .call { callee := .builtin .clear, args := #[d], argTypes := #[t] }) (v : Value) (hd : a.eval d = v) {v' : Value} {w' : World}
    (hr : (Builtin.clear_ #[t] o.type #[v]).run P w = .ok v' w') (h : wpList P ops Q rest (a.put o.dst v') w') : wpList P ops Q (o :: rest) a w := by
  refine wpList_plain hgd fun K hK => ?_
  unfold Oper.wp execOp
  simp only [ho, resolve, invoke, builtin, Sem.run_bind, Sem.run_pure, Result.andThen_ok, List.map_toArray, List.map_cons, List.map_nil, hd, hr]
  exact hK _ _ h
end Go.Proofs.YtllpfngmnccejaaGreat
namespace Go.Proofs.YtllpfngmnccejaaGreat
open Go Go.RowKit

theorem own_twoM {w : World} {P : Nat} {t : TypeId} {z0 z1 : Value} (h : Own w P t [z0, z1]) (a b : Value) :
    ∃ X, X = ((w.setCell ⟨P, 0, none⟩ a).setCell ⟨P, 1, none⟩ b) ∧ Own X P t [a, b] ∧ (∀ B u, Below B u w → B ≤ P → Below B u X) ∧ X.heap.size = w.heap.size ∧ (∀ b, b ≠ P → X.heap[b]? = w.heap[b]?) :=
  ⟨_, rfl, (h.set_ 0 a).set_ 1 b, fun B u hb hB => (hb.setCell (p := ⟨P, 0, none⟩) hB _).setCell (p := ⟨P, 1, none⟩) hB _, by simp [World.setCell], fun b hb => by
    have k := fun (W : World) (i : Nat) (v : Value) => Below.heap_setCell W ⟨P, i, none⟩ v b hb
    rw [k, k]⟩
theorem own_open2 {w : World} {P : Nat} {t : TypeId} {z0 z1 : Value} (h : Own w P t [z0, z1]) : w.frozen? ⟨P, 0, none⟩ = false ∧ w.frozen? ⟨P, 1, none⟩ = false := ⟨h.open_ 0, h.open_ 1⟩
section
variable {w w' : World} {S : Nat → Prop} {D : Nat} {A : Option Addr}
theorem KeptK.at_ (k : KeptK w w' S) (hS : ∀ b, S b → b < D) {b j : Nat} (hb : b < w.heap.size) (hD : D ≤ b) : w'.cell? ⟨b, j, none⟩ = w.cell? ⟨b, j, none⟩ := by
  unfold World.cell?
  rw [k.block b hb fun h => by have := hS b h; omega]
theorem times_kept {l : List Tm} (k : KeptK w w' S) (hS : ∀ b, S b → b < D) (h : Times w w.heap.size A l) (lo : LoT D A) : Times w' w'.heap.size A l := fun hp => by
  obtain ⟨b, o, e, hb, hc⟩ := h hp
  have hk := fun j => k.at_ (j := j) hS hb (lo b o e)
  refine ⟨b, o, e, Nat.lt_of_lt_of_le hb k.size, fun i x hi => ?_⟩
  obtain ⟨a0, a1, a2⟩ := hc i x hi
  exact ⟨(hk _).trans a0, (hk _).trans a1, (hk _).trans a2⟩
theorem vals_kept {l : List Vl} (k : KeptK w w' S) (hS : ∀ b, S b → b < D) (h : Vals w w.heap.size A l) (lo : ∀ b o, A = some ⟨b, o, none⟩ → D ≤ b) : Vals w' w'.heap.size A l := fun hp => by
  obtain ⟨b, o, e, hb, hc⟩ := h hp
  have hk := fun j => k.at_ (j := j) hS hb (lo b o e)
  refine ⟨b, o, e, Nat.lt_of_lt_of_le hb k.size, fun i x hi => ?_⟩
  obtain ⟨a0, a1, a2⟩ := hc i x hi
  exact ⟨(hk _).trans a0, (hk _).trans a1, (hk _).trans a2⟩
theorem ups_kept {l : List Up} (k : KeptK w w' S) (hS : ∀ b, S b → b < D) (h : Ups w w.heap.size A l) (lo : Lo D A l) : Ups w' w'.heap.size A l := by
  refine ⟨fun hp => ?_, fun u hu => ⟨vals_kept k hS (h.each_ u hu).key (fun b o e => lo.2 u hu b o (.inl e)), vals_kept k hS (h.each_ u hu).row (fun b o e => lo.2 u hu b o (.inr e))⟩⟩
  obtain ⟨b, o, e, hb, hc⟩ := h.head hp
  exact ⟨b, o, e, Nat.lt_of_lt_of_le hb k.size, fun i x hi j u hj => (k.at_ hS hb (lo.1 b o e)).trans (hc i x hi j u hj)⟩
theorem bt_kept {e : Bt} (k : KeptK w w' S) (hS : ∀ b, S b → b < D) (h : BtIn w w.heap.size e) (lo : BtLo D e) : BtIn w' w'.heap.size e :=
  ⟨times_kept k hS h.since lo.f, ups_kept k hS h.ups lo.l⟩
end
theorem bt_other {w X : World} {P : Nat} {m : Bt} (h : BtIn w w.heap.size m) (hlo : BtLo (P + 1) m) (hs : X.heap.size = w.heap.size) (hX : ∀ b, b ≠ P → X.heap[b]? = w.heap[b]?) : BtIn X X.heap.size m := ⟨times_other h.since hlo.f hs hX, ups_other h.ups hlo.l hs hX⟩
end Go.Proofs.YtllpfngmnccejaaGreat
namespace Go.Proofs.YtllpfngmnccejaaGreat
open Go Go.RowKit

set_option maxRecDepth 100000 in
set_option maxHeartbeats 6400000 in
theorem topsame_any (A A' : Option Addr) (c c' : Nat) (l m : List Ct) (w : World) (hl : Cts w w.heap.size A l) (hm : Cts w w.heap.size A' m) (hol : ∀ u ∈ l, COk u) (hn : l.length ≤ 1099511627776) (h : l.map Ct.p = m.map Ct.p) :
    Calls Tryz.prog 22 #[.slice A l.length c, .slice A' m.length c'] w fun x w' => x = .returned (.bool true) ∧ Below w.heap.size w w' := by
  have hlen : l.length = m.length := by have := congrArg List.length h; simpa using this
  have t1 : ((l.length : Int) != (m.length : Int)) = false := by simp [hlen]
  have HL := Lib.hid (And.intro hl (And.intro hm (And.intro hol (And.intro h hlen))))
  clear hl hm hol h hlen
  go_enter Tryz.func22, Tryz.ntmps22
  go_wp2_with fail
  go_loopw [14] (fun v wr => ∃ j : Nat, v = .int .i64 (j : Int) ∧ j ≤ l.length ∧ Below w.heap.size w wr) (fun v _ => l.length - (intOf v).toNat)
  case atStart => exact ⟨0, rfl, by omega, Below.refl _ _⟩
  case round =>
    obtain ⟨j, rfl, hj, hb⟩ := hrel
    by_cases hjt : j < l.length
    · have hjm : j < m.length := by have := HL.out.2.2.2.2; omega
      obtain ⟨x, hx⟩ : ∃ x, l[j]? = some x := ⟨_, List.getElem?_eq_getElem hjt⟩
      obtain ⟨y, hy⟩ : ∃ y, m[j]? = some y := ⟨_, List.getElem?_eq_getElem hjm⟩
      have hxy : y.p = x.p := by
        have h1 : (l.map Ct.p)[j]? = some x.p := by rw [List.getElem?_map, hx]; rfl
        rw [HL.out.2.2.2.1, List.getElem?_map, hy] at h1
        exact Option.some.inj h1
      obtain ⟨b, o, rfl, hB, hxs⟩ := lies_ct HL.out.1.head (by omega)
      obtain ⟨b', o', rfl, hB', hys⟩ := lies_ct HL.out.2.1.head (by omega)
      have hX := hxs j x hx
      have hY := hys j y hy
      have hV := (HL.out.1.each_ x (List.mem_of_getElem? hx)).row
      have hW := (HL.out.2.1.each_ y (List.mem_of_getElem? hy)).row
      have hrn := (HL.out.2.2.1 x (List.mem_of_getElem? hx)).rn
      clear hx hy hxs hys
      obtain ⟨xA, xc, r, n⟩ := x
      obtain ⟨yA, yc, r', n'⟩ := y
      obtain ⟨e1, e2⟩ : r' = r ∧ n' = n := by unfold Ct.p at hxy; simpa using hxy
      subst e1 e2
      have HX := Lib.hid (And.intro hX (And.intro hB (And.intro hY hB')))
      have HV := Lib.hid (And.intro hV hW)
      obtain ⟨c0, c1⟩ := (HX.out.1.past_ hb HX.out.2.1).two
      obtain ⟨d0, d1⟩ := (HX.out.2.2.1.past_ hb HX.out.2.2.2).two
      have q0 : (0 : Int) ≤ (j : Int) := by omega
      have q1 : (j : Int) < (l.length : Int) := by omega
      have q2 : (j : Int) < (m.length : Int) := by omega
      have t2 : (n' != n') = false := by simp
      have t3 : ((r'.length : Int) != (r'.length : Int)) = false := by simp
      have HB := Lib.hid hb
      clear hxy hX hY hV hW hB hB' hb
      dsimp only at hrn c0 c1 d0 d1
      go_upto_region 6 with fail
      go_quiet (fail)
      go_wp2_with fail
      go_loopw [49] (fun v wi => ∃ k : Nat, v = .int .i64 (k : Int) ∧ k ≤ r'.length ∧ Below w.heap.size w wi) (fun v _ => r'.length - (intOf v).toNat)
      case atStart => exact ⟨0, rfl, by omega, below_draws HB.out _⟩
      case round =>
        obtain ⟨k, rfl, hk, hbi⟩ := hrel
        clear c0 c1 d0 d1
        obtain ⟨c0, c1⟩ := (HX.out.1.past_ hbi HX.out.2.1).two
        obtain ⟨d0, d1⟩ := (HX.out.2.2.1.past_ hbi HX.out.2.2.2).two
        dsimp only at c0 c1 d0 d1
        by_cases hkr : k < r'.length
        · obtain ⟨u, hu⟩ : ∃ u, r'[k]? = some u := ⟨_, List.getElem?_eq_getElem hkr⟩
          obtain ⟨b1, o1, e1, hB1, hx1⟩ := HV.out.1 (by show 0 < r'.length; omega)
          obtain ⟨b2, o2, e2, hB2, hx2⟩ := HV.out.2 (by show 0 < r'.length; omega)
          subst e1 e2
          obtain ⟨f0, f1, f2⟩ := (hx1 k u hu).past hbi hB1
          obtain ⟨g0, g1, g2⟩ := (hx2 k u hu).past hbi hB2
          have hne := neq_val u u
          have hv : (!eqV u u) = false := by rw [eqV_iff.2 rfl]; rfl
          simp only [hv] at hne
          have hgd := fun (x1 y1 : Operand) (xs ys : Array Value) (w : World) => grd_val .neq x1 y1 xs ys w
          unfold Vl.val at hne
          have q3 : (0 : Int) ≤ (k : Int) := by omega
          have q4 : (k : Int) < (r'.length : Int) := by omega
          have HBI := Lib.hid hbi
          clear hu hB1 hx1 hB2 hx2 hv hbi
          go_upto_region 11 with fail
          go_quiet (fail)
          go_wp2_with fail
          go_roundw
          case rel => exact ⟨k + 1, by go_num, by omega, below_draws HBI.out _⟩
          case measure => simp [intOf]; omega
        · have HBI := Lib.hid hbi
          clear hbi
          go_wp2_with fail
          go_roundw
          case rel => exact ⟨j + 1, by go_num, by omega, HBI.out⟩
          case measure => simp [intOf]; omega
    · have HB := Lib.hid hb
      clear hb
      go_wp2_with fail
      go_ret
      exact ⟨rfl, HB.out⟩
end Go.Proofs.YtllpfngmnccejaaGreat
namespace Go.Proofs.YtllpfngmnccejaaGreat
open Go Go.RowKit

/-- a file as it lies: its name, and the row of its parts -/
structure Vf where
  n : ByteArray
  A : Option Addr
  c : Nat
  ps : List ByteArray
instance : Inhabited Vf := ⟨⟨⟨#[]⟩, none, 0, []⟩⟩
namespace Vf
def pv (f : Vf) : Value := .slice f.A f.ps.length f.c
def cells (f : Vf) : List Value := [.string f.n, .slice f.A f.ps.length f.c]
def val (f : Vf) : Value := .agg #[.string f.n, .slice f.A f.ps.length f.c]
end Vf
theorem vf_one (f : Vf) : ∀ u ∈ f.cells, u.oneCell' = true := by
  intro u hu
  simp [Vf.cells] at hu
  rcases hu with rfl | rfl <;> rfl
theorem vfs_one (l : List Vf) : ∀ u ∈ l.flatMap Vf.cells, u.oneCell' = true := by
  intro u hu
  obtain ⟨f, _, hf⟩ := List.mem_flatMap.1 hu
  exact vf_one f u hf
def zeroVf : Value := .agg #[.string ⟨#[]⟩, .slice none 0 0]
theorem infoVf : (Tryz.prog.info? 210).map (fun i => (i.zero, i.size, i.bytes)) = some (some zeroVf, 2, 40) := by kernel_rfl
theorem zeroOfVf (w : World) : (zeroValue 210).run Tryz.prog w = .ok zeroVf w := by
  obtain ⟨i0, hi, hz0, _⟩ := info_parts infoVf
  simp [zeroValue, typeInfo, hi, hz0]

theorem splice_take {l : List Value} {o : Nat} {vs : List Value} (h : o ≤ l.length) : (splice l o vs).take o = l.take o := by
  unfold splice
  rw [List.append_assoc, List.take_append_of_le_length (by simp; omega), List.take_take]
  simp
set_option maxRecDepth 100000 in
set_option maxHeartbeats 1600000 in
theorem delete_own (g n c i j : Nat) (cur : List Value) (w : World) (ho : Own w g 210 cur) (hn : n ≤ c) (hm : c ≤ maxLen) (hl : cur.length = c * 2) (hij : j = i + 1) (hj : j ≤ n) (h1 : ∀ u ∈ cur.take (n * 2), u.oneCell' = true) :
    Calls Tryz.prog 207 #[.slice (some ⟨g, 0, none⟩) n c, .int .i64 (i : Int), .int .i64 (j : Int)] w fun e w' => e = .returned (.slice (some ⟨g, 0, none⟩) (n - 1) c) ∧
      ∃ cur', Own w' g 210 cur' ∧ cur'.length = c * 2 ∧ cur'.take ((n - 1) * 2) = (cur.take (n * 2)).take (i * 2) ++ (cur.take (n * 2)).drop (j * 2) ∧ w.grownBy w' (some g) := by
  obtain ⟨i0, hi0, hz0, hz1, hz2⟩ := info_parts infoVf
  have hU := Tryz.underlying149
  unfold maxLen at hm
  obtain ⟨news, hnews⟩ : ∃ news, news = (cur.take (n * 2)).drop (j * 2) := ⟨_, rfl⟩
  have hlen : news.length = (n - j) * 2 := by rw [hnews]; simp; omega
  have ho1 : ∀ j, w.cell? ⟨g, j, none⟩ = cur[j]? := ho.at_
  obtain ⟨A, hA, hsrc⟩ : ∃ A : Addr, (if c = j then some (⟨g, 0, none⟩ : Addr) else some ⟨g, j * 2, none⟩) = some A ∧ Hid (∀ t u, news[t]? = some u → w.drew.cell? (A.add t) = some u) := by
    by_cases h : c = j
    · refine ⟨⟨g, 0, none⟩, by simp [h], Lib.hid (fun t u hu => ?_)⟩
      have h0 : news.length = 0 := by rw [hlen]; omega
      rw [List.length_eq_zero_iff.1 h0] at hu
      simp at hu
    · refine ⟨⟨g, j * 2, none⟩, by simp [h], Lib.hid (fun t u hu => ?_)⟩
      have ht : t < (n - j) * 2 := by
        have := (List.getElem?_eq_some_iff.1 hu).1
        rwa [hlen] at this
      have ea : (⟨g, j * 2, none⟩ : Addr).add t = ⟨g, j * 2 + t, none⟩ := by unfold Addr.add; split <;> simp_all
      rw [ea]
      show w.cell? _ = _
      rw [ho1]
      rw [hnews, List.getElem?_drop, List.getElem?_take] at hu
      split at hu
      · exact hu
      · cases hu
  have hone : ∀ u ∈ news, u.oneCell' = true := fun u hu => h1 u (by rw [hnews] at hu; exact List.mem_of_mem_drop hu)
  have happ : ∀ ty sc, Hid ((Builtin.append_ #[149, 149] ty #[.slice (some ⟨g, 0, none⟩) i c, .slice (some A) (n - j) sc]).run Tryz.prog w.drew = .ok (.slice (some ⟨g, 0, none⟩) (i + (n - j)) c) (w.drew.setRow g (splice cur (i * 2) news).toArray)) := fun ty sc => by
    have hl2 : news.length = (n - j) * i0.size := by rw [hlen, hz1]
    have hfit : i * i0.size + news.length ≤ cur.toArray.size := by rw [hz1, hlen]; simp; omega
    have hroom : i + (n - j) ≤ c := by omega
    have := run_append_room (P := Tryz.prog) w.drew 149 ty 210 i0 hU hi0 g i c cur.toArray ho A (n - j) sc news hl2 hsrc.out hone hroom hfit
    rw [hz1] at this
    exact Lib.hid (by simpa [splice] using this)
  obtain ⟨W1, hW1⟩ : ∃ W1, W1 = w.drew.setRow g (splice cur (i * 2) news).toArray := ⟨_, rfl⟩
  rw [← hW1] at happ
  have oW1 : Own W1 g 210 (splice cur (i * 2) news) := by rw [hW1]; exact own_rowK (w := w.drew) ho
  have hs1 : (splice cur (i * 2) news).length = cur.length := splice_len (by rw [hlen, hl]; omega)
  have hclr := fun ty cc => Lib.hid (run_clear_one (P := Tryz.prog) W1 149 210 ty 210 zeroVf hU zeroOfVf (by intro u hu; simp [zeroVf, Value.cells] at hu; rcases hu with rfl | rfl <;> rfl) g ((i + (n - j)) * 2) cc _ oW1 (by rw [hs1, hl]; simp [zeroVf, Value.cells]; omega))
  have HW := Lib.hid hW1
  have HO := Lib.hid oW1
  have hA2 := Lib.hid hA
  have q1 : n - (i + (n - j)) = 1 := by omega
  have q2 : i + (n - j) = n - 1 := by omega
  rw [q2] at hclr
  have hic : i ≤ c := by omega
  have hin : i ≤ n := by omega
  have hjc : j ≤ c := by omega
  have hlt : i < j := by omega
  have HJ := Lib.hid hij
  clear hW1 oW1 hsrc ho1 hij
  go_enter Tryz.func207, Tryz.ntmps207
  go_wp2_with fail
  go_region_law (refine step_append_known rfl (.tmp 22) (.tmp 25) 149 149 rfl (.slice (some ⟨g, 0, none⟩) i c) (.slice (some A) (n - j) (c - j)) (by simp [Act.eval, Act.put]) (by simp [Act.eval, Act.put]) (happ _ _).out ?_)
  have hn1 : (i : Int) + ((n - j : Nat) : Int) = ((n - 1 : Nat) : Int) := by have := HJ.out; omega
  have hq1 : n - (n - 1) = 1 := by omega
  obtain ⟨W2, hW2⟩ : ∃ W2, W2 = W1.setRow g (splice (splice cur (i * 2) news) ((n - 1) * 2) zeroVf.cells.toList).toArray := ⟨_, rfl⟩
  have hcl2 : ∀ ty, (Builtin.clear_ #[149] ty #[.slice (some ⟨g, (n - 1) * 2, none⟩) (n - (n - 1)) (c - (n - 1))]).run Tryz.prog W1 = .ok (.tuple #[]) W2 := fun ty => by rw [hq1, hW2]; exact (hclr ty _).out
  have HW2 := Lib.hid hW2
  clear hW2 hq1
  go_wp2_with fail
  go_ret
  have hsp := HO.out
  rw [HW2.out]
  refine ⟨rfl, _, own_rowK HO.out, ?_, ?_, ?_⟩
  · rw [splice_len (by rw [hs1, hl]; simp [zeroVf, Value.cells]; omega), hs1, hl]
  · have e1 : (splice (splice cur (i * 2) news) ((n - 1) * 2) zeroVf.cells.toList).take ((n - 1) * 2) = (splice cur (i * 2) news).take ((n - 1) * 2) := splice_take (by rw [hs1, hl]; omega)
    have e2 : (splice cur (i * 2) news).take ((n - 1) * 2) = cur.take (i * 2) ++ news := by
      have h3 : (cur.take (i * 2) ++ news).length = (n - 1) * 2 := by rw [List.length_append, List.length_take, hlen]; have := HJ.out; omega
      unfold splice
      rw [← h3, List.take_left']
      rfl
    rw [e1, e2, hnews, List.take_take]
    congr 2
    omega
  · rw [HW.out]
    exact ⟨rfl, rfl, rfl, by simp, fun k _ hk => (row_other (fun e => hk (by rw [e]))).trans (row_other (w := w.drew) (fun e => hk (by rw [e])))⟩
/-- .. as rows -/
theorem delete_any (base n c i : Nat) (A : Option Addr) (xs : List Value) (w : World) (ho : w.ownsRow base 210 2 (.slice A n c) n xs) (hi : i < n) (h1 : ∀ u ∈ xs, u.oneCell' = true) :
    Calls Tryz.prog 207 #[.slice A n c, .int .i64 (i : Int), .int .i64 ((i : Int) + 1)] w fun e w' => e = .returned (.slice A (n - 1) c) ∧
      w'.ownsRow base 210 2 (.slice A (n - 1) c) (n - 1) (xs.take (i * 2) ++ xs.drop ((i + 1) * 2)) ∧ w.grownBy w' (Value.slice A n c).ownBlock := by
  rcases row_ownK ho with ⟨_, h0, _⟩ | ⟨g, cur, rfl, hb, hg, hn, hm, hl, rfl⟩
  · omega
  · have := delete_own g n c i (i + 1) cur w hg hn hm hl rfl (by omega) h1
    rw [show ((i + 1 : Nat) : Int) = (i : Int) + 1 by omega] at this
    refine this.mono ?_
    rintro e w' ⟨rfl, cur', o', l', t', g'⟩
    exact ⟨rfl, by rw [← t']; exact own_to_row o' hb (by omega) hm l', g'⟩
end Go.Proofs.YtllpfngmnccejaaGreat
namespace Go.Proofs.YtllpfngmnccejaaGreat
open Go Go.RowKit

def namesV (l : List Vf) : List ByteArray := l.map Vf.n
theorem kcmp_any (a b : ByteArray) (w : World) :
    Calls Tryz.prog 162 #[.string a, .string b] w fun e w' => e = .returned (.int .i64 (cmpN a b)) ∧ w = w' :=
  (Tryz.strings_Compare a b w).mono fun _ _ ⟨h, k⟩ => ⟨h, k.symm⟩
set_option maxRecDepth 100000 in
set_option maxHeartbeats 400000 in
/-- the closure that compares -/
theorem fcmp_any (f : Vf) (n : ByteArray) (w : World) :
    Calls Tryz.prog 176 #[f.val, .string n] w fun e w' => e = .returned (.int .i64 (cmpN f.n n)) ∧ Below w.heap.size w w' := by
  unfold Vf.val
  go_enter Tryz.func176, Tryz.ntmps176
  go_wp2_with fail
  refine (kcmp_any _ _ _).mono ?_
  rintro e w1 ⟨rfl, rfl⟩
  go_wp2_with fail
  go_ret
  exact ⟨rfl, (Below.refl _ _).alloc (Nat.le_refl _) _⟩
/-- a row of files, and what it holds at a place -/
theorem vf_at {w : World} {base : Nat} {A : Option Addr} {c : Nat} {l : List Vf} (ho : w.ownsRow base 210 2 (.slice A l.length c) l.length (l.flatMap Vf.cells)) {i : Nat} {f : Vf} (hi : l[i]? = some f) :
    ∃ g, A = some ⟨g, 0, none⟩ ∧ w.cell? ⟨g, i * 2, none⟩ = some (.string f.n) ∧ w.cell? ⟨g, i * 2 + 1, none⟩ = some (.slice f.A f.ps.length f.c) ∧ g < w.heap.size := by
  have hlt := (List.getElem?_eq_some_iff.1 hi).1
  rcases row_ownK ho with ⟨_, h0, _⟩ | ⟨g, cur, rfl, hb, hg, hn, hm, hl, ht⟩
  · omega
  · have h0 := flat_of (cells := Vf.cells) (size := 2) (fun _ => rfl) l i 0 f (.string f.n) hi rfl
    have h1 := flat_of (cells := Vf.cells) (size := 2) (fun _ => rfl) l i 1 f (.slice f.A f.ps.length f.c) hi rfl
    rw [← ht, List.getElem?_take] at h0 h1
    have e0 : i * 2 + 0 < l.length * 2 := by omega
    have e1 : i * 2 + 1 < l.length * 2 := by omega
    rw [if_pos e0] at h0
    rw [if_pos e1] at h1
    exact ⟨g, rfl, by rw [hg.at_]; exact h0, by rw [hg.at_]; exact h1, hg.inside⟩
theorem names_at {l : List Vf} {i : Nat} {f : Vf} (h : l[i]? = some f) : (namesV l)[i]? = some f.n := by unfold namesV; rw [List.getElem?_map, h]; rfl
theorem half {i j : Nat} (h : i < j) (hb : j ≤ 4611686018427387904) : (((i : Int) + (j : Int)).toNat : Nat) / 2 = (i + j) / 2 ∧ i ≤ (i + j) / 2 ∧ (i + j) / 2 < j := by omega
set_option maxRecDepth 100000 in
set_option maxHeartbeats 1600000 in
theorem search_any (base : Nat) (A : Option Addr) (c : Nat) (l : List Vf) (n : ByteArray) (w : World) (ho : w.ownsRow base 210 2 (.slice A l.length c) l.length (l.flatMap Vf.cells)) (hs : SortedN (namesV l)) (hn : l.length ≤ 4611686018427387904) :
    Calls Tryz.prog 175 #[.slice A l.length c, .string n, .func (.func 176) #[] #[]] w fun e w' =>
      e = .returned (.tuple #[.int .i64 (posN (namesV l) n : Int), .bool (hasN (namesV l) n)]) ∧ Below w.heap.size w w' := by
  have hat := Lib.hid (posN_at (n := n) hs)
  have hle := Lib.hid (posN_le (namesV l) n)
  have hlen : (namesV l).length = l.length := by simp [namesV]
  have HO := Lib.hid ho
  have HN := Lib.hid (And.intro hs hlen)
  clear ho hs
  go_enter Tryz.func175, Tryz.ntmps175
  go_wp2_with fail
  go_loopw [9, 10] (fun i j wr => ∃ a b : Nat, i = .int .i64 (a : Int) ∧ j = .int .i64 (b : Int) ∧ a ≤ b ∧ b ≤ l.length ∧ a ≤ posN (namesV l) n ∧ posN (namesV l) n ≤ b ∧ Below w.heap.size w wr) (fun i j _ => (intOf j - intOf i).toNat)
  case atStart => exact ⟨0, l.length, rfl, rfl, by omega, by omega, by omega, by rw [← hlen]; exact hle.out, Below.refl _ _⟩
  case round =>
    obtain ⟨a, b, rfl, rfl, hab, hbl, hap, hpb, hb⟩ := hrel
    by_cases hlt : a < b
    · have hh : (a + b) / 2 < l.length := by omega
      have hx : l[(a + b) / 2]? = some l[(a + b) / 2] := List.getElem?_eq_getElem hh
      have hord := Lib.hid (hat.out _ _ (names_at hx))
      obtain ⟨g, rfl, c0, c1, hg⟩ := vf_at HO.out hx
      have d0 := (hb.cell (p := ⟨g, (a + b) / 2 * 2, none⟩) hg).trans c0
      have d1 := (hb.cell (p := ⟨g, (a + b) / 2 * 2 + 1, none⟩) hg).trans c1
      generalize l[(a + b) / 2] = f at *
      have hy := fun W => Lib.hid (fcmp_any f n W)
      unfold Vf.val at hy
      clear c0 c1
      have HB := Lib.hid (And.intro hb (And.intro hap hpb))
      clear hb hap hpb
      by_cases hz : cmpN f.n n < 0
      · go_wp2_with fail
        refine (hy _).out.mono ?_
        rintro e w1 ⟨rfl, b1⟩
        go_wp2_with fail
        go_roundw
        case rel =>
          have := hord.out.2 hz
          exact ⟨(a + b) / 2 + 1, b, by rw [show ((a : Int) + (b : Int)) / 2 + 1 = (((a + b) / 2 + 1 : Nat) : Int) by omega], rfl, by omega, by omega, by omega, HB.out.2.2, HB.out.1.trans (b1.mono HB.out.1.size)⟩
        case measure => simp [intOf]; omega
      · go_wp2_with fail
        refine (hy _).out.mono ?_
        rintro e w1 ⟨rfl, b1⟩
        go_wp2_with fail
        go_roundw
        case rel =>
          have h2 : ¬ (a + b) / 2 < posN (namesV l) n := fun h => by have := hord.out.1 h; omega
          exact ⟨a, (a + b) / 2, rfl, by rw [show ((a : Int) + (b : Int)) / 2 = (((a + b) / 2 : Nat) : Int) by omega], by omega, by omega, HB.out.2.1, by omega, HB.out.1.trans (b1.mono HB.out.1.size)⟩
        case measure => simp [intOf]; omega
    · obtain rfl : b = a := by omega
      have ep : posN (namesV l) n = b := by omega
      have EP := Lib.hid ep
      have HB := Lib.hid hb
      clear hap hpb hb ep
      by_cases hin : b < l.length
      · have hx : l[b]? = some l[b] := List.getElem?_eq_getElem hin
        obtain ⟨g, rfl, c0, c1, hg⟩ := vf_at HO.out hx
        have d0 := (HB.out.cell (p := ⟨g, b * 2, none⟩) hg).trans c0
        have d1 := (HB.out.cell (p := ⟨g, b * 2 + 1, none⟩) hg).trans c1
        have hnm := Lib.hid (names_at hx)
        generalize l[b] = f at *
        have hy := fun W => Lib.hid (fcmp_any f n W)
        unfold Vf.val at hy
        clear c0 c1
        have hres : Hid (hasN (namesV l) n = decide (cmpN f.n n = 0)) := by
          refine Lib.hid ?_
          by_cases hq : f.n = n
          · have := hnm.out
            rw [hq] at this
            rw [hasN_mem.2 (List.mem_of_getElem? this), cmpN_zero.2 hq]; rfl
          · have h1 : cmpN f.n n ≠ 0 := fun h => hq (cmpN_zero.1 h)
            rw [decide_eq_false h1]
            cases hh : hasN (namesV l) n
            · rfl
            · have := posN_has HN.out.1 hh
              rw [EP.out, hnm.out] at this
              exact absurd (Option.some.inj this) hq
        generalize cmpN f.n n = r at *
        go_wp2_with fail
        refine (hy _).out.mono ?_
        rintro e w1 ⟨rfl, b1⟩
        go_wp2_with fail
        go_ret2
        refine ⟨?_, HB.out.trans (b1.mono HB.out.size)⟩
        rw [EP.out, hres.out]
        rfl
      · have hf : Hid (hasN (namesV l) n = false) := by
          refine Lib.hid ?_
          cases hh : hasN (namesV l) n
          · rfl
          · have := posN_has HN.out.1 hh
            rw [EP.out] at this
            have := (List.getElem?_eq_some_iff.1 this).1
            omega
        go_wp2_with fail
        go_ret2
        refine ⟨?_, HB.out⟩
        rw [EP.out, hf.out]
        rfl
set_option maxRecDepth 100000 in
set_option maxHeartbeats 800000 in
/-- find: the struct lies at cell o of block G -/
theorem find_any (G o base : Nat) (t : TypeId) (cs : List Value) (A : Option Addr) (c : Nat) (l : List Vf) (n : ByteArray) (w : World) (hG : Own w G t cs) (h0 : cs[o]? = some (.slice A l.length c)) (ho : w.ownsRow base 210 2 (.slice A l.length c) l.length (l.flatMap Vf.cells)) (hs : SortedN (namesV l)) (hn : l.length ≤ 4611686018427387904) :
    Calls Tryz.prog 147 #[.pointer (some ⟨G, o, none⟩), .string n] w fun e w' =>
      e = .returned (.tuple #[.int .i64 (posN (namesV l) n : Int), .bool (hasN (namesV l) n)]) ∧ Below w.heap.size w w' := by
  have c0 : w.cell? ⟨G, o, none⟩ = some (.slice A l.length c) := by rw [hG.at_]; exact h0
  have hy := fun W h => Lib.hid (search_any base A c l n W h hs hn)
  have HO := Lib.hid ho
  clear ho hG h0
  go_enter Tryz.func147, Tryz.ntmps147
  go_wp2_with fail
  refine (hy _ HO.out).out.mono ?_
  rintro e w1 ⟨rfl, b1⟩
  go_wp2_with fail
  go_ret2
  exact ⟨rfl, b1⟩
set_option maxRecDepth 100000 in
set_option maxHeartbeats 800000 in
theorem has_any (G o base : Nat) (t : TypeId) (cs : List Value) (A : Option Addr) (c : Nat) (l : List Vf) (n : ByteArray) (w : World) (hG : Own w G t cs) (h0 : cs[o]? = some (.slice A l.length c)) (ho : w.ownsRow base 210 2 (.slice A l.length c) l.length (l.flatMap Vf.cells)) (hs : SortedN (namesV l)) (hn : l.length ≤ 4611686018427387904) :
    Calls Tryz.prog 143 #[.pointer (some ⟨G, o, none⟩), .string n] w fun e w' => e = .returned (.bool (hasN (namesV l) n)) ∧ Below w.heap.size w w' := by
  have hy := Lib.hid (find_any G o base t cs A c l n w hG h0 ho hs hn)
  clear hG h0 ho hs
  generalize posN (namesV l) n = p at *
  generalize hasN (namesV l) n = h at *
  go_enter Tryz.func143, Tryz.ntmps143
  go_wp2_with fail
  refine hy.out.mono ?_
  rintro e w1 ⟨rfl, b1⟩
  go_wp2_with fail
  go_ret
  exact ⟨rfl, b1⟩
set_option maxRecDepth 100000 in
set_option maxHeartbeats 800000 in
theorem many_any (G o : Nat) (t : TypeId) (cs : List Value) (A : Option Addr) (c n : Nat) (w : World) (hG : Own w G t cs) (h0 : cs[o]? = some (.slice A n c)) :
    Calls Tryz.prog 145 #[.pointer (some ⟨G, o, none⟩)] w fun e w' => e = .returned (.bool (decide ((256 : Int) < (n : Int)))) ∧ w = w' := by
  have c0 : w.cell? ⟨G, o, none⟩ = some (.slice A n c) := by rw [hG.at_]; exact h0
  clear hG h0
  go_enter Tryz.func145, Tryz.ntmps145
  go_wp2_with fail
  go_ret
  exact ⟨rfl, rfl⟩
end Go.Proofs.YtllpfngmnccejaaGreat
