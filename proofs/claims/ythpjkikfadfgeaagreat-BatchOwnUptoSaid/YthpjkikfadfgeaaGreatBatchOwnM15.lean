/- Part 15 of the texts on which BatchOwn rests: facts and contracts. -/
import Derived.Test.YthpjkikfadfgeaaGreatBatchOwnM14
import Derived.Deep.MidRow
import Derived.Test.YthpjkikfadfgeaaGreatRows
import Derived.WalkKit
import Derived.ProofKit
import Derived.OpenShut
import Derived.JoinedCond
import Derived.Carry
import Derived.ChangeArms
import Derived.Deep.Slices
import Derived.SizedLaws
namespace Go.Proofs.YthpjkikfadfgeaaGreat
open Go Go.RowKit

def TT (w : World) (g : Nat) : Prop := Own w g 36 [.int .u64 0, .int .u64 0, .int .u64 0]
theorem TT.made (w : World) : TT (w.alloc (.cells #[.int .u64 0, .int .u64 0, .int .u64 0] 36)) w.heap.size := Own.made w 36 [.int .u64 0, .int .u64 0, .int .u64 0]
theorem TT.past {w w' : World} {g : Nat} (h : TT w g) (hb : Below w.heap.size w w') : TT w' g := Own.past h hb (Own.inside h)
end Go.Proofs.YthpjkikfadfgeaaGreat
namespace Go.Proofs.YthpjkikfadfgeaaGreat
open Go Go.RowKit

theorem SameM.swap {x y : Mg} (h : SameM x y) : SameM y x := ⟨h.a.symm, h.b.symm, h.i.symm, h.j.symm, h.f.symm, h.o.symm⟩
structure BoxM (W : World) (P : Nat) (m : Mg) : Prop where
  in_ : MgIn W W.heap.size m
  ok : MgOk m
  own : Own W P 25 m.cells
structure BoxB (W : World) (P : Nat) (b : Bt) : Prop where
  in_ : BtIn W W.heap.size b
  ok : BtOk b
  own : Own W P 42 b.cells
theorem BoxM.past {W W' : World} {P : Nat} {m : Mg} (h : BoxM W P m) (k : Below W.heap.size W W') : BoxM W' P m := ⟨h.in_.keep k, h.ok, h.own.past k h.own.inside⟩
theorem BoxB.past {W W' : World} {P : Nat} {b : Bt} (h : BoxB W P b) (k : Below W.heap.size W W') : BoxB W' P b := ⟨h.in_.keep k, h.ok, h.own.past k h.own.inside⟩
end Go.Proofs.YthpjkikfadfgeaaGreat
namespace Go.Proofs.YthpjkikfadfgeaaGreat
open Go Go.RowKit

def bk (n : Int) : Uk := ⟨[], [vnum n], ⟨0, 0, 0⟩⟩
theorem bfront_nil : FrontOk [] := by
  have h1 := frontTo_len (sortT []) (sortT []).length (Nat.le_refl _)
  have h2 : (sortT []).length = 0 := by simp [sortT]
  exact ⟨by rfl, List.eq_nil_of_length_eq_zero (by unfold frontL; omega)⟩
theorem bl_a (G1 G2 : Nat) : consL [advL [] [lu G1 1 1 0, lu G2 2 5 0]] = [(bk 1, (1 : Int)), (bk 2, 5)] ∧ consE [advL [] [lu G1 1 1 0, lu G2 2 5 0]] = 0 := ⟨by kernel_rfl, by kernel_rfl⟩
theorem bl_b (G : Nat) : consL [advL [] [lu G 1 (-1) 0]] = [(bk 1, (-1 : Int))] ∧ consE [advL [] [lu G 1 (-1) 0]] = 0 := ⟨by kernel_rfl, by kernel_rfl⟩
theorem up_of {u : Up} {n d : Int} (h : u.p = (bk n, d)) : ∃ (kA : Option Addr) (kc : Nat) (rA : Option Addr) (rc : Nat), u = ⟨kA, kc, [], rA, rc, [vnum n], ⟨0, 0, 0⟩, d⟩ := by
  obtain ⟨kA, kc, key, rA, rc, row, t, d'⟩ := u
  have h : ((⟨key, row, t⟩ : Uk), d') = ((⟨[], [vnum n], ⟨0, 0, 0⟩⟩ : Uk), d) := h
  simp only [Prod.mk.injEq, Uk.mk.injEq] at h
  obtain ⟨⟨rfl, rfl, rfl⟩, rfl⟩ := h
  exact ⟨kA, kc, rA, rc, rfl⟩
theorem two_of {l : List Up} (h : l.map Up.p = [(bk 1, (1 : Int)), (bk 2, 5)]) : ∃ u v, l = [u, v] ∧ u.p = (bk 1, (1 : Int)) ∧ v.p = (bk 2, 5) := by
  have hl : l.length = 2 := by have := congrArg List.length h; simpa using this
  obtain ⟨u, v, rfl⟩ : ∃ u v, l = [u, v] := by
    match l, hl with
    | [u, v], _ => exact ⟨u, v, rfl⟩
  rw [List.map_cons, List.map_cons, List.map_nil] at h
  injection h with h1 h2
  injection h2 with h2 _
  exact ⟨u, v, rfl, h1, h2⟩
theorem one_of {l : List Up} (h : l.map Up.p = [(bk 1, (-1 : Int))]) : ∃ u, l = [u] ∧ u.p = (bk 1, (-1 : Int)) := by
  have hl : l.length = 1 := by have := congrArg List.length h; simpa using this
  obtain ⟨u, rfl⟩ := List.length_eq_one_iff.1 hl
  rw [List.map_cons, List.map_nil] at h
  injection h with h1 _
  exact ⟨u, rfl, h1⟩
theorem bl_work1 {a b : List Up} (ha : a.map Up.p = [(bk 1, (1 : Int)), (bk 2, 5)]) (hb : b.map Up.p = [(bk 1, (-1 : Int))]) (n : Nat) (hn : n = 3) :
    (workM [] 1 n (startM a 0 b 0 [])).cost = 2 ∧ (workM [] 1 n (startM a 0 b 0 [])).E = 0 ∧ (workM [] 1 n (startM a 0 b 0 [])).ta.length = 1 ∧ (workM [] 1 n (startM a 0 b 0 [])).tb.length = 1 ∧ (workM [] 1 n (startM a 0 b 0 [])).out = [] := by
  subst hn
  obtain ⟨u, v, rfl, hu, hv⟩ := two_of ha
  obtain ⟨x, rfl, hx⟩ := one_of hb
  obtain ⟨_, _, _, _, rfl⟩ := up_of hu
  obtain ⟨_, _, _, _, rfl⟩ := up_of hv
  obtain ⟨_, _, _, _, rfl⟩ := up_of hx
  exact ⟨by kernel_rfl, by kernel_rfl, by kernel_rfl, by kernel_rfl, by kernel_rfl⟩
theorem bl_work2 {a b : List Up} (ha : a.map Up.p = [(bk 1, (1 : Int)), (bk 2, 5)]) (hb : b.map Up.p = [(bk 1, (-1 : Int))]) (n : Nat) (hn : n = 1) :
    (workM [] 9 n (startM a 1 b 1 [])).cost = 1 ∧ (workM [] 9 n (startM a 1 b 1 [])).E = 0 ∧ (workM [] 9 n (startM a 1 b 1 [])).ta.length = 2 ∧ (workM [] 9 n (startM a 1 b 1 [])).tb.length = 1 ∧ (workM [] 9 n (startM a 1 b 1 [])).out = [(bk 2, 5)] := by
  subst hn
  obtain ⟨u, v, rfl, hu, hv⟩ := two_of ha
  obtain ⟨x, rfl, hx⟩ := one_of hb
  obtain ⟨_, _, _, _, rfl⟩ := up_of hu
  obtain ⟨_, _, _, _, rfl⟩ := up_of hv
  obtain ⟨_, _, _, _, rfl⟩ := up_of hx
  exact ⟨by kernel_rfl, by kernel_rfl, by kernel_rfl, by kernel_rfl, by kernel_rfl⟩
theorem bl_later : LaterF [⟨2, 0, 0⟩] [⟨1, 0, 0⟩] := .inr ⟨by simp, fun x hx => by
  obtain rfl : x = ⟨2, 0, 0⟩ := by simpa using hx
  rfl⟩
end Go.Proofs.YthpjkikfadfgeaaGreat
namespace Go.Proofs.YthpjkikfadfgeaaGreat
open Go Go.RowKit

set_option maxRecDepth 100000 in
set_option maxHeartbeats 1600000 in
theorem brow_any (n : Int) (w : World) : Calls Tryz.prog 34 #[.int .i64 n] w fun x w' => ∃ G, x = .returned (.slice (some ⟨G, 0, none⟩) 1 1) ∧ Vals w' w'.heap.size (some ⟨G, 0, none⟩) [vnum n] ∧ Below w.heap.size w w' := by
  have hv := Lib.hid (vals_num w n)
  go_enter Tryz.func34, Tryz.ntmps34
  go_wp2_with fail
  go_ret
  exact ⟨_, rfl, hv.out, (Below.refl _ _).alloc (Nat.le_refl _) _⟩
theorem box_one (w : World) (G : Nat) (n d : Int) (h : Vals w w.heap.size (some ⟨G, 0, none⟩) [vnum n]) :
    ∃ V, V = w.alloc (.cells #[.slice none 0 0, .slice (some ⟨G, 0, none⟩) 1 1, .int .u64 0, .int .u64 0, .int .u64 0, .int .i64 d] 38) ∧ Below w.heap.size w V ∧ Ups V V.heap.size (some ⟨w.heap.size, 0, none⟩) [lu G n d 0] := by
  obtain ⟨W, e1, s1, b1, o1⟩ := boxd w [.slice none 0 0, .slice (some ⟨G, 0, none⟩) 1 1, .int .u64 0, .int .u64 0, .int .u64 0, .int .i64 d] 38
  refine ⟨W, e1, b1, ups_own (t := 38) (l := [lu G n d 0]) o1 fun u hu => ?_⟩
  obtain rfl : u = lu G n d 0 := by simpa using hu
  exact lu_in (vals_keep h b1)
theorem bld_a (G1 G2 : Nat) : bldE [] [lu G1 1 1 0, lu G2 2 5 0] = 0 := (if_pos bfront_nil).trans (bl_a G1 G2).2
theorem bld_b (G : Nat) : bldE [] [lu G 1 (-1) 0] = 0 := (if_pos bfront_nil).trans (bl_b G).2
theorem lu_ok' {G : Nat} {n d : Int} (hn : n = 1 ∨ n = 2) (hd : d = 1 ∨ d = 5 ∨ d = -1) : UOk (lu G n d 0) := lu_ok (by omega) (by omega)
theorem build_a (A A1 A2 : Option Addr) (G1 G2 : Nat) (w : World) (h : ULs w w.heap.size A [⟨A1, 1, [lu G1 1 1 0]⟩, ⟨A2, 1, [lu G2 2 5 0]⟩]) :
    Calls Tryz.prog 33 #[.slice none 0 0, .slice A 2 2] w fun x w' => ∃ b : Bt, x = .returned (.tuple #[b.val, .int .i64 0]) ∧ b.f = [] ∧ b.l.map Up.p = [(bk 1, (1 : Int)), (bk 2, 5)] ∧ BatchOk b.f b.l ∧ BtIn w' w'.heap.size b ∧ BtOk b ∧ Below w.heap.size w w' := by
  have := build_any none 0 [] A 2 [⟨A1, 1, [lu G1 1 1 0]⟩, ⟨A2, 1, [lu G2 2 5 0]⟩] w Times.nil_ ts_nil h (fun s hs u hu => by
    rcases List.mem_cons.1 hs with rfl | hs
    · obtain rfl : u = lu G1 1 1 0 := by simpa using hu
      exact lu_ok' (.inl rfl) (.inl rfl)
    · obtain rfl : s = ⟨A2, 1, [lu G2 2 5 0]⟩ := by simpa using hs
      obtain rfl : u = lu G2 2 5 0 := by simpa using hu
      exact lu_ok' (.inr rfl) (.inr (.inl rfl))) (by simp [flatR]) (by simp)
  refine this.mono fun x w' ⟨b, h1, h2, h3, h4, h5, h6, h7⟩ => ?_
  have hE : bldE [] (flatR [⟨A1, 1, [lu G1 1 1 0]⟩, ⟨A2, 1, [lu G2 2 5 0]⟩]) = 0 := bld_a G1 G2
  rw [hE] at h1
  obtain ⟨k1, k2, k3⟩ := h2 hE
  have k3 : b.l.map Up.p = consL [advL [] [lu G1 1 1 0, lu G2 2 5 0]] := k3
  refine ⟨b, h1, k2, k3.trans (bl_a G1 G2).1, ?_, h4, h5, h7⟩
  rw [k2]
  exact batch_ok bfront_nil (bl_a G1 G2).2 k3
theorem build_b (A A1 : Option Addr) (G : Nat) (w : World) (h : ULs w w.heap.size A [⟨A1, 1, [lu G 1 (-1) 0]⟩]) :
    Calls Tryz.prog 33 #[.slice none 0 0, .slice A 1 1] w fun x w' => ∃ b : Bt, x = .returned (.tuple #[b.val, .int .i64 0]) ∧ b.f = [] ∧ b.l.map Up.p = [(bk 1, (-1 : Int))] ∧ BatchOk b.f b.l ∧ BtIn w' w'.heap.size b ∧ BtOk b ∧ Below w.heap.size w w' := by
  have := build_any none 0 [] A 1 [⟨A1, 1, [lu G 1 (-1) 0]⟩] w Times.nil_ ts_nil h (fun s hs u hu => by
    obtain rfl : s = ⟨A1, 1, [lu G 1 (-1) 0]⟩ := by simpa using hs
    obtain rfl : u = lu G 1 (-1) 0 := by simpa using hu
    exact lu_ok' (.inl rfl) (.inr (.inr rfl))) (by simp [flatR]) (by simp)
  refine this.mono fun x w' ⟨b, h1, h2, h3, h4, h5, h6, h7⟩ => ?_
  have hE : bldE [] (flatR [⟨A1, 1, [lu G 1 (-1) 0]⟩]) = 0 := bld_b G
  rw [hE] at h1
  obtain ⟨k1, k2, k3⟩ := h2 hE
  have k3 : b.l.map Up.p = consL [advL [] [lu G 1 (-1) 0]] := k3
  refine ⟨b, h1, k2, k3.trans (bl_b G).1, ?_, h4, h5, h7⟩
  rw [k2]
  exact batch_ok bfront_nil (bl_b G).2 k3
theorem mg_other {w X : World} {P : Nat} {m : Mg} (h : MgIn w w.heap.size m) (hlo : MgLo (P + 1) m) (hs : X.heap.size = w.heap.size) (hX : ∀ b, b ≠ P → X.heap[b]? = w.heap[b]?) : MgIn X X.heap.size m := ⟨ups_other h.a hlo.a hs hX, ups_other h.b hlo.b hs hX, times_other h.f hlo.f hs hX, ups_other h.o hlo.o hs hX⟩
structure Lm (m : Mg) (i j : Nat) (o : List (Uk × Int)) : Prop where
  way : OnWay m i j
  f : m.f = []
  a : m.a.map Up.p = [(bk 1, (1 : Int)), (bk 2, 5)]
  b : m.b.map Up.p = [(bk 1, (-1 : Int))]
  o_ : m.o.map Up.p = o
theorem lm_len {m : Mg} {i j : Nat} {o : List (Uk × Int)} (h : Lm m i j o) (ho : o.length ≤ 1) : m.a.length = 2 ∧ m.b.length = 1 ∧ m.o.length ≤ 274877906944 := by
  have h1 := congrArg List.length h.a
  have h2 := congrArg List.length h.b
  have h3 := congrArg List.length h.o_
  simp at h1 h2 h3
  exact ⟨h1, h2, by omega⟩
theorem start_l (a b : Bt) (w : World) (ha : BtIn w w.heap.size a) (oa : BtOk a) (hb : BtIn w w.heap.size b) (ob : BtOk b) (fa : a.f = []) (fb : b.f = []) (pa : a.l.map Up.p = [(bk 1, (1 : Int)), (bk 2, 5)]) (pb : b.l.map Up.p = [(bk 1, (-1 : Int))]) (ka : BatchOk a.f a.l) (kb : BatchOk b.f b.l) :
    Calls Tryz.prog 35 #[.slice none 0 0, a.val, b.val] w fun x w' => ∃ m : Mg, x = .returned (.tuple #[m.val, .int .i64 0]) ∧ Lm m 0 0 [] ∧ MgIn w' w'.heap.size m ∧ MgOk m ∧ Below w.heap.size w w' := by
  have la : a.l.length = 2 := by have := congrArg List.length pa; simpa using this
  have lb : b.l.length = 1 := by have := congrArg List.length pb; simpa using this
  refine (start_any none 0 [] a b w Times.nil_ ts_nil ha oa (by omega) hb ob (by omega)).mono fun x w' ⟨m, E, h1, h2, h3, h4, h5, h6⟩ => ?_
  rcases h2 with ⟨rfl, hs, k1, k2, k3, k4, k5, k6⟩ | ⟨_, _, hn⟩
  · exact ⟨m, h1, ⟨start_way (by rw [k5]; exact bfront_nil) (even_p k1.symm ka.2.1) (even_p k2.symm kb.2.1) k3 k4 k6, k5, k1.trans pa, k2.trans pb, by rw [k6]; rfl⟩, h3, h4, h6⟩
  · exact absurd ⟨ka, kb, bfront_nil, .inl fa, .inl fb⟩ hn
theorem work_l1 (m : Mg) (w : World) (h : Lm m 0 0 []) (hm : MgIn w w.heap.size m) (ok : MgOk m) :
    Calls Tryz.prog 12 #[m.val, .int .i64 1] w fun x w' => ∃ m' : Mg, x = .returned (.tuple #[m'.val, .int .i64 2, .int .i64 0]) ∧ Lm m' 1 1 [] ∧ MgIn w' w'.heap.size m' ∧ MgOk m' ∧ MgLo w.heap.size m' ∧ Below w.heap.size w w' := by
  obtain ⟨la, lb, lo⟩ := lm_len h (by simp)
  refine (work_any m 1 w hm ok (by omega) (by omega) lo).mono fun x w' ⟨m', c, E, h1, h2, h3, h4, h5, h6⟩ => ?_
  rcases h2 with ⟨hn, _⟩ | ⟨_, hw⟩
  · exact absurd h.way.ok hn
  · obtain ⟨n, s, hn, hs, hc, hE, hi, hj, ho⟩ := hw.s
    have e1 : m.i.toNat = 0 := by rw [h.way.i_]; rfl
    have e2 : m.j.toNat = 0 := by rw [h.way.j_]; rfl
    rw [e1, e2, la, lb] at hn
    rw [e1, e2, h.o_, h.f] at hs
    obtain ⟨b1, b2, b3, b4, b5⟩ := bl_work1 (hw.a.trans h.a) (hw.b.trans h.b) n hn.symm
    rw [← hs] at b1 b2 b3 b4 b5
    obtain ⟨i', j', k, _, q2, _, _, _⟩ := workok_fine hw h.way
    have hi2 : m'.i = 1 := by rw [hi, b3]; rfl
    have hj2 : m'.j = 1 := by rw [hj, b4]; rfl
    have e3 : i' = 1 := by have := q2.i_; omega
    have e4 : j' = 1 := by have := q2.j_; omega
    subst e3; subst e4
    refine ⟨m', by rw [h1, hc, hE, b1, b2]; rfl, ⟨q2, hw.f.trans h.f, hw.a.trans h.a, hw.b.trans h.b, ho.trans b5⟩, h3, h4, h5, h6⟩
theorem work_l2 (m : Mg) (w : World) (h : Lm m 1 1 []) (hm : MgIn w w.heap.size m) (ok : MgOk m) :
    Calls Tryz.prog 12 #[m.val, .int .i64 9] w fun x w' => ∃ m' : Mg, x = .returned (.tuple #[m'.val, .int .i64 1, .int .i64 0]) ∧ Lm m' 2 1 [(bk 2, 5)] ∧ MgIn w' w'.heap.size m' ∧ MgOk m' ∧ MgLo w.heap.size m' ∧ Below w.heap.size w w' := by
  obtain ⟨la, lb, lo⟩ := lm_len h (by simp)
  refine (work_any m 9 w hm ok (by omega) (by omega) lo).mono fun x w' ⟨m', c, E, h1, h2, h3, h4, h5, h6⟩ => ?_
  rcases h2 with ⟨hn, _⟩ | ⟨_, hw⟩
  · exact absurd h.way.ok hn
  · obtain ⟨n, s, hn, hs, hc, hE, hi, hj, ho⟩ := hw.s
    have e1 : m.i.toNat = 1 := by rw [h.way.i_]; rfl
    have e2 : m.j.toNat = 1 := by rw [h.way.j_]; rfl
    rw [e1, e2, la, lb] at hn
    rw [e1, e2, h.o_, h.f] at hs
    obtain ⟨b1, b2, b3, b4, b5⟩ := bl_work2 (hw.a.trans h.a) (hw.b.trans h.b) n hn.symm
    rw [← hs] at b1 b2 b3 b4 b5
    obtain ⟨i', j', k, _, q2, _, _, _⟩ := workok_fine hw h.way
    have hi2 : m'.i = 2 := by rw [hi, b3]; rfl
    have hj2 : m'.j = 1 := by rw [hj, b4]; rfl
    have e3 : i' = 2 := by have := q2.i_; omega
    have e4 : j' = 1 := by have := q2.j_; omega
    subst e3; subst e4
    refine ⟨m', by rw [h1, hc, hE, b1, b2]; rfl, ⟨q2, hw.f.trans h.f, hw.a.trans h.a, hw.b.trans h.b, ho.trans b5⟩, h3, h4, h5, h6⟩
theorem end_l1 (m : Mg) (w : World) (h : Lm m 1 1 []) (hm : MgIn w w.heap.size m) (ok : MgOk m) :
    Calls Tryz.prog 13 #[m.val] w fun x w' => ∃ b : Bt, x = .returned (.tuple #[b.val, .int .i64 8]) ∧ Below w.heap.size w w' := by
  obtain ⟨la, lb, lo⟩ := lm_len h (by simp)
  refine (end_any m w hm ok lo).mono fun x w' ⟨b, E, h1, h2, _, _, _, h6⟩ => ?_
  rcases h2 with ⟨_, he, _⟩ | ⟨rfl, _, _⟩
  · have := he.2.1
    rw [h.way.i_, la] at this
    omega
  · exact ⟨b, h1, h6⟩
theorem end_l2 (m : Mg) (w : World) (h : Lm m 2 1 [(bk 2, 5)]) (hm : MgIn w w.heap.size m) (ok : MgOk m) :
    Calls Tryz.prog 13 #[m.val] w fun x w' => ∃ b : Bt, x = .returned (.tuple #[b.val, .int .i64 0]) ∧ b.l.map Up.p = [(bk 2, 5)] ∧ BtIn w' w'.heap.size b ∧ Below w.heap.size w w' := by
  obtain ⟨la, lb, lo⟩ := lm_len h (by simp)
  refine (end_any m w hm ok lo).mono fun x w' ⟨b, E, h1, h2, h3, _, _, h6⟩ => ?_
  rcases h2 with ⟨rfl, _, _, hb⟩ | ⟨_, hn, _⟩
  · exact ⟨b, h1, hb.trans h.o_, h3, h6⟩
  · exact absurd ⟨h.way.ok, by rw [h.way.i_, la], by rw [h.way.j_, lb]⟩ hn
end Go.Proofs.YthpjkikfadfgeaaGreat
namespace Go.Proofs.YthpjkikfadfgeaaGreat
open Go Go.RowKit

theorem later_l (w : World) : Calls Tryz.prog 36 #[.slice (some ⟨w.heap.size, 0, none⟩) 1 1, .slice (some ⟨w.heap.size + 1, 0, none⟩) 1 1] ((w.alloc (.cells #[.int .u64 2, .int .u64 0, .int .u64 0] 36)).alloc (.cells #[.int .u64 1, .int .u64 0, .int .u64 0] 36)) fun x w' => x = .returned (.bool true) ∧ Below w.heap.size w w' := by
  have h1 := times_made w ⟨2, 0, 0⟩
  have hb1 : Below w.heap.size w (w.alloc (.cells #[.int .u64 2, .int .u64 0, .int .u64 0] 36)) := (Below.refl _ _).alloc (Nat.le_refl _) _
  have hb2 : Below (w.heap.size + 1) (w.alloc (.cells #[.int .u64 2, .int .u64 0, .int .u64 0] 36)) ((w.alloc (.cells #[.int .u64 2, .int .u64 0, .int .u64 0] 36)).alloc (.cells #[.int .u64 1, .int .u64 0, .int .u64 0] 36)) := (Below.refl _ _).alloc (by simp) _
  have h1' : Times (w.alloc (.cells #[.int .u64 2, .int .u64 0, .int .u64 0] 36)) (w.heap.size + 1) (some ⟨w.heap.size, 0, none⟩) [⟨2, 0, 0⟩] := by simpa using h1
  have h2 := times_made (w.alloc (.cells #[.int .u64 2, .int .u64 0, .int .u64 0] 36)) ⟨1, 0, 0⟩
  have h2' : Times ((w.alloc (.cells #[.int .u64 2, .int .u64 0, .int .u64 0] 36)).alloc (.cells #[.int .u64 1, .int .u64 0, .int .u64 0] 36)) ((w.alloc (.cells #[.int .u64 2, .int .u64 0, .int .u64 0] 36)).alloc (.cells #[.int .u64 1, .int .u64 0, .int .u64 0] 36)).heap.size (some ⟨w.heap.size + 1, 0, none⟩) [⟨1, 0, 0⟩] := by simpa using h2
  refine (later_any (some ⟨w.heap.size, 0, none⟩) 1 [⟨2, 0, 0⟩] (some ⟨w.heap.size + 1, 0, none⟩) 1 [⟨1, 0, 0⟩] _ ((h1'.past hb2 (Nat.le_refl _)).wide (by simp)) (by unfold maxLen; simp) h2' (by unfold maxLen; simp)).mono fun x w' ⟨b, k1, k2, k3⟩ => ?_
  refine ⟨by rw [k1, k2.2 bl_later], ?_⟩
  have hz : w.heap.size ≤ (w.alloc (.cells #[.int .u64 2, .int .u64 0, .int .u64 0] 36)).heap.size := hb1.size
  exact (hb1.trans (hb2.mono (Nat.le_succ _))).trans (k3.mono (by simp; omega))
set_option maxRecDepth 100000 in
set_option maxHeartbeats 12800000 in
theorem blives_true (w : World) : Calls Tryz.prog 10 #[] w fun e w' => e = .returned (.bool true) ∧ Below w.heap.size w w' := by
  have y1 := fun W => Lib.hid (brow_any 1 W)
  have y2 := fun W => Lib.hid (brow_any 2 W)
  go_enter Tryz.func10, Tryz.ntmps10
  go_wp2_with fail
  refine (y1 _).out.mono ?_
  rintro _ w1 ⟨G1, rfl, v1, b1⟩
  obtain ⟨V1, hV1, hb1, hu1⟩ := box_one w1 G1 1 1 v1
  have H1 := Lib.hid (And.intro (belows b1 hb1) hu1)
  clear b1 v1 hb1 hu1
  go_wp2_with fail
  rw [← hV1]
  clear hV1
  refine (y2 _).out.mono ?_
  rintro _ w2 ⟨G2, rfl, v2, b2⟩
  obtain ⟨V2, hV2, hb2, hu2⟩ := box_one w2 G2 2 5 v2
  obtain ⟨V3, hV3, hb3, hul⟩ := two_lists V2 (some ⟨w1.heap.size, 0, none⟩) (some ⟨w2.heap.size, 0, none⟩) 1 1 [lu G1 1 1 0] [lu G2 2 5 0] ((H1.out.2.keep b2).keep hb2) hu2
  have z1 := Lib.hid (build_a (some ⟨V2.heap.size, 0, none⟩) (some ⟨w1.heap.size, 0, none⟩) (some ⟨w2.heap.size, 0, none⟩) G1 G2 V3 hul)
  have H3 := Lib.hid (belows H1.out.1 (belows b2 (belows hb2 hb3)))
  rw [hV2] at hV3 z1
  simp only [List.length_cons, List.length_nil, Nat.zero_add, World.size_alloc] at hV3 z1
  clear b2 v2 hb2 hb3 hu2 hul hV2
  go_wp2_with fail
  rw [← hV3]
  clear hV3
  refine z1.out.mono ?_
  rintro _ w3 ⟨a, rfl, fa, pa, ka, ia, oa, b3⟩
  obtain ⟨V4, hV4, hb4, hs4, ho4⟩ := btbox w3 a
  have HA := Lib.hid (And.intro (belows H3.out (belows b3 hb4)) (And.intro ho4 (And.intro (ia.keep hb4) (And.intro oa (And.intro fa (And.intro pa ka))))))
  unfold Bt.val
  clear fa pa ka ia oa b3 hb4 ho4 z1
  go_wp2_with fail
  rw [← hV4]
  clear hV4
  refine (y1 _).out.mono ?_
  rintro _ w5 ⟨G5, rfl, v5, b5⟩
  obtain ⟨V5, hV5, hb5, hu5⟩ := box_one w5 G5 1 (-1) v5
  obtain ⟨V6, hV6, hb6, hul⟩ := one_list V5 (some ⟨w5.heap.size, 0, none⟩) 1 [lu G5 1 (-1) 0] hu5
  have z2 := Lib.hid (build_b (some ⟨V5.heap.size, 0, none⟩) (some ⟨w5.heap.size, 0, none⟩) G5 V6 hul)
  have hb56 : Below V4.heap.size V4 V6 := belows b5 (belows hb5 hb6)
  have H6 := Lib.hid (And.intro (belows HA.out.1 hb56) (And.intro (HA.out.2.1.past hb56 (by omega)) (HA.out.2.2.1.keep hb56)))
  rw [hV5] at hV6 z2
  simp only [List.length_cons, List.length_nil, Nat.zero_add, World.size_alloc] at hV6 z2
  clear b5 v5 hb5 hb6 hu5 hul hV5 hb56
  go_wp2_with fail
  rw [← hV6]
  clear hV6
  refine z2.out.mono ?_
  rintro _ w6 ⟨b, rfl, fb, pb, kb, ib, ob, b6⟩
  obtain ⟨V7, hV7, hb7, hs7, ho7⟩ := btbox w6 b
  have hb67 : Below V6.heap.size V6 V7 := belows b6 hb7
  have h3in : w3.heap.size < V6.heap.size := H6.out.2.1.inside
  have HB := Lib.hid (And.intro (belows H6.out.1 hb67) (And.intro (H6.out.2.1.past hb67 h3in) (And.intro ho7 (And.intro (H6.out.2.2.keep hb67) (And.intro (ib.keep hb7) (And.intro ob (And.intro fb (And.intro pb kb))))))))
  have z3 := Lib.hid (start_l a b V7 HB.out.2.2.2.1 HA.out.2.2.2.1 HB.out.2.2.2.2.1 HB.out.2.2.2.2.2.1 HA.out.2.2.2.2.1 HB.out.2.2.2.2.2.2.1 HA.out.2.2.2.2.2.1 HB.out.2.2.2.2.2.2.2.1 HA.out.2.2.2.2.2.2 HB.out.2.2.2.2.2.2.2.2)
  obtain ⟨d0, d1⟩ := own2 HB.out.2.1
  obtain ⟨e0, e1⟩ := own2 HB.out.2.2.1
  unfold Bt.val at z3 ⊢
  clear fb pb kb ib ob b6 hb7 ho7 z2 hb67 h3in
  go_upto_region 3 with fail
  rw [← hV7]
  clear hV7
  go_wp2_with fail
  refine z3.out.mono ?_
  rintro _ w8 ⟨m0, rfl, hm0, im0, om0, b8⟩
  clear d0 d1 e0 e1 z3
  obtain ⟨V8, hV8, hb8, hs8, ho8⟩ := mgbox w8 m0
  have z4 := Lib.hid (work_l1 m0 V8 hm0 (im0.keep hb8) om0)
  have H8 := Lib.hid (And.intro (belows HB.out.1 (belows b8 hb8)) ho8)
  have b8' := Lib.hid b8.size
  obtain ⟨c0, c1, c2, c3, c4, c5⟩ := own6 ho8
  unfold Mg.val at z4 ⊢
  clear hm0 im0 om0 b8 hb8 ho8
  go_upto_region 4 with fail
  rw [← hV8]
  clear hV8
  go_wp2_with fail
  refine z4.out.mono ?_
  rintro _ w9 ⟨m1, rfl, hm1, im1, om1, lm1, b9⟩
  clear c0 c1 c2 c3 c4 c5 z4
  have ho9 := H8.out.2.past b9 H8.out.2.inside
  obtain ⟨f0, f1, f2, f3, f4, f5⟩ := own_frozen6 ho9
  obtain ⟨c0, c1, c2, c3, c4, c5⟩ := own6 ho9
  obtain ⟨X, hX', hXo, hXb, hXs, hXh⟩ := own_six ho9 (.slice m1.aA m1.a.length m1.ac) (.slice m1.bA m1.b.length m1.bc) (.int .i64 m1.i) (.int .i64 m1.j) (.slice m1.sA m1.f.length m1.sc) (.slice m1.oA m1.o.length m1.oc)
  have hin8 := H8.out.2.inside
  have hmX : MgIn X X.heap.size m1 := mg_other im1 (lm1.mono hin8) hXs hXh
  have hbX : Below w.heap.size w X := hXb w.heap.size w (H8.out.1.trans (b9.mono H8.out.1.size)) (by have h1 := HB.out.1.size; have h2 := b8'.out; omega)
  have z5 := Lib.hid (end_l1 m1 X hm1 hmX om1)
  have HX := Lib.hid (And.intro hbX (And.intro hXo (And.intro hmX (And.intro hm1 om1))))
  have HR := Lib.hid hX'
  unfold Mg.val at z5
  clear hX' hXo hXb hXs hXh hin8 hmX hbX hm1 im1 om1 lm1 b9 ho9
  go_upto_region 5 with fail
  rw [← HR.out]
  clear c0 c1 c2 c3 c4 c5 f0 f1 f2 f3 f4 f5 HR
  obtain ⟨c0, c1, c2, c3, c4, c5⟩ := own6 HX.out.2.1
  go_wp2_with fail
  refine z5.out.mono ?_
  rintro _ w10 ⟨b0, rfl, b10⟩
  obtain ⟨V10, hV10, hb10, hs10, ho10⟩ := btbox w10 b0
  have hb1 : Below X.heap.size X V10 := belows b10 hb10
  have z6 := Lib.hid (work_l2 m1 V10 HX.out.2.2.2.1 (HX.out.2.2.1.keep hb1) HX.out.2.2.2.2)
  have H10 := Lib.hid (And.intro (belows HX.out.1 hb1) (HX.out.2.1.past hb1 HX.out.2.1.inside))
  unfold Mg.val at z6
  unfold Bt.val
  clear c0 c1 c2 c3 c4 c5 z5 b10 hb10 ho10 hb1
  go_upto_region 6 with fail
  rw [← hV10]
  clear hV10
  obtain ⟨c0, c1, c2, c3, c4, c5⟩ := own6 H10.out.2
  go_wp2_with fail
  refine z6.out.mono ?_
  rintro _ w11 ⟨m2, rfl, hm2, im2, om2, lm2, b11⟩
  clear c0 c1 c2 c3 c4 c5 z6
  have ho11 := H10.out.2.past b11 H10.out.2.inside
  obtain ⟨f0, f1, f2, f3, f4, f5⟩ := own_frozen6 ho11
  obtain ⟨c0, c1, c2, c3, c4, c5⟩ := own6 ho11
  obtain ⟨Y, hY', hYo, hYb, hYs, hYh⟩ := own_six ho11 (.slice m2.aA m2.a.length m2.ac) (.slice m2.bA m2.b.length m2.bc) (.int .i64 m2.i) (.int .i64 m2.j) (.slice m2.sA m2.f.length m2.sc) (.slice m2.oA m2.o.length m2.oc)
  have hin10 := H10.out.2.inside
  have hmY : MgIn Y Y.heap.size m2 := mg_other im2 (lm2.mono hin10) hYs hYh
  have hbY : Below w.heap.size w Y := hYb w.heap.size w (H10.out.1.trans (b11.mono H10.out.1.size)) (by have h1 := HB.out.1.size; have h2 := b8'.out; omega)
  have z7 := Lib.hid (end_l2 m2 Y hm2 hmY om2)
  have HY := Lib.hid (And.intro hbY hYo)
  have HR := Lib.hid hY'
  unfold Mg.val at z7
  clear hY' hYo hYb hYs hYh hin10 hmY hbY hm2 im2 om2 lm2 b11 ho11
  go_upto_region 7 with fail
  rw [← HR.out]
  clear c0 c1 c2 c3 c4 c5 f0 f1 f2 f3 f4 f5 HR
  obtain ⟨c0, c1, c2, c3, c4, c5⟩ := own6 HY.out.2
  go_wp2_with fail
  refine z7.out.mono ?_
  rintro _ w12 ⟨e, rfl, pe, ie, b12⟩
  have le : e.l.length = 1 := by have := congrArg List.length pe; simpa using this
  obtain ⟨u, hu⟩ := List.length_eq_one_iff.1 le
  have hud : u.d = 5 := by
    rw [hu] at pe
    have : u.p = (bk 2, (5 : Int)) := by simpa using pe
    exact congrArg Prod.snd this
  obtain ⟨V12, hV12, hb12, hs12, ho12⟩ := btbox w12 e
  have heV := (ie.keep hb12).ups
  rw [hu] at heV
  obtain ⟨b, o, hA, hBb, hxs⟩ := lies_up heV.head (by simp)
  have e5 := (hxs 0 u rfl).six.2.2.2.2.2
  rw [hud, Nat.zero_mul, Nat.add_zero] at e5
  obtain ⟨d0, d1⟩ := own2 ho12
  rw [le, hA] at d1
  have H12 := Lib.hid (belows HY.out.1 (belows b12 hb12))
  unfold Bt.val
  rw [le, hA]
  rw [le, hA] at hV12
  have zl := Lib.hid (later_l V12)
  clear c0 c1 c2 c3 c4 c5 z7 pe ie b12 le hu hud hb12 hs12 ho12 heV hA hxs
  go_upto_region 8 with fail
  rw [← hV12]
  clear hV12
  go_wp2_with fail
  refine zl.out.mono ?_
  rintro _ w13 ⟨rfl, b13⟩
  have H13 := Lib.hid (H12.out.trans (b13.mono H12.out.size))
  clear b13 d0 d1 e5
  go_wp2_with fail
  go_ret
  exact ⟨rfl, H13.out⟩
end Go.Proofs.YthpjkikfadfgeaaGreat
namespace Go.Proofs.YthpjkikfadfgeaaGreat
open Go Go.RowKit

set_option maxRecDepth 100000 in
set_option maxHeartbeats 25600000 in
theorem bown_walk (m : Mg) (fuel : Int) (w : World) (hm : MgIn w w.heap.size m) (om : MgOk m) (h8 : ∀ u, u ∈ m.a ∨ u ∈ m.b ∨ u ∈ m.o → u.key.length ≤ 1099511627776 ∧ u.row.length ≤ 1099511627776) (hnn : m.a.length + m.b.length + m.o.length ≤ 1048576) :
    Calls Tryz.prog 3 #[m.val, .int .i64 fuel] w fun e w' => e = .returned (.bool true) ∧ Below w.heap.size w w' := by
  obtain ⟨V, hV, hvb, hvs, hvo⟩ := mgbox w m
  have HW := Lib.hid hvb
  have HBm := Lib.hid (BoxM.mk (hm.keep hvb) om hvo)
  have HN := Lib.hid (And.intro h8 hnn)
  rw [show m.val = .agg #[.slice m.aA m.a.length m.ac, .slice m.bA m.b.length m.bc, .int .i64 m.i, .int .i64 m.j, .slice m.sA m.f.length m.sc, .slice m.oA m.o.length m.oc] from rfl]
  clear hm om h8 hnn hvb hvs hvo
  go_enter Tryz.func3, Tryz.ntmps3
  go_upto_region 1 with fail
  rw [← hV]
  clear hV
  go_wp2_with fail
  refine (blives_true V).mono ?_
  rintro _ w0 ⟨rfl, b0⟩
  replace HBm := Lib.hid (HBm.out.past b0)
  replace HW := Lib.hid (belows HW.out b0)
  clear b0
  go_upto_region 3 with fail
  obtain ⟨c0, c1, c2, c3, c4, c5⟩ := own6 HBm.out.own
  go_wp2_with fail
  refine (rcopyM_any m w0 HBm.out.in_ HBm.out.ok HN.out.1).mono ?_
  rintro _ w1 ⟨g, rfl, hsg, ig, og, _, b1, _⟩
  clear c0 c1 c2 c3 c4 c5
  obtain ⟨V1, hV1, hvb, hvs, hvo⟩ := mgbox w1 g
  have hst : Below w0.heap.size w0 V1 := b1.trans (hvb.mono b1.size)
  have HSg := Lib.hid hsg
  replace HBm := Lib.hid (HBm.out.past hst)
  have HBg := Lib.hid (BoxM.mk (ig.keep hvb) og hvo)
  replace HW := Lib.hid (belows HW.out hst)
  clear b1 hvb hvs hvo hst ig og hsg
  rw [show g.val = .agg #[.slice g.aA g.a.length g.ac, .slice g.bA g.b.length g.bc, .int .i64 g.i, .int .i64 g.j, .slice g.sA g.f.length g.sc, .slice g.oA g.o.length g.oc] from rfl]
  go_upto_region 4 with fail
  rw [← hV1]
  clear hV1
  obtain ⟨c0, c1, c2, c3, c4, c5⟩ := own6 HBm.out.own
  go_wp2_with fail
  refine (work_anyO m fuel V1 HBm.out.in_ HBm.out.ok (by have h2 := HN.out.2; omega) (by have h2 := HN.out.2; omega) (by have h2 := HN.out.2; omega)).mono ?_
  rintro _ w2 ⟨x, C1, E1, rfl, _, ix, ox, _, b2, px⟩
  clear c0 c1 c2 c3 c4 c5
  obtain ⟨V2, hV2, hvb, hvs, hvo⟩ := mgbox w2 x
  have hst : Below V1.heap.size V1 V2 := b2.trans (hvb.mono b2.size)
  have HBx := Lib.hid (BoxM.mk (ix.keep hvb) ox hvo)
  have HPx := Lib.hid (px.past hvb)
  have HV2 := Lib.hid hst
  have HWV := Lib.hid (belows HW.out hst)
  clear b2 hvb hvs hvo hst ix ox px
  rw [show x.val = .agg #[.slice x.aA x.a.length x.ac, .slice x.bA x.b.length x.bc, .int .i64 x.i, .int .i64 x.j, .slice x.sA x.f.length x.sc, .slice x.oA x.o.length x.oc] from rfl]
  go_upto_region 5 with fail
  rw [← hV2]
  clear hV2
  obtain ⟨c0, c1, c2, c3, c4, c5⟩ := own6 HBx.out.own
  obtain ⟨V3, hV3⟩ : ∃ V3, V3 = V2.alloc (.cells #[.slice x.aA x.a.length x.ac, .slice x.bA x.b.length x.bc, .slice x.oA x.o.length x.oc] 22) := ⟨_, rfl⟩
  have hb3 : Below V2.heap.size V2 V3 := by rw [hV3]; exact (Below.refl _ _).alloc (Nat.le_refl _) _
  have ho3 : Own V3 V2.heap.size 22 [.slice x.aA x.a.length x.ac, .slice x.bA x.b.length x.bc, .slice x.oA x.o.length x.oc] := by rw [hV3]; exact Own.made V2 _ _
  have hx3 := HBx.out.in_.keep hb3
  have hp3 := HPx.out.past hb3
  have HS := Lib.hid (And.intro (spoil_list hx3.a hp3.a) (And.intro (spoil_list hx3.b hp3.b) (spoil_list hx3.o hp3.o)))
  have HL := Lib.hid ho3
  have H3 := Lib.hid (HV2.out.trans (hb3.mono HV2.out.size))
  have HX := Lib.hid hV3
  clear hb3 ho3 hx3 hp3 hV3
  go_upto_region 6 with fail
  rw [← HX.out]
  have HLS := Lib.hid (show ∀ k, k < 3 → ∃ (A : Option Addr) (c : Nat) (l : List Up), V3.cell? ⟨V2.heap.size, k, none⟩ = some (.slice A l.length c) ∧ SpoilL V3 V1.heap.size A l ∧ (l.length ≤ 1099511627776 ∧ ∀ u ∈ l, u.row.length ≤ 140737488351232) from fun k hk => by
    match k, hk with
    | 0, _ => exact ⟨_, _, _, HL.out.at_ 0, HS.out.1, HBx.out.ok.a.n, fun u hu => (HBx.out.ok.a.ok u hu).rn⟩
    | 1, _ => exact ⟨_, _, _, HL.out.at_ 1, HS.out.2.1, HBx.out.ok.b.n, fun u hu => (HBx.out.ok.b.ok u hu).rn⟩
    | 2, _ => exact ⟨_, _, _, HL.out.at_ 2, HS.out.2.2, HBx.out.ok.o.n, fun u hu => (HBx.out.ok.o.ok u hu).rn⟩)
  clear c0 c1 c2 c3 c4 c5
  go_wp2_with fail
  go_loopw [35] (fun v35 wr => ∃ k : Nat, v35 = .int .i64 (k : Int) ∧ k ≤ 3 ∧ IntsOnly V1.heap.size V3 wr)
    (fun v35 _ => 3 - (intOf v35).toNat)
  case atStart => exact ⟨0, rfl, by omega, IntsOnly.refl _ _⟩
  case round =>
    obtain ⟨k, rfl, hk, hI⟩ := hrel
    by_cases hlt : k < 3
    · obtain ⟨A, c, l, hcl, hsp, hln, hrn⟩ := HLS.out k hlt
      have HRN := Lib.hid hrn
      have hcl := hI.slice hcl
      have HSP := Lib.hid hsp
      have HI := Lib.hid hI
      have q0 : (0 : Int) ≤ (k : Int) := by omega
      have q1 : (k : Int) < 3 := by omega
      clear hsp hI hrn
      go_wp2_with fail
      go_loopw [41] (fun v41 wr => ∃ j : Nat, v41 = .int .i64 (j : Int) ∧ j ≤ l.length ∧ IntsOnly V1.heap.size V3 wr)
        (fun v41 _ => l.length - (intOf v41).toNat)
      case atStart => exact ⟨0, rfl, by omega, HI.out⟩
      case round =>
        obtain ⟨j, rfl, hj, hJ⟩ := hrel
        by_cases hlj : j < l.length
        · obtain ⟨u, hu⟩ : ∃ u, l[j]? = some u := ⟨_, List.getElem?_eq_getElem hlj⟩
          obtain ⟨b, o, rfl, hB, hat⟩ := HSP.out (by omega)
          have su := (hat j u hu).past hJ
          obtain ⟨n, hd⟩ := su.diff
          have hfree := su.free
          have hJ2 := hJ.set hd hB 0
          have su2 := (hat j u hu).past hJ2
          have hr2 := su2.row
          have HU := Lib.hid (hat j u hu)
          have hun := HRN.out u (List.mem_of_getElem? hu)
          have HJ := Lib.hid hJ2
          have q2 : (0 : Int) ≤ (j : Int) := by omega
          have q3 : (j : Int) < (l.length : Int) := by omega
          obtain ⟨W2, hW2⟩ : ∃ W2, W2 = wr.setCell ⟨b, o + j * 6 + 5, none⟩ (.int .i64 0) := ⟨_, rfl⟩
          rw [← hW2] at hr2 HJ
          clear su su2 hJ hJ2 hat hu
          go_upto_region 12 with fail
          rw [← hW2]
          clear hW2 hd hfree
          go_wp2_with fail
          go_loopw [54] (fun v54 wr => ∃ i : Nat, v54 = .int .i64 (i : Int) ∧ i ≤ u.row.length ∧ IntsOnly V1.heap.size V3 wr)
            (fun v54 _ => u.row.length - (intOf v54).toNat)
          case atStart => exact ⟨0, rfl, by omega, HJ.out⟩
          case round =>
            obtain ⟨i, rfl, hi, hQ⟩ := hrel
            by_cases hli : i < u.row.length
            · have su := HU.out.past hQ
              have hr := su.row
              obtain ⟨rb, ro, hrA, hrB, hvals⟩ := su.vals (by omega)
              obtain ⟨⟨y, hy⟩, hyf⟩ := hvals i hli
              have hQ2 := Lib.hid (hQ.set hy hrB (wrap64 (y + 5)))
              have q4 : (0 : Int) ≤ (i : Int) := by omega
              have q5 : (i : Int) < (u.row.length : Int) := by omega
              rw [hrA] at hr
              clear su hvals hQ hrA
              go_wp2_with fail
              go_roundw
              case rel => exact ⟨i + 1, by go_num, by omega, hQ2.out⟩
              case measure => simp [intOf]; omega
            · have hn1 : ¬ ((i : Int) < (u.row.length : Int)) := by omega
              have HQ := Lib.hid hQ
              clear hQ
              go_wp2_with fail
              go_roundw
              case rel => exact ⟨j + 1, by go_num, by omega, HQ.out⟩
              case measure => simp [intOf]; omega
        · have hn1 : ¬ ((j : Int) < (l.length : Int)) := by omega
          have HQ := Lib.hid hJ
          clear hJ
          go_wp2_with fail
          go_roundw
          case rel => exact ⟨k + 1, by go_num, by omega, HQ.out⟩
          case measure => simp [intOf]; omega
    · have hn1 : ¬ ((k : Int) < 3) := by omega
      have HI := Lib.hid hI
      clear hI
      obtain ⟨wv, hwv⟩ : ∃ wv, wv = wr := ⟨_, rfl⟩
      subst hwv
      have hst : Below V1.heap.size V1 wv := H3.out.trans HI.out.below
      replace HBm := Lib.hid (HBm.out.past hst)
      replace HBg := Lib.hid (HBg.out.past hst)
      replace HW := Lib.hid (belows HW.out hst)
      clear hst HI HLS HS HL H3 HX HV2 HWV HBx HPx
      obtain ⟨c0, c1, c2, c3, c4, c5⟩ := own6 HBm.out.own
      go_wp2_with fail
      refine (end_anyO m wv HBm.out.in_ HBm.out.ok (by have h2 := HN.out.2; omega)).mono ?_
      rintro _ w4 ⟨e, E4, rfl, _, ie, oe, _, b4, pe⟩
      obtain ⟨V4, hV4, hvb, hvs, hvo⟩ := btbox w4 e
      have hst : Below wv.heap.size wv V4 := b4.trans (hvb.mono b4.size)
      have HS4 := Lib.hid (spoil_list (ie.keep hvb).ups ((pe.past hvb).toC))
      have HO4 := Lib.hid hvo
      have HN4 := Lib.hid oe.l.n
      have HB4 := Lib.hid hst
      clear c0 c1 c2 c3 c4 c5 hvb hvs hvo hst ie oe b4 pe
      rw [show e.val = .agg #[.slice e.sA e.f.length e.sc, .slice e.uA e.l.length e.uc] from rfl]
      go_upto_region 20 with fail
      rw [← hV4]
      clear hV4
      obtain ⟨d0, d1⟩ := own2 HO4.out
      go_wp2_with fail
      go_loopw [80] (fun v80 wq => ∃ j : Nat, v80 = .int .i64 (j : Int) ∧ j ≤ e.l.length ∧ IntsOnly wv.heap.size V4 wq)
        (fun v80 _ => e.l.length - (intOf v80).toNat)
      case atStart => exact ⟨0, rfl, by omega, IntsOnly.refl _ _⟩
      case round =>
        obtain ⟨j, rfl, hj, hJ⟩ := hrel
        have e1 := hJ.slice d1
        by_cases hlj : j < e.l.length
        · obtain ⟨u, hu⟩ : ∃ u, e.l[j]? = some u := ⟨_, List.getElem?_eq_getElem hlj⟩
          obtain ⟨b, o, hA, hB, hat⟩ := HS4.out (by omega)
          have su := (hat j u hu).past hJ
          obtain ⟨n, hd⟩ := su.diff
          have hfree := su.free
          have hJ2 := Lib.hid (hJ.set hd hB 0)
          have q2 : (0 : Int) ≤ (j : Int) := by omega
          have q3 : (j : Int) < (e.l.length : Int) := by omega
          have hlen := HN4.out
          rw [hA] at e1
          clear su hat hu hJ hA
          go_wp2_with fail
          go_roundw
          case rel => exact ⟨j + 1, by go_num, by omega, hJ2.out⟩
          case measure => simp [intOf]; omega
        · have hn2 : ¬ ((j : Int) < (e.l.length : Int)) := by omega
          have hst : Below wv.heap.size wv wr := HB4.out.trans hJ.below
          replace HBm := Lib.hid (HBm.out.past hst)
          replace HBg := Lib.hid (HBg.out.past hst)
          replace HW := Lib.hid (belows HW.out hst)
          clear hst hJ e1 d0 d1
          obtain ⟨c0, c1, c2, c3, c4, c5⟩ := own6 HBm.out.own
          obtain ⟨g0, g1, g2, g3, g4, g5⟩ := own6 HBg.out.own
          have y9 := Lib.hid (samem_yes m g wr HBm.out.in_ HBm.out.ok HBg.out.in_ HBg.out.ok (by first | exact HSg.out | exact HSg.out.swap))
          unfold Mg.val at y9
          go_wp2_with fail
          refine y9.out.mono ?_
          rintro _ w9 ⟨rfl, b9⟩
          have HZ := Lib.hid (belows HW.out b9)
          clear b9 c0 c1 c2 c3 c4 c5 g0 g1 g2 g3 g4 g5
          go_wp2_with fail
          go_ret
          exact ⟨rfl, HZ.out⟩
theorem bown_law (m : Mg) (fuel : Int) (w : World) (hm : MgIn w w.heap.size m) (om : MgOk m ∧ ∀ u, u ∈ m.a ∨ u ∈ m.b ∨ u ∈ m.o → u.key.length ≤ 1099511627776 ∧ u.row.length ≤ 1099511627776) (hnn : m.a.length + m.b.length + m.o.length ≤ 1048576) (_ : -9223372036854775808 ≤ fuel) (_ : fuel ≤ 9223372036854775807) (_ : 0 ≤ 1048576) :
    Calls Tryz.prog 3 #[m.val, .int .i64 fuel] w fun e w' => e = .returned (.bool true) ∧ Below w.heap.size w w' :=
  bown_walk m fuel w hm om.1 om.2 hnn
end Go.Proofs.YthpjkikfadfgeaaGreat
namespace Go.Proofs.YthpjkikfadfgeaaGreat
open Go
variable {H : Type}
theorem bulk_pos (d : DataW H) : 1 ≤ Rows.uptoBulk d := by
  cases d with
  | lit l => cases l <;> simp [Rows.uptoBulk]
  | nil => simp [Rows.uptoBulk]
  | ptr d => simp [Rows.uptoBulk]
  | slice es sp => simp [Rows.uptoBulk]
  | agg ps => simp [Rows.uptoBulk]
  | iface t d => simp [Rows.uptoBulk]
  | map es => simp [Rows.uptoBulk]
  | held h => simp [Rows.uptoBulk]
end Go.Proofs.YthpjkikfadfgeaaGreat
namespace Go.Proofs.YthpjkikfadfgeaaGreat
open Go Go.RowKit Go.ChangeShapes Go.WideShapes Go.ChangeAt Go.Deep

section
variable {H : Type} {enc : TypeId × Value → H} {P : Program} {w : World} {base : Nat} {spare : Nat → Bool} {held : Bool}
end
end Go.Proofs.YthpjkikfadfgeaaGreat
namespace Go.Proofs.YthpjkikfadfgeaaGreat
open Go Go.RowKit Go.ChangeShapes Go.WideShapes Go.ChangeAt Go.Deep

section
variable {H : Type} {enc : TypeId × Value → H} {P : Program} {w : World} {base : Nat} {spare : Nat → Bool} {held : Bool}
theorem lies_gen {α : Type} {size : Nat} {cells : α → List Value} (hcl : ∀ x, 0 < (cells x).length) {len : Nat} {a : Addr} {f : Nat → α} (hp : 0 < len) (hf : ∀ i, i < len → ∀ (j : Nat) (u : Value), (cells (f i))[j]? = some u → w.cell? ((a.add (i * size)).add j) = some u) :
    Lies size cells w w.heap.size (some a) ((List.range len).map f) := fun _ => by
  have hz : ((a.add (0 * size)).add 0) = a := by unfold Addr.add; simp
  obtain ⟨v0, h0⟩ : ∃ v0, w.cell? a = some v0 := by
    have := hf 0 hp 0 _ (List.getElem?_eq_getElem (hcl (f 0)))
    rw [hz] at this
    exact ⟨_, this⟩
  have hspot : a.spot = none := by
    cases hs : a.spot with
    | none => rfl
    | some s =>
      unfold World.cell? at h0
      rw [hs] at h0
      split at h0 <;> simp at h0
  obtain ⟨b, o, sp⟩ := a
  simp only at hspot
  subst hspot
  have hadd : ∀ k j, ((⟨b, o, none⟩ : Addr).add k).add j = ⟨b, o + k + j, none⟩ := fun k j => by unfold Addr.add; split <;> split <;> simp_all
  refine ⟨b, o, rfl, World.block_lt_of_cell? w _ h0, fun i x hit j u hj => ?_⟩
  have hil : i < len := by have := (List.getElem?_eq_some_iff.1 hit).1; simpa using this
  have hti : f i = x := by simpa [hil] using hit
  subst hti
  have := hf i hil j u hj
  rwa [hadd] at this
theorem bulk_sum : ∀ es : List (DataW H × List MemPlace), (es.map (fun z => Rows.uptoBulk z.1)).sum = Rows.uptoBulkAll (es.map (·.1))
  | [] => by simp [Rows.uptoBulkAll]
  | x :: es => by simp only [List.map_cons, List.sum_cons, Rows.uptoBulkAll]; rw [bulk_sum es]
theorem mem_le_sum : ∀ {bs : List Nat} {b : Nat}, b ∈ bs → b ≤ bs.sum
  | [], _, h => by cases h
  | x :: bs, b, h => by
    rw [List.sum_cons]
    rcases List.mem_cons.1 h with rfl | h
    · omega
    · have := mem_le_sum h; omega
theorem len_le_sum : ∀ {bs : List Nat}, (∀ b ∈ bs, 1 ≤ b) → bs.length ≤ bs.sum
  | [], _ => Nat.le_refl _
  | x :: bs, h => by
    have h1 := h x (by simp)
    have h2 := len_le_sum (bs := bs) fun b hb => h b (by simp [hb])
    rw [List.sum_cons, List.length_cons]
    omega
theorem open_list_bulk {α : Type} [Inhabited α] {size : Nat} {cells : α → List Value} {OK : α → Nat → Prop} {t e : TypeId} {fuel : Nat} (ht : P.underlying t = some (.slice e)) (hc : P.cellsOf e = size) (hcl : ∀ x, 0 < (cells x).length)
    (dec : ∀ {n : Nat} {cs : List Value} {x : DataW H × List MemPlace}, n < fuel → DataW.trod enc P w base spare held n e cs = some x → ∃ a, cs = cells a ∧ OK a (Rows.uptoBulk x.1))
    {cs : List Value} {x : DataW H × List MemPlace} (hf : DataW.trod enc P w base spare held fuel t cs = some x) :
    ∃ (A : Option Addr) (c : Nat) (l : List α) (bs : List Nat), cs = [.slice A l.length c] ∧ l.length ≤ c ∧ c ≤ maxLen ∧ Lies size cells w w.heap.size A l ∧ bs.length = l.length ∧ bs.sum + 1 ≤ Rows.uptoBulk x.1 ∧ (∀ b ∈ bs, 1 ≤ b) ∧
      ∀ (i : Nat) (a : α), l[i]? = some a → ∃ b, bs[i]? = some b ∧ OK a b := by
  rcases DataW.trod_slice ht hf with ⟨h1, h2⟩ | ⟨a, len, cap, elems, rest, n, hfu, h1, h2, hb, hl, hm, hlen, hel, hsp, hns⟩
  · subst h1 h2
    exact ⟨none, 0, [], [], rfl, Nat.le_refl _, Nat.zero_le _, Lies.nil_, rfl, by simp [Rows.uptoBulk], fun b h => (by cases h), fun i a h => (by simp at h)⟩
  · rw [hc] at hel
    have hT : ∀ i, i < len → ∃ y : α, (∃ b, (elems.map (fun z => Rows.uptoBulk z.1))[i]? = some b ∧ OK y b) ∧ ∀ (j : Nat) (u : Value), (cells y)[j]? = some u → w.cell? ((a.add (i * size)).add j) = some u := fun i hi => by
      have h1 := hel i hi
      rw [List.getElem?_eq_getElem (by omega)] at h1
      obtain ⟨cs', h2, h3⟩ := Option.bind_eq_some_iff.1 h1
      obtain ⟨y, rfl, hy⟩ := dec (by omega) h3
      obtain ⟨_, hle2, hat⟩ := World.cells?_some h2
      refine ⟨y, ⟨_, by rw [List.getElem?_map, List.getElem?_eq_getElem (by omega)]; rfl, hy⟩, fun j u hj => ?_⟩
      rw [hat j (by have := (List.getElem?_eq_some_iff.1 hj).1; omega)]
      exact hj
    obtain ⟨f, hf'⟩ := choose_lt hT
    have hle : ((List.range len).map f).length = len := by simp
    refine ⟨some a, cap, (List.range len).map f, elems.map (fun z => Rows.uptoBulk z.1), by rw [hle]; exact h1, by rw [hle]; exact hl, hm, ?_, by rw [hle, List.length_map, hlen], ?_, ?_, ?_⟩
    · by_cases hp : 0 < len
      · exact lies_gen hcl hp fun i hi => (hf' i hi).2
      · exact fun h => by rw [hle] at h; omega
    · rw [h2]
      simp only [Rows.uptoBulk]
      rw [bulk_sum]
      omega
    · intro b hb
      obtain ⟨z, _, rfl⟩ := List.mem_map.1 hb
      exact bulk_pos _
    · intro i y hi
      have hil : i < len := by have := (List.getElem?_eq_some_iff.1 hi).1; simpa using this
      have hti : f i = y := by simpa [hil] using hi
      subst hti
      exact (hf' i hil).1
end
end Go.Proofs.YthpjkikfadfgeaaGreat
namespace Go.Proofs.YthpjkikfadfgeaaGreat
open Go Go.RowKit Go.ChangeShapes Go.WideShapes Go.ChangeAt Go.Deep

set_option maxRecDepth 100000
section
variable {H : Type} {enc : TypeId × Value → H} {w : World} {base : Nat} {spare : Nat → Bool} {held : Bool}
theorem wf_nat {n : Int} (h : (Lit.int .u64 n).wf = true) : ∃ m : Nat, n = (m : Int) := by
  have h2 : 0 ≤ n := by
    have : 0 ≤ n ∧ n ≤ 18446744073709551615 := by simpa [Lit.wf, IntKind.min, IntKind.max, IntKind.signed, IntKind.bits] using h
    exact this.1
  exact ⟨n.toNat, (Int.toNat_of_nonneg h2).symm⟩
theorem trod_time {fuel : Nat} {cs : List Value} {x : DataW H × List MemPlace} (h : DataW.trod enc Tryz.prog w base spare held fuel 36 cs = some x) : ∃ t : Tm, cs = t.cells := by
  obtain ⟨xs, n, _, _, hlen, hxs, hf⟩ := DataW.trod_struct Tryz.underlying36 h
  have hc : Tryz.prog.cellsOf 36 = 3 := by kernel_rfl
  have hc1 : Tryz.prog.cellsOf 33 = 1 := by kernel_rfl
  have hc2 : Tryz.prog.cellsOf 34 = 2 := by kernel_rfl
  rw [hc] at hlen
  match cs, hlen with
  | [c0, c1, c2], _ =>
    have h0 := hf 0 _ rfl
    have h1 := hf 1 _ rfl
    match xs, hxs with
    | [y0, y1], _ =>
      simp only [hc1, hc2, List.drop_zero, List.take_succ_cons, List.take_zero, List.drop_succ_cons, List.getElem?_cons_zero, List.getElem?_cons_succ] at h0 h1
      obtain ⟨n0, e0, _, w0⟩ := DataW.trod_int Tryz.underlying33 h0
      obtain ⟨zs, m, _, _, _, hzs, hg⟩ := DataW.trod_array Tryz.underlying34 h1
      match zs, hzs with
      | [z0, z1], _ =>
        have k0 := hg 0 (by omega)
        have k1 := hg 1 (by omega)
        simp only [hc1, Nat.zero_mul, Nat.one_mul, List.drop_zero, List.take_succ_cons, List.take_zero, List.drop_succ_cons, List.getElem?_cons_zero, List.getElem?_cons_succ] at k0 k1
        obtain ⟨n1, e1, _, w1⟩ := DataW.trod_int Tryz.underlying33 k0
        obtain ⟨n2, e2, _, w2⟩ := DataW.trod_int Tryz.underlying33 k1
        obtain ⟨m0, rfl⟩ := wf_nat w0
        obtain ⟨m1, rfl⟩ := wf_nat w1
        obtain ⟨m2, rfl⟩ := wf_nat w2
        obtain rfl := (List.cons.inj e0).1
        obtain rfl := (List.cons.inj e1).1
        obtain rfl := (List.cons.inj e2).1
        exact ⟨⟨m0, m1, m2⟩, rfl⟩
end
end Go.Proofs.YthpjkikfadfgeaaGreat
namespace Go.Proofs.YthpjkikfadfgeaaGreat
open Go Go.RowKit

def RowsAt (w : World) (B : Nat) (A : Option Addr) (L : List (List Vl)) : Prop :=
  0 < L.length → ∃ b o, A = some ⟨b, o, none⟩ ∧ b < B ∧ ∀ (i : Nat) (l : List Vl), L[i]? = some l → ∃ A' c', w.cell? ⟨b, o + i, none⟩ = some (.slice A' l.length c') ∧ Vals w B A' l
section
variable {w w' : World} {B B' : Nat} {A : Option Addr} {L : List (List Vl)}
theorem RowsAt.past (h : RowsAt w B A L) (hb : Below B' w w') (hB : B ≤ B') : RowsAt w' B A L := fun hn => by
  obtain ⟨b, o, e, hlt, hc⟩ := h hn
  refine ⟨b, o, e, hlt, fun i l hi => ?_⟩
  obtain ⟨A', c', h1, h2⟩ := hc i l hi
  exact ⟨A', c', (hb.cell (p := ⟨b, o + i, none⟩) (show b < B' by omega)).trans h1, h2.past hb hB⟩
theorem RowsAt.wide (h : RowsAt w B A L) (hB : B ≤ B') : RowsAt w B' A L := fun hn => by
  obtain ⟨b, o, e, hlt, hc⟩ := h hn
  refine ⟨b, o, e, by omega, fun i l hi => ?_⟩
  obtain ⟨A', c', h1, h2⟩ := hc i l hi
  exact ⟨A', c', h1, h2.wide hB⟩
end
def lens (L : List (List Vl)) : Nat := (L.map List.length).sum
end Go.Proofs.YthpjkikfadfgeaaGreat
namespace Go.Proofs.YthpjkikfadfgeaaGreat
open Go Go.RowKit Go.ChangeShapes Go.WideShapes Go.ChangeAt Go.Deep

set_option maxRecDepth 100000
section
variable {H : Type} {enc : TypeId × Value → H} {w : World} {base : Nat} {spare : Nat → Bool} {held : Bool}
set_option maxRecDepth 100000 in
theorem trod_val {fuel : Nat} {cs : List Value} {x : DataW H × List MemPlace} (h : DataW.trod enc Tryz.prog w base spare held fuel 40 cs = some x) : ∃ v : Vl, cs = v.cells ∧ VOk v := by
  obtain ⟨xs, n, _, _, hlen, hxs, hf⟩ := DataW.trod_struct Tryz.underlying40 h
  have hc : Tryz.prog.cellsOf 40 = 3 := by kernel_rfl
  have hcb : Tryz.prog.cellsOf 4 = 1 := by kernel_rfl
  have hci : Tryz.prog.cellsOf 2 = 1 := by kernel_rfl
  have hcs : Tryz.prog.cellsOf 9 = 1 := by kernel_rfl
  rw [hc] at hlen
  match cs, hlen with
  | [c0, c1, c2], _ =>
    have h0 := hf 0 _ rfl
    have h1 := hf 1 _ rfl
    have h2 := hf 2 _ rfl
    match xs, hxs with
    | [y0, y1, y2], _ =>
      simp only [hcb, hci, hcs, List.drop_zero, List.take_succ_cons, List.take_zero, List.drop_succ_cons, List.getElem?_cons_zero, List.getElem?_cons_succ] at h0 h1 h2
      obtain ⟨n0, e0, _⟩ := DataW.trod_bool Tryz.underlying4 h0
      obtain ⟨n1, e1, _, w1⟩ := DataW.trod_int Tryz.underlying2 h1
      obtain ⟨n2, e2, _, w2⟩ := DataW.trod_string Tryz.underlying9 h2
      obtain rfl := (List.cons.inj e0).1
      obtain rfl := (List.cons.inj e1).1
      obtain rfl := (List.cons.inj e2).1
      exact ⟨⟨n0, n1, n2⟩, rfl, w2, wf_i64 w1⟩
theorem open_rowC {fuel : Nat} {cs : List Value} {x : DataW H × List MemPlace} (h : DataW.trod enc Tryz.prog w base spare held fuel 32 cs = some x) :
    ∃ (A : Option Addr) (c : Nat) (l : List Vl), cs = [.slice A l.length c] ∧ Vals w w.heap.size A l ∧ (∀ v ∈ l, VOk v) ∧ l.length ≤ Rows.uptoBulk x.1 := by
  obtain ⟨A, c, l, bs, e, h1, h2, h3, h4, h5, h6, h7⟩ := open_list_bulk (size := 3) (cells := Vl.cells) (OK := fun v _ => VOk v) Tryz.underlying32 (by kernel_rfl) (fun _ => by simp [Vl.cells]) (fun {n cs x} _ ht => trod_val ht) h
  have := len_le_sum h6
  refine ⟨A, c, l, e, vals_of_lies h3, fun v hv => ?_, by omega⟩
  obtain ⟨i, hi⟩ := List.getElem?_of_mem hv
  exact (h7 i v hi).elim fun _ h => h.2
def UIs (w : World) (u : Up) (b : Nat) : Prop := UIn w w.heap.size u ∧ (b ≤ 1048576 → UOk u)
end
end Go.Proofs.YthpjkikfadfgeaaGreat
namespace Go.Proofs.YthpjkikfadfgeaaGreat
open Go Go.RowKit Go.ChangeShapes Go.WideShapes Go.ChangeAt Go.Deep

set_option maxRecDepth 100000
section
variable {H : Type} {enc : TypeId × Value → H} {w : World} {base : Nat} {spare : Nat → Bool} {held : Bool}
theorem open_timesC {fuel : Nat} {cs : List Value} {x : DataW H × List MemPlace} (h : DataW.trod enc Tryz.prog w base spare held fuel 23 cs = some x) :
    ∃ (A : Option Addr) (c : Nat) (l : List Tm), cs = [.slice A l.length c] ∧ l.length ≤ c ∧ c ≤ maxLen ∧ Times w w.heap.size A l ∧ l.length ≤ Rows.uptoBulk x.1 := by
  obtain ⟨A, c, l, bs, e, h1, h2, h3, h4, h5, h6, h7⟩ := open_list_bulk (size := 3) (cells := Tm.cells) (OK := fun _ _ => True) Tryz.underlying23 (by kernel_rfl) (fun _ => by simp [Tm.cells]) (fun {n cs x} _ ht => (trod_time ht).elim fun t e => ⟨t, e, trivial⟩) h
  have := len_le_sum h6
  exact ⟨A, c, l, e, h1, h2, times_lies h3, by omega⟩
end
end Go.Proofs.YthpjkikfadfgeaaGreat
