/- The evaluation of an expression: two compared. -/
import Derived.Test.YtjidjpmdmcleoaaEEvA
import Derived.Test.YtjidjpmdmcleoaaVCompare
namespace Go.Proofs.Ytjidjpmdmcleoaa
open Go Go.RowKit

theorem own_put3 {w : World} {P : Nat} {t : TypeId} {x y z : Value} (h : Own w P t [x, y, z]) (a b c : Value) : Own (((w.setCell ⟨P, 0, none⟩ a).setCell ⟨P, 1, none⟩ b).setCell ⟨P, 2, none⟩ c) P t [a, b, c] := ((h.set_ 0 a).set_ 1 b).set_ 2 c
theorem own_put3_other {w : World} {P Q : Nat} {t : TypeId} {l : List Value} (h : Own w Q t l) (hn : P ≠ Q) (a b c : Value) : Own (((w.setCell ⟨P, 0, none⟩ a).setCell ⟨P, 1, none⟩ b).setCell ⟨P, 2, none⟩ c) Q t l :=
  ((h.other (p := ⟨P, 0, none⟩) hn a).other (p := ⟨P, 1, none⟩) hn b).other (p := ⟨P, 2, none⟩) hn c
theorem own_putz {w : World} {P : Nat} {t : TypeId} (h : Own w P t [.bool false, .int .i64 0, .string ⟨#[]⟩]) (a b c : Value) : Own (((w.setCell ⟨P, 0, none⟩ a).setCell ⟨P, 1, none⟩ b).setCell ⟨P, 2, none⟩ c) P t [a, b, c] := own_put3 h a b c
theorem own_at {w : World} {N : Nat} {t : TypeId} {l : List Value} (hN : w.heap.size = N) : Own (w.alloc (.cells l.toArray t)) N t l := by subst hN; exact Own.made w t l
theorem own_grown {w w' : World} {g k : Nat} {t : TypeId} {l : List Value} (hg : w.grownBy w' (some g)) (h : Own w k t l) (hn : k ≠ g) : Own w' k t l := (hg.block k h.inside (by simpa using hn)).trans h
theorem own_drew {w : World} {k : Nat} {t : TypeId} {l : List Value} (h : Own w k t l) : Own w.drew k t l := h
/-- the two kids that are loaded, at a world in which nothing but block g has turned -/
theorem kids_read {W w' : World} {g N b o o' : Nat} {l : List Value} {e k k' : Lx} (h : Upd W w' g 71 l) (hN : Own W N 27 e.cells) (hNg : N ≠ g) (hk : LxAt W b o k) (hk' : LxAt W b o' k') (hb : b < g) (hg : g ≤ W.heap.size) :
    (∃ l, Upd W w' g 71 l) ∧ w'.cell? ⟨N, 5, none⟩ = some (.slice e.A e.kids.length e.cap) ∧
      (w'.cell? ⟨b, o, none⟩ = some (.int .u8 k.op) ∧ w'.cell? ⟨b, o + 1, none⟩ = some (.int .i64 k.col) ∧ w'.cell? ⟨b, o + 2, none⟩ = some (.bool k.c.t) ∧
      w'.cell? ⟨b, o + 3, none⟩ = some (.int .i64 k.c.n) ∧ w'.cell? ⟨b, o + 4, none⟩ = some (.string k.c.s) ∧ w'.cell? ⟨b, o + 5, none⟩ = some (.slice k.A k.kids.length k.cap)) ∧
      (w'.cell? ⟨b, o', none⟩ = some (.int .u8 k'.op) ∧ w'.cell? ⟨b, o' + 1, none⟩ = some (.int .i64 k'.col) ∧ w'.cell? ⟨b, o' + 2, none⟩ = some (.bool k'.c.t) ∧
      w'.cell? ⟨b, o' + 3, none⟩ = some (.int .i64 k'.c.n) ∧ w'.cell? ⟨b, o' + 4, none⟩ = some (.string k'.c.s) ∧ w'.cell? ⟨b, o' + 5, none⟩ = some (.slice k'.A k'.kids.length k'.cap)) :=
  ⟨⟨l, h⟩, (h.other hNg hN).at_ 5, (hk.past (h.below (Nat.le_refl _) hg) hb).six, (hk'.past (h.below (Nat.le_refl _) hg) hb).six⟩
theorem grown_olds {w w' : World} {g : Nat} (h : w.grownBy w' (some g)) : (∀ b o, b < w.heap.size → b ≠ g → w'.cell? ⟨b, o, none⟩ = w.cell? ⟨b, o, none⟩) ∧ (∀ b o, b < w.heap.size → b ≠ g → w'.frozen? ⟨b, o, none⟩ = w.frozen? ⟨b, o, none⟩) :=
  ⟨fun b o hb hn => by simp [World.cell?, h.block b hb (by simpa using hn)], fun b o hb hn => by simp [World.frozen?, h.block b hb (by simpa using hn)]⟩
theorem ne_of_upd {W w' : World} {g : Nat} {t : TypeId} {l : List Value} (h : Upd W w' g t l) (hg : g < W.heap.size) : w'.heap.size ≠ g ∧ w'.heap.size + 1 ≠ g := by have := h.grow.size; omega
theorem cell_alloc_ne (w : World) (o : Obj) (b k : Nat) (h : b ≠ w.heap.size) : (w.alloc o).cell? ⟨b, k, none⟩ = w.cell? ⟨b, k, none⟩ := by
  by_cases hb : b < w.heap.size
  · simp [World.cell?, Below.heap_alloc w o b hb]
  · have h1 : w.heap[b]? = none := by rw [Array.getElem?_eq_none_iff]; omega
    have h2 : (w.alloc o).heap[b]? = none := by rw [Array.getElem?_eq_none_iff, World.size_alloc]; omega
    simp [World.cell?, h1, h2]
theorem frozen_alloc_ne (w : World) (o : Obj) (b k : Nat) (h : b ≠ w.heap.size) : (w.alloc o).frozen? ⟨b, k, none⟩ = w.frozen? ⟨b, k, none⟩ := by
  by_cases hb : b < w.heap.size
  · simp [World.frozen?, Below.heap_alloc w o b hb]
  · have h1 : w.heap[b]? = none := by rw [Array.getElem?_eq_none_iff]; omega
    have h2 : (w.alloc o).heap[b]? = none := by rw [Array.getElem?_eq_none_iff, World.size_alloc]; omega
    simp [World.frozen?, h1, h2]
attribute [local go_sem] cell_alloc_ne
attribute [local go_sem] frozen_alloc_ne
def ExU (W w' : World) (g : Nat) : Prop := ∃ l, Upd W w' g 71 l
theorem ExU.mk {W w' : World} {g : Nat} {l : List Value} (h : Upd W w' g 71 l) : ExU W w' g := ⟨l, h⟩
theorem ExU.more {W w' : World} {g : Nat} (h : ExU W w' g) (o : Obj) : ExU W (w'.alloc o) g := let ⟨_, k⟩ := h; ⟨_, k.more o⟩
theorem ExU.drew {W w' : World} {g : Nat} (h : ExU W w' g) : ExU W w'.drew g := let ⟨_, k⟩ := h; ⟨_, k.drew⟩
theorem ExU.put {W w' : World} {g : Nat} (h : ExU W w' g) {p : Addr} (hp : W.heap.size ≤ p.block) (hg : g < W.heap.size) (u : Value) : ExU W (w'.setCell p u) g := let ⟨_, k⟩ := h; ⟨_, k.put hp hg u⟩
set_option maxRecDepth 100000 in
set_option maxHeartbeats 16000000 in
theorem compare2_any (row : List Vl) (A : Option Addr) (c n : Nat) (hE : EvC row A c n) (e : Lx) (u : Int) (g : Nat) (w : World) (ht : Te (n + 1) e w g) (h2 : e.kids.length = 2) (hr : RowIn row A w g) (ho : Own w g 71 (evL u A row.length c)) :
    Calls Try.prog 55 #[.pointer (some ⟨g, 0, none⟩), e.val] w fun x w' =>
      x = .returned (.int .i64 (cp (ev row n) e u).1) ∧ Upd w w' g 71 (evL (cp (ev row n) e u).2 A row.length c) := by
  have hg := ho.inside
  obtain ⟨W, hW, fb, hs, fk⟩ := lxbox w e
  obtain ⟨b, o, hA, hB, hk0⟩ := ht.at_ (i := 0) (by omega)
  obtain ⟨b', o', hA', _, hk1⟩ := ht.at_ (i := 1) (by omega)
  rw [hA] at hA'
  simp only [Option.some.injEq, Addr.mk.injEq, and_true] at hA'
  obtain ⟨rfl, rfl⟩ := hA'
  rw [Nat.zero_mul, Nat.add_zero] at hk0
  rw [Nat.one_mul] at hk1
  have fg := fb.mono (show g ≤ w.heap.size by omega)
  have hk0 := hk0.past fg hB
  have hk1 := hk1.past fg hB
  have HW := Lib.hid (Upd.after fb (Upd.same (ho.past fb hg)))
  have hgW : g < W.heap.size := by omega
  have hrw := hr.past fg
  have ht0 := (ht.sub (i := 0) (by omega)).past fg
  have ht1 := (ht.sub (i := 1) (by omega)).past fg
  have HR := fun w' (h : ExU W w' g) => Lib.hid (kids_read h.choose_spec fk (by omega) hk0 hk1 hB (by omega))
  have hc0 : ∀ w', Upd W w' g 71 (evL u A row.length c) → Hid (Calls Try.prog 28 #[.pointer (some ⟨g, 0, none⟩), (kid e 0).val] w' fun x w'' => x = .returned (ev row n (kid e 0) u).1.val ∧ Upd W w'' g 71 (evL (ev row n (kid e 0) u).2 A row.length c) ∧ w'.grownBy w'' (some g)) :=
    fun w' h => Lib.hid ((hE (kid e 0) u g w' (ht0.past (h.below (Nat.le_refl _) (by omega))) (hrw.past (h.below (Nat.le_refl _) (by omega))) h.own).mono fun x w'' k => ⟨k.1, h.trans k.2, k.2.grow⟩)
  have hc1 : ∀ w', Upd W w' g 71 (evL (ev row n (kid e 0) u).2 A row.length c) → Hid (Calls Try.prog 28 #[.pointer (some ⟨g, 0, none⟩), (kid e 1).val] w' fun x w'' => x = .returned (ev row n (kid e 1) (ev row n (kid e 0) u).2).1.val ∧ Upd W w'' g 71 (evL (ev row n (kid e 1) (ev row n (kid e 0) u).2).2 A row.length c) ∧ w'.grownBy w'' (some g)) :=
    fun w' h => Lib.hid ((hE (kid e 1) (ev row n (kid e 0) u).2 g w' (ht1.past (h.below (Nat.le_refl _) (by omega))) (hrw.past (h.below (Nat.le_refl _) (by omega))) h.own).mono fun x w'' k => ⟨k.1, h.trans k.2, k.2.grow⟩)
  have HU := Lib.hid (Upd.same (ho.past fb hg))
  have h0 := HR W (ExU.mk (Upd.same (ho.past fb hg)))
  rw [hA, h2] at HR h0
  have HS := Lib.hid h0.out
  have Hcp := Lib.hid (show cp (ev row n) e u = ((ev row n (kid e 0) u).1.cmp (ev row n (kid e 1) (ev row n (kid e 0) u).2).1, if (ev row n (kid e 0) u).1.t != (ev row n (kid e 1) (ev row n (kid e 0) u).2).1.t then fl (ev row n (kid e 1) (ev row n (kid e 0) u).2).2 11 else (ev row n (kid e 1) (ev row n (kid e 0) u).2).2) from rfl)
  generalize hq : cp (ev row n) e u = q at *
  generalize ev row n (kid e 0) u = p at *
  generalize ev row n (kid e 1) p.2 = r at *
  obtain ⟨x, u1⟩ := p
  obtain ⟨y, u2⟩ := r
  unfold Lx.val at *
  rw [hA, h2]
  unfold Vl.val at hc0 hc1
  dsimp only at hc0 hc1 Hcp
  clear ht hr ho hE fk hk0 hk1 fb fg hrw ht0 ht1 h0 hq
  go_enter Try.func55, Try.ntmps55
  rw [hA, h2] at hW
  go_upto_region 1 with fail
  rw [← hW]
  clear hW hA h2
  go_cut [5, 6] (fun s5 s6 wx => ∃ P Q : Nat, s5 = .pointer (some ⟨P, 0, none⟩) ∧ s6 = .pointer (some ⟨Q, 0, none⟩) ∧ Upd W wx g 71 (evL u2 A row.length c) ∧ Own wx P 24 x.cells ∧ Own wx Q 24 y.cells ∧ g < P ∧ g < Q)
  case first =>
    obtain ⟨hh0, hh1, hh2, hh3⟩ := HS.out
    have Hs := Lib.hid hs
    clear hs
    have hm1 : W.heap.size ≠ g := by omega
    have hm2 : W.heap.size + 1 ≠ g := by omega
    go_region_held3 (fun w' => (∃ l, Upd W w' g 71 l) ∧ w'.cell? ⟨w.heap.size, 5, none⟩ = some (.slice (some ⟨b, o, none⟩) 2 e.cap) ∧
      (w'.cell? ⟨b, o, none⟩ = some (.int .u8 (kid e 0).op) ∧ w'.cell? ⟨b, o + 1, none⟩ = some (.int .i64 (kid e 0).col) ∧ w'.cell? ⟨b, o + 2, none⟩ = some (.bool (kid e 0).c.t) ∧
      w'.cell? ⟨b, o + 3, none⟩ = some (.int .i64 (kid e 0).c.n) ∧ w'.cell? ⟨b, o + 4, none⟩ = some (.string (kid e 0).c.s) ∧ w'.cell? ⟨b, o + 5, none⟩ = some (.slice (kid e 0).A (kid e 0).kids.length (kid e 0).cap)) ∧
      (w'.cell? ⟨b, o + 6, none⟩ = some (.int .u8 (kid e 1).op) ∧ w'.cell? ⟨b, o + 6 + 1, none⟩ = some (.int .i64 (kid e 1).col) ∧ w'.cell? ⟨b, o + 6 + 2, none⟩ = some (.bool (kid e 1).c.t) ∧
      w'.cell? ⟨b, o + 6 + 3, none⟩ = some (.int .i64 (kid e 1).c.n) ∧ w'.cell? ⟨b, o + 6 + 4, none⟩ = some (.string (kid e 1).c.s) ∧ w'.cell? ⟨b, o + 6 + 5, none⟩ = some (.slice (kid e 1).A (kid e 1).kids.length (kid e 1).cap)))
      ((refine (HR _ ?_).out; repeat (first | with_reducible exact ExU.mk HU.out | with_reducible exact ExU.mk hu2 | with_reducible exact ExU.mk hu1 | with_reducible refine ExU.more ?_ _ | with_reducible refine ExU.drew ?_ | with_reducible refine ExU.put ?_ (by first | (simp; done) | (simp; omega) | (have z1 := hu1.grow.size; simp; omega) | (have z2 := hu2.grow.size; simp; omega)) hgW _)))
      (first | (go_at_call 28; with_reducible refine (hc0 _ ?_).out.mono ?_; (repeat (first | with_reducible exact HU.out | with_reducible exact hu2 | with_reducible exact hu1 | with_reducible refine Upd.more ?_ _ | with_reducible refine Upd.drew ?_ | with_reducible refine Upd.put ?_ (by first | (simp; done) | (simp; omega) | (have z1 := hu1.grow.size; simp; omega) | (have z2 := hu2.grow.size; simp; omega)) hgW _)); rintro _ w1 ⟨rfl, hu1, hg1⟩; obtain ⟨hc1_, hf1_⟩ := grown_olds hg1; obtain ⟨hn1_, hn2_⟩ := ne_of_upd hu1 hgW; have hz1_ := hg1.size; (try simp at hz1_); (try (have hl0 : W.heap.size < w1.heap.size := by omega)); (try (have hl1 : W.heap.size + 1 < w1.heap.size := by omega)); (try (have ha0a : W.heap.size ≠ w1.heap.size := by omega)); (try (have ha0b : w1.heap.size ≠ W.heap.size := by omega)); (try (have ha1a : W.heap.size + 1 ≠ w1.heap.size := by omega)); (try (have ha1b : w1.heap.size ≠ W.heap.size + 1 := by omega)); (try (have kc00 : w1.cell? ⟨W.heap.size, 0, none⟩ = some (.bool false) := (by rw [hc1_ _ _ (by first | omega | (simp; done) | (simp; omega)) hm1]; first | exact rfl | (simp [go_sem, *]; done)))); (try (have kf00 : w1.frozen? ⟨W.heap.size, 0, none⟩ = false := (by rw [hf1_ _ _ (by first | omega | (simp; done) | (simp; omega)) hm1]; first | exact rfl | (simp [go_sem, *]; done)))); (try (have kc01 : w1.cell? ⟨W.heap.size, 1, none⟩ = some (.int .i64 0) := (by rw [hc1_ _ _ (by first | omega | (simp; done) | (simp; omega)) hm1]; first | exact rfl | (simp [go_sem, *]; done)))); (try (have kf01 : w1.frozen? ⟨W.heap.size, 1, none⟩ = false := (by rw [hf1_ _ _ (by first | omega | (simp; done) | (simp; omega)) hm1]; first | exact rfl | (simp [go_sem, *]; done)))); (try (have kc02 : w1.cell? ⟨W.heap.size, 2, none⟩ = some (.string ⟨#[]⟩) := (by rw [hc1_ _ _ (by first | omega | (simp; done) | (simp; omega)) hm1]; first | exact rfl | (simp [go_sem, *]; done)))); (try (have kf02 : w1.frozen? ⟨W.heap.size, 2, none⟩ = false := (by rw [hf1_ _ _ (by first | omega | (simp; done) | (simp; omega)) hm1]; first | exact rfl | (simp [go_sem, *]; done)))); (try (have kc10 : w1.cell? ⟨W.heap.size + 1, 0, none⟩ = some (.bool false) := (by rw [hc1_ _ _ (by first | omega | (simp; done) | (simp; omega)) hm2]; first | exact rfl | (simp [go_sem, *]; done)))); (try (have kf10 : w1.frozen? ⟨W.heap.size + 1, 0, none⟩ = false := (by rw [hf1_ _ _ (by first | omega | (simp; done) | (simp; omega)) hm2]; first | exact rfl | (simp [go_sem, *]; done)))); (try (have kc11 : w1.cell? ⟨W.heap.size + 1, 1, none⟩ = some (.int .i64 0) := (by rw [hc1_ _ _ (by first | omega | (simp; done) | (simp; omega)) hm2]; first | exact rfl | (simp [go_sem, *]; done)))); (try (have kf11 : w1.frozen? ⟨W.heap.size + 1, 1, none⟩ = false := (by rw [hf1_ _ _ (by first | omega | (simp; done) | (simp; omega)) hm2]; first | exact rfl | (simp [go_sem, *]; done)))); (try (have kc12 : w1.cell? ⟨W.heap.size + 1, 2, none⟩ = some (.string ⟨#[]⟩) := (by rw [hc1_ _ _ (by first | omega | (simp; done) | (simp; omega)) hm2]; first | exact rfl | (simp [go_sem, *]; done)))); (try (have kf12 : w1.frozen? ⟨W.heap.size + 1, 2, none⟩ = false := (by rw [hf1_ _ _ (by first | omega | (simp; done) | (simp; omega)) hm2]; first | exact rfl | (simp [go_sem, *]; done)))); clear hc1_ hf1_) | (go_at_call 28; with_reducible refine (hc1 _ ?_).out.mono ?_; (repeat (first | with_reducible exact HU.out | with_reducible exact hu2 | with_reducible exact hu1 | with_reducible refine Upd.more ?_ _ | with_reducible refine Upd.drew ?_ | with_reducible refine Upd.put ?_ (by first | (simp; done) | (simp; omega) | (have z1 := hu1.grow.size; simp; omega) | (have z2 := hu2.grow.size; simp; omega)) hgW _)); rintro _ w2 ⟨rfl, hu2, hg2⟩; obtain ⟨hc3_, hf3_⟩ := grown_olds hg2; obtain ⟨hn3_, hn4_⟩ := ne_of_upd hu2 hgW; have hz2_ := hg2.size; (try simp at hz2_); (try (have hb0a : w1.heap.size ≠ w2.heap.size := by omega)); (try (have hb0b : w2.heap.size ≠ w1.heap.size := by omega)); (try (have hb1a : w1.heap.size + 1 ≠ w2.heap.size := by omega)); (try (have hb1b : w2.heap.size ≠ w1.heap.size + 1 := by omega)); (try (have hb2a : W.heap.size ≠ w2.heap.size := by omega)); (try (have hb2b : w2.heap.size ≠ W.heap.size := by omega)); (try (have hb3a : W.heap.size + 1 ≠ w2.heap.size := by omega)); (try (have hb3b : w2.heap.size ≠ W.heap.size + 1 := by omega)); (try (have lc00 : w2.cell? ⟨W.heap.size, 0, none⟩ = some (.bool false) := (by rw [hc3_ _ _ (by first | omega | (simp; done) | (simp; omega)) hm1]; first | exact kc00 | (simp [go_sem, *]; done)))); (try (have lf00 : w2.frozen? ⟨W.heap.size, 0, none⟩ = false := (by rw [hf3_ _ _ (by first | omega | (simp; done) | (simp; omega)) hm1]; first | exact kf00 | (simp [go_sem, *]; done)))); (try (have lc01 : w2.cell? ⟨W.heap.size, 1, none⟩ = some (.int .i64 0) := (by rw [hc3_ _ _ (by first | omega | (simp; done) | (simp; omega)) hm1]; first | exact kc01 | (simp [go_sem, *]; done)))); (try (have lf01 : w2.frozen? ⟨W.heap.size, 1, none⟩ = false := (by rw [hf3_ _ _ (by first | omega | (simp; done) | (simp; omega)) hm1]; first | exact kf01 | (simp [go_sem, *]; done)))); (try (have lc02 : w2.cell? ⟨W.heap.size, 2, none⟩ = some (.string ⟨#[]⟩) := (by rw [hc3_ _ _ (by first | omega | (simp; done) | (simp; omega)) hm1]; first | exact kc02 | (simp [go_sem, *]; done)))); (try (have lf02 : w2.frozen? ⟨W.heap.size, 2, none⟩ = false := (by rw [hf3_ _ _ (by first | omega | (simp; done) | (simp; omega)) hm1]; first | exact kf02 | (simp [go_sem, *]; done)))); (try (have lc10 : w2.cell? ⟨W.heap.size + 1, 0, none⟩ = some (.bool false) := (by rw [hc3_ _ _ (by first | omega | (simp; done) | (simp; omega)) hm2]; first | exact kc10 | (simp [go_sem, *]; done)))); (try (have lf10 : w2.frozen? ⟨W.heap.size + 1, 0, none⟩ = false := (by rw [hf3_ _ _ (by first | omega | (simp; done) | (simp; omega)) hm2]; first | exact kf10 | (simp [go_sem, *]; done)))); (try (have lc11 : w2.cell? ⟨W.heap.size + 1, 1, none⟩ = some (.int .i64 0) := (by rw [hc3_ _ _ (by first | omega | (simp; done) | (simp; omega)) hm2]; first | exact kc11 | (simp [go_sem, *]; done)))); (try (have lf11 : w2.frozen? ⟨W.heap.size + 1, 1, none⟩ = false := (by rw [hf3_ _ _ (by first | omega | (simp; done) | (simp; omega)) hm2]; first | exact kf11 | (simp [go_sem, *]; done)))); (try (have lc12 : w2.cell? ⟨W.heap.size + 1, 2, none⟩ = some (.string ⟨#[]⟩) := (by rw [hc3_ _ _ (by first | omega | (simp; done) | (simp; omega)) hm2]; first | exact kc12 | (simp [go_sem, *]; done)))); (try (have lf12 : w2.frozen? ⟨W.heap.size + 1, 2, none⟩ = false := (by rw [hf3_ _ _ (by first | omega | (simp; done) | (simp; omega)) hm2]; first | exact kf12 | (simp [go_sem, *]; done)))); (try (have lc20 : w2.cell? ⟨w1.heap.size, 0, none⟩ = some (.bool false) := (by rw [hc3_ _ _ (by first | omega | (simp; done) | (simp; omega)) hn1_]; first | exact rfl | (simp [go_sem, *]; done)))); (try (have lf20 : w2.frozen? ⟨w1.heap.size, 0, none⟩ = false := (by rw [hf3_ _ _ (by first | omega | (simp; done) | (simp; omega)) hn1_]; first | exact rfl | (simp [go_sem, *]; done)))); (try (have lc21 : w2.cell? ⟨w1.heap.size, 1, none⟩ = some (.int .i64 0) := (by rw [hc3_ _ _ (by first | omega | (simp; done) | (simp; omega)) hn1_]; first | exact rfl | (simp [go_sem, *]; done)))); (try (have lf21 : w2.frozen? ⟨w1.heap.size, 1, none⟩ = false := (by rw [hf3_ _ _ (by first | omega | (simp; done) | (simp; omega)) hn1_]; first | exact rfl | (simp [go_sem, *]; done)))); (try (have lc22 : w2.cell? ⟨w1.heap.size, 2, none⟩ = some (.string ⟨#[]⟩) := (by rw [hc3_ _ _ (by first | omega | (simp; done) | (simp; omega)) hn1_]; first | exact rfl | (simp [go_sem, *]; done)))); (try (have lf22 : w2.frozen? ⟨w1.heap.size, 2, none⟩ = false := (by rw [hf3_ _ _ (by first | omega | (simp; done) | (simp; omega)) hn1_]; first | exact rfl | (simp [go_sem, *]; done)))); (try (have lc30 : w2.cell? ⟨w1.heap.size + 1, 0, none⟩ = some (.bool false) := (by rw [hc3_ _ _ (by first | omega | (simp; done) | (simp; omega)) hn2_]; first | exact rfl | (simp [go_sem, *]; done)))); (try (have lf30 : w2.frozen? ⟨w1.heap.size + 1, 0, none⟩ = false := (by rw [hf3_ _ _ (by first | omega | (simp; done) | (simp; omega)) hn2_]; first | exact rfl | (simp [go_sem, *]; done)))); (try (have lc31 : w2.cell? ⟨w1.heap.size + 1, 1, none⟩ = some (.int .i64 0) := (by rw [hc3_ _ _ (by first | omega | (simp; done) | (simp; omega)) hn2_]; first | exact rfl | (simp [go_sem, *]; done)))); (try (have lf31 : w2.frozen? ⟨w1.heap.size + 1, 1, none⟩ = false := (by rw [hf3_ _ _ (by first | omega | (simp; done) | (simp; omega)) hn2_]; first | exact rfl | (simp [go_sem, *]; done)))); (try (have lc32 : w2.cell? ⟨w1.heap.size + 1, 2, none⟩ = some (.string ⟨#[]⟩) := (by rw [hc3_ _ _ (by first | omega | (simp; done) | (simp; omega)) hn2_]; first | exact rfl | (simp [go_sem, *]; done)))); (try (have lf32 : w2.frozen? ⟨w1.heap.size + 1, 2, none⟩ = false := (by rw [hf3_ _ _ (by first | omega | (simp; done) | (simp; omega)) hn2_]; first | exact rfl | (simp [go_sem, *]; done)))); clear hc3_ hf3_))
    all_goals
      go_wp2_with fail
      go_meet
      refine ⟨_, _, rfl, rfl, ?_, ?_, ?_, ?_, ?_⟩
      · repeat (first | with_reducible exact HU.out | with_reducible exact hu2 | with_reducible exact hu1 | with_reducible refine Upd.more ?_ _ | with_reducible refine Upd.drew ?_ | with_reducible refine Upd.put ?_ (by first | (simp; done) | (simp; omega) | (have z1 := hu1.grow.size; simp; omega) | (have z2 := hu2.grow.size; simp; omega)) hgW _)
      · show Own _ _ _ [.bool x.t, .int .i64 x.n, .string x.s]
        repeat (first | (with_reducible refine own_at ?_; (simp; done)) | with_reducible refine own_putz ?_ _ _ _ | with_reducible refine own_put3_other ?_ (by omega) _ _ _ | with_reducible refine Own.more ?_ _ | with_reducible refine own_drew ?_ | with_reducible refine own_grown hg2 ?_ (by omega) | with_reducible refine own_grown hg1 ?_ (by omega))
      · show Own _ _ _ [.bool y.t, .int .i64 y.n, .string y.s]
        repeat (first | (with_reducible refine own_at ?_; (simp; done)) | with_reducible refine own_putz ?_ _ _ _ | with_reducible refine own_put3_other ?_ (by omega) _ _ _ | with_reducible refine Own.more ?_ _ | with_reducible refine own_drew ?_ | with_reducible refine own_grown hg2 ?_ (by omega) | with_reducible refine own_grown hg1 ?_ (by omega))
      · omega
      · omega
  case rest =>
    obtain ⟨P, Q, rfl, rfl, hu, hP, hQ, hgP, hgQ⟩ := hcut
    have d0 := hP.at_ 0
    have d1 := hP.at_ 1
    have d2 := hP.at_ 2
    have e0 := hQ.at_ 0
    have e1 := hQ.at_ 1
    have e2 := hQ.at_ 2
    simp only [Vl.cells, List.getElem?_cons_zero, List.getElem?_cons_succ] at d0 d1 d2 e0 e1 e2
    have HX := Lib.hid (And.intro (HW.out.trans hu) (And.intro hP hQ))
    have hcmp := fun W => Lib.hid (vcompare_any x y W)
    unfold Vl.val at hcmp
    have hlt := hu.own.inside
    clear hu hP hQ hc0 hc1 HR HS HU
    obtain ⟨xt, xn, xs⟩ := x
    obtain ⟨yt, yn, ys⟩ := y
    dsimp only at d0 d1 d2 e0 e1 e2 hcmp Hcp
    rcases Bool.eq_false_or_eq_true xt with rfl | rfl <;> rcases Bool.eq_false_or_eq_true yt with rfl | rfl
    · go_wp2_with fail
      refine (hcmp _).out.mono ?_
      rintro _ w4 ⟨rfl, b4⟩
      have B4 := Lib.hid (HX.out.1.quiet b4)
      clear b4
      go_wp2_with fail
      go_ret
      have hq := Hcp.out
      rw [hq]
      exact ⟨rfl, B4.out⟩
    · go_wp2_with fail
      refine (fail_any g _ _ 11 _ _ HX.out.1.own).mono ?_
      rintro _ w3 ⟨rfl, u3⟩
      have hP3 := u3.other (by omega) HX.out.2.1
      have hQ3 := u3.other (by omega) HX.out.2.2
      have d0 := hP3.at_ 0
      have d1 := hP3.at_ 1
      have d2 := hP3.at_ 2
      have e0 := hQ3.at_ 0
      have e1 := hQ3.at_ 1
      have e2 := hQ3.at_ 2
      simp only [Vl.cells, List.getElem?_cons_zero, List.getElem?_cons_succ] at d0 d1 d2 e0 e1 e2
      have U3 := Lib.hid (HX.out.1.trans u3)
      clear u3 hP3 hQ3
      go_wp2_with fail
      refine (hcmp _).out.mono ?_
      rintro _ w4 ⟨rfl, b4⟩
      have B4 := Lib.hid (U3.out.quiet b4)
      clear b4
      go_wp2_with fail
      go_ret
      have hq := Hcp.out
      rw [hq]
      exact ⟨rfl, B4.out⟩
    · go_wp2_with fail
      refine (fail_any g _ _ 11 _ _ HX.out.1.own).mono ?_
      rintro _ w3 ⟨rfl, u3⟩
      have hP3 := u3.other (by omega) HX.out.2.1
      have hQ3 := u3.other (by omega) HX.out.2.2
      have d0 := hP3.at_ 0
      have d1 := hP3.at_ 1
      have d2 := hP3.at_ 2
      have e0 := hQ3.at_ 0
      have e1 := hQ3.at_ 1
      have e2 := hQ3.at_ 2
      simp only [Vl.cells, List.getElem?_cons_zero, List.getElem?_cons_succ] at d0 d1 d2 e0 e1 e2
      have U3 := Lib.hid (HX.out.1.trans u3)
      clear u3 hP3 hQ3
      go_wp2_with fail
      refine (hcmp _).out.mono ?_
      rintro _ w4 ⟨rfl, b4⟩
      have B4 := Lib.hid (U3.out.quiet b4)
      clear b4
      go_wp2_with fail
      go_ret
      have hq := Hcp.out
      rw [hq]
      exact ⟨rfl, B4.out⟩
    · go_wp2_with fail
      refine (hcmp _).out.mono ?_
      rintro _ w4 ⟨rfl, b4⟩
      have B4 := Lib.hid (HX.out.1.quiet b4)
      clear b4
      go_wp2_with fail
      go_ret
      have hq := Hcp.out
      rw [hq]
      exact ⟨rfl, B4.out⟩
end Go.Proofs.Ytjidjpmdmcleoaa
