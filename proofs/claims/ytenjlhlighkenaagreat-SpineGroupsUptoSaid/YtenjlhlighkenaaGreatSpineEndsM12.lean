/- Part 12 of the texts on which SpineEnds rests: facts and contracts. -/
import Derived.Test.YtenjlhlighkenaaGreatSpineEndsM11
namespace Go.Proofs.YtenjlhlighkenaaGreat
open Go Go.RowKit

theorem below_grown {W X : World} (h : W.grownBy X none) : Below W.heap.size W X := (Below.refl _ W).grown h (Nat.le_refl _) (fun _ e => by cases e)
theorem Holds.below {B M : Nat} {X Y : World} (h : Below X.heap.size X Y) (hM : M ≤ X.heap.size) : Holds B M X Y := ⟨h.size, fun k _ h2 => h.block k (by omega)⟩
theorem Holds.setc {B M : Nat} (X : World) (p : Addr) (v : Value) (h : p.block < B ∨ M ≤ p.block) : Holds B M X (X.setCell p v) := ⟨by simp, fun k h1 h2 => Below.heap_setCell X p v k (fun e => by omega)⟩
theorem Holds.kept {B M : Nat} {X Y : World} {S : Nat → Prop} (h : KeptK X Y S) (hM : M ≤ X.heap.size) (hS : ∀ k, S k → k < B ∨ M ≤ k) : Holds B M X Y := ⟨h.size, fun k h1 h2 => h.block k (by omega) (fun e => by have := hS k e; omega)⟩
theorem inBlock_two {id : Nat} {Q : Exit → Act → World → Prop} {e : Exit} {a : Act} {X : World} (h : e = .normal ∨ e = .exit id) (hq : Q .normal a X) : Exit.inBlock id Q e a X := by
  rcases h with rfl | rfl
  · exact hq
  · simp only [Exit.inBlock, if_true]
    exact hq
theorem work_world (W : World) (g : Nat) (fuel : Int) : ∃ V, V = ((((((W.alloc (.cells #[.pointer (some ⟨g, 0, none⟩)] 111)).alloc (.cells #[.int .i64 fuel] 3)).alloc (.cells #[.int .i64 0] 3)).alloc (.cells #[.int .i64 0] 35)).alloc (.cells #[.int .i64 0] 3)).alloc (.cells #[.slice none 0 0] 121)).alloc (.cells #[.pointer (some ⟨g, 0, none⟩)] 111) ∧
    W.grownBy V none ∧ V.heap.size = W.heap.size + 7 ∧ Own V W.heap.size 111 [.pointer (some ⟨g, 0, none⟩)] ∧ Own V (W.heap.size + 1) 3 [.int .i64 fuel] ∧ Own V (W.heap.size + 2) 3 [.int .i64 0] ∧ Own V (W.heap.size + 3) 35 [.int .i64 0] ∧
    Own V (W.heap.size + 4) 3 [.int .i64 0] ∧ Own V (W.heap.size + 5) 121 [.slice none 0 0] ∧ Own V (W.heap.size + 6) 111 [.pointer (some ⟨g, 0, none⟩)] := by
  obtain ⟨A, hA⟩ : ∃ A, A = W.alloc (.cells #[.pointer (some ⟨g, 0, none⟩)] 111) := ⟨_, rfl⟩
  obtain ⟨B, hB⟩ : ∃ B, B = A.alloc (.cells #[.int .i64 fuel] 3) := ⟨_, rfl⟩
  obtain ⟨C, hC⟩ : ∃ C, C = B.alloc (.cells #[.int .i64 0] 3) := ⟨_, rfl⟩
  obtain ⟨D, hD⟩ : ∃ D, D = C.alloc (.cells #[.int .i64 0] 35) := ⟨_, rfl⟩
  obtain ⟨E, hE⟩ : ∃ E, E = D.alloc (.cells #[.int .i64 0] 3) := ⟨_, rfl⟩
  obtain ⟨F, hF⟩ : ∃ F, F = E.alloc (.cells #[.slice none 0 0] 121) := ⟨_, rfl⟩
  obtain ⟨V, hV⟩ : ∃ V, V = F.alloc (.cells #[.pointer (some ⟨g, 0, none⟩)] 111) := ⟨_, rfl⟩
  have sA : A.heap.size = W.heap.size + 1 := by rw [hA]; simp
  have sB : B.heap.size = W.heap.size + 2 := by rw [hB]; simp [sA]
  have sC : C.heap.size = W.heap.size + 3 := by rw [hC]; simp [sB]
  have sD : D.heap.size = W.heap.size + 4 := by rw [hD]; simp [sC]
  have sE : E.heap.size = W.heap.size + 5 := by rw [hE]; simp [sD]
  have sF : F.heap.size = W.heap.size + 6 := by rw [hF]; simp [sE]
  have oA : Own A W.heap.size 111 [.pointer (some ⟨g, 0, none⟩)] := by rw [hA]; exact Own.made W _ _
  have oB : Own B (W.heap.size + 1) 3 [.int .i64 fuel] := by rw [hB, ← sA]; exact Own.made A _ _
  have oC : Own C (W.heap.size + 2) 3 [.int .i64 0] := by rw [hC, ← sB]; exact Own.made B _ _
  have oD : Own D (W.heap.size + 3) 35 [.int .i64 0] := by rw [hD, ← sC]; exact Own.made C _ _
  have oE : Own E (W.heap.size + 4) 3 [.int .i64 0] := by rw [hE, ← sD]; exact Own.made D _ _
  have oF : Own F (W.heap.size + 5) 121 [.slice none 0 0] := by rw [hF, ← sE]; exact Own.made E _ _
  have oV : Own V (W.heap.size + 6) 111 [.pointer (some ⟨g, 0, none⟩)] := by rw [hV, ← sF]; exact Own.made F _ _
  have mA : ∀ {X Y : World} {o : Obj} {b : Nat} {t : TypeId} {l : List Value}, Y = X.alloc o → Own X b t l → Own Y b t l := fun e h => by rw [e]; exact h.more _
  refine ⟨V, by rw [hV, hF, hE, hD, hC, hB, hA], ?_, by rw [hV]; simp [sF], mA hV (mA hF (mA hE (mA hD (mA hC (mA hB oA))))), mA hV (mA hF (mA hE (mA hD (mA hC oB)))), mA hV (mA hF (mA hE (mA hD oC))), mA hV (mA hF (mA hE oD)), mA hV (mA hF oE), mA hV oF, oV⟩
  rw [hV, hF, hE, hD, hC, hB, hA]
  exact grown_none (grown_none (grown_none (grown_none (grown_none (grown_none (World.grownBy_alloc _ _ none) (World.grownBy_alloc _ _ none)) (World.grownBy_alloc _ _ none)) (World.grownBy_alloc _ _ none)) (World.grownBy_alloc _ _ none)) (World.grownBy_alloc _ _ none)) (World.grownBy_alloc _ _ none)
theorem WkB.begin {W V X : World} {base g : Nat} {s : Sp} {fuel : Int} (h : Wk W base g s) (gV : W.grownBy V none) (sV : V.heap.size = W.heap.size + 7)
    (o0 : Own V W.heap.size 111 [.pointer (some ⟨g, 0, none⟩)]) (o1 : Own V (W.heap.size + 1) 3 [.int .i64 fuel]) (o2 : Own V (W.heap.size + 2) 3 [.int .i64 0]) (o3 : Own V (W.heap.size + 3) 35 [.int .i64 0])
    (o4 : Own V (W.heap.size + 4) 3 [.int .i64 0]) (o5 : Own V (W.heap.size + 5) 121 [.slice none 0 0]) (o6 : Own V (W.heap.size + 6) 111 [.pointer (some ⟨g, 0, none⟩)]) (gX : V.grownBy X none) :
    WkB W base g s fuel X.heap.size s [] 0 none 0 X := by
  have bV := below_grown gV
  have bX := below_grown gX
  have bWX : Below W.heap.size W X := bV.trans (bX.mono bV.size)
  have hsz := bX.size
  have hA : ∀ k, Aw W X.heap.size none k → W.heap.size ≤ k := fun k e => by
    rcases e with e | e
    · exact e.1
    · cases e
  have past : ∀ {b : Nat} {t : TypeId} {l : List Value}, Own V b t l → Own X b t l := fun o => o.past bX o.inside
  exact ⟨h.past bWX, rfl, rfl, rfl, rfl, rfl, (times_in h.since).less hA, fun l hl => (lv_in (h.lev l hl)).less hA, past o0, past o1, past o2, past o3, past o4, past o5, past o6, World.ownsRow_nil _ _ _ _, fun d hd => (by cases hd), KeptK.of_below bWX (Nat.le_refl _) _, by omega, fun k hk => (h.lt k hk).2, Nat.le_refl _⟩
def WkEr (W : World) (g : Nat) (s : Sp) (X : World) : Prop := KeptK W X (SpS g s.lA) ∧ Own X (W.heap.size + 2) 3 [.int .i64 0] ∧ Own X (W.heap.size + 3) 35 [.int .i64 10]
theorem WkEr.turn {W X Y : World} {g : Nat} {s : Sp} {row : Option Nat} (h : WkEr W g s X) (hg : X.grownBy Y row) (hr : Bare X row) (hb : ∀ r, row = some r → W.heap.size ≤ r) : WkEr W g s Y := ⟨h.1.turn hg hb (Nat.le_refl _), h.2.1.turn hg hr, h.2.2.turn hg hr⟩
theorem work_ret {W w9 : World} {b2 b3 D g : Nat} {s : Sp} {x0 y0 : Value} (k2 : b2 = W.heap.size + 2) (k3 : b3 = W.heap.size + 3) (hD : W.heap.size + 7 ≤ D) (u2 : Own w9 (W.heap.size + 2) 3 [x0]) (u3 : Own w9 (W.heap.size + 3) 35 [y0])
    (uk : KeptK W w9 (SpS g s.lA)) (hd : w9.heap[D]? = some (.deferred (some []))) (x y : Value) :
    ((w9.setCell ⟨b2, 0, none⟩ x).setCell ⟨b3, 0, none⟩ y).heap[D]? = some (.deferred (some [])) ∧ (((w9.setCell ⟨b2, 0, none⟩ x).setCell ⟨b3, 0, none⟩ y).putObj D (.deferred none)).cell? ⟨b2, 0, none⟩ = some x ∧ (((w9.setCell ⟨b2, 0, none⟩ x).setCell ⟨b3, 0, none⟩ y).putObj D (.deferred none)).cell? ⟨b3, 0, none⟩ = some y ∧
      KeptK W (((w9.setCell ⟨b2, 0, none⟩ x).setCell ⟨b3, 0, none⟩ y).putObj D (.deferred none)) (SpS g s.lA) := by
  subst k2
  subst k3
  have hd2 : ((w9.setCell ⟨W.heap.size + 2, 0, none⟩ x).setCell ⟨W.heap.size + 3, 0, none⟩ y).heap[D]? = some (.deferred (some [])) :=
    (Below.heap_setCell _ ⟨W.heap.size + 3, 0, none⟩ y D (by show D ≠ W.heap.size + 3; omega)).trans ((Below.heap_setCell _ ⟨W.heap.size + 2, 0, none⟩ x D (by show D ≠ W.heap.size + 2; omega)).trans hd)
  have a2 := (u2.set_ 0 x).other (p := ⟨W.heap.size + 3, 0, none⟩) (by show W.heap.size + 3 ≠ W.heap.size + 2; omega) y
  have a3 := (u3.other (p := ⟨W.heap.size + 2, 0, none⟩) (by show W.heap.size + 2 ≠ W.heap.size + 3; omega) x).set_ 0 y
  have hg := grownBy_putObj' ((w9.setCell ⟨W.heap.size + 2, 0, none⟩ x).setCell ⟨W.heap.size + 3, 0, none⟩ y) D (.deferred none)
  have hr : Bare ((w9.setCell ⟨W.heap.size + 2, 0, none⟩ x).setCell ⟨W.heap.size + 3, 0, none⟩ y) (some D) := fun r e => by cases e; exact ⟨_, hd2, rfl⟩
  exact ⟨hd2, (a2.turn hg hr).at_ 0, (a3.turn hg hr).at_ 0, ((uk.set_ (.inr (by omega)) x).set_ (.inr (by omega)) y).turn hg (fun r e => by cases e; omega) (Nat.le_refl _)⟩
theorem WkB.fail {W X : World} {base g M : Nat} {s s1 : Sp} {fuel cv : Int} {D : List Bt} {dA : Option Addr} {dc b2 b3 B : Nat} (h : WkB W base g s fuel M s1 D cv dA dc X) (k2 : b2 = W.heap.size + 2) (k3 : b3 = W.heap.size + 3) (hB : B = W.heap.size + 7) :
    WkEr W g s ((X.setCell ⟨b2, 0, none⟩ (.int .i64 0)).setCell ⟨b3, 0, none⟩ (.int .i64 10)) ∧ Holds B M X ((X.setCell ⟨b2, 0, none⟩ (.int .i64 0)).setCell ⟨b3, 0, none⟩ (.int .i64 10)) := by
  subst k2
  subst k3
  subst hB
  refine ⟨⟨(h.kept.set_ (.inr (by omega)) _).set_ (.inr (by omega)) _, (h.w2.set_ 0 _).other (by show W.heap.size + 3 ≠ W.heap.size + 2; omega) _, (h.w3.other (by show W.heap.size + 2 ≠ W.heap.size + 3; omega) _).set_ 0 _⟩, (Holds.setc _ _ _ (.inl (by show W.heap.size + 2 < _; omega))).trans (Holds.setc _ _ _ (.inl (by show W.heap.size + 3 < _; omega)))⟩
theorem left_iff {m : Mg} (h : MOk m) : (m.i < (m.a.length : Int) ∨ m.j < (m.b.length : Int)) ↔ 0 < leftM m := by
  have h1 := h.da.lo
  have h2 := h.da.hi
  have h3 := h.db.lo
  have h4 := h.db.hi
  unfold leftM
  omega
theorem end_of {m : Mg} (h : MOk m) (h0 : leftM m = 0) : EndOk m := by
  have h1 := h.da.lo
  have h2 := h.da.hi
  have h3 := h.db.lo
  have h4 := h.db.hi
  unfold leftM at h0
  exact ⟨h, by omega, by omega⟩
structure WkP (W V : World) (base g : Nat) (s : Sp) (M : Nat) (D : List Bt) (c : Nat) (dA : Option Addr) (dc : Nat) (L1 : List Lv) (j : Nat) (sj : Sp) (X : World) : Prop where
  wk : Wk X base g sj
  e1 : sj.sA = s.sA
  e2 : sj.sc = s.sc
  e3 : sj.f = s.f
  lA : ∀ q, blkS sj.lA = some q → blkS s.lA = some q ∨ V.heap.size ≤ q
  st : PtSt s.f s.L D j L1 sj.L
  w0 : Own X W.heap.size 111 [.pointer (some ⟨g, 0, none⟩)]
  w2 : Own X (W.heap.size + 2) 3 [.int .i64 0]
  w3 : Own X (W.heap.size + 3) 35 [.int .i64 0]
  w4 : Own X (W.heap.size + 4) 3 [.int .i64 (c : Int)]
  row : X.ownsRow M 61 2 (.slice dA D.length dc) D.length (D.flatMap Bt.cells)
  rlt : ∀ q, blkS dA = some q → q < V.heap.size
  each : ∀ d ∈ D, BtIn X X.heap.size d ∧ BtOk d ∧ BtLo base d ∧ OfB (SpS g sj.lA) d
  kept : KeptK W X (SpS g s.lA)
  lo : W.heap.size + 7 ≤ M
  low : ∀ k, SpS g s.lA k → k < W.heap.size
  hi : M ≤ V.heap.size
  sz : V.heap.size ≤ X.heap.size
theorem WkB.toP {W X : World} {base g M p : Nat} {s s1 : Sp} {fuel : Int} {D : List Bt} {c : Nat} {dA : Option Addr} {dc : Nat} (h : WkB W base g s fuel M s1 D (c : Int) dA dc X) (st : WkSt s.f s.L fuel p s1.L D c) : WkP W X base g s M D c dA dc s1.L 0 s1 X :=
  ⟨h.wk, h.e1, h.e2, h.e3, fun q e => .inl (by rw [← h.e4]; exact e), st.puts, h.w0, h.w2, h.w3, h.w4, h.row, fun q e => (h.rowM q e).2, fun d hd => ⟨(h.each d hd).1, (h.each d hd).2.1, (h.each d hd).2.2.1, by rw [h.e4]; exact (h.each d hd).2.2.2.less (fun b e => .inl e)⟩, h.kept, h.lo, h.low, h.hi, Nat.le_refl _⟩
section
variable {W V X Y : World} {base g M : Nat} {s : Sp} {D : List Bt} {c : Nat} {dA : Option Addr} {dc : Nat} {L1 : List Lv} {j : Nat} {sj : Sp}
theorem WkP.past (h : WkP W V base g s M D c dA dc L1 j sj X) (hb : Below X.heap.size X Y) : WkP W V base g s M D c dA dc L1 j sj Y :=
  ⟨h.wk.past hb, h.e1, h.e2, h.e3, h.lA, h.st, h.w0.past hb h.w0.inside, h.w2.past hb h.w2.inside, h.w3.past hb h.w3.inside, h.w4.past hb h.w4.inside, own_below h.row hb, h.rlt, fun d hd => ⟨(h.each d hd).1.keep hb, (h.each d hd).2⟩, h.kept.trans (KeptK.of_below hb (Nat.le_refl _) (SpS g s.lA)) (fun _ _ e => e), h.lo, h.low, h.hi, Nat.le_trans h.sz hb.size⟩
theorem WkP.may (h : WkP W V base g s M D c dA dc L1 j sj X) (hw : wtS s.L ≤ 274877906944) (hst : ∀ b ∈ D, BatchOk b.f b.l ∧ LaterF s.f b.f) {b : Bt} (hb : D[j]? = some b) : PutIn base g sj b X := by
  have hm := List.mem_of_getElem? hb
  have he := h.each b hm
  have hlt := List.getElem?_eq_some_iff.1 hb
  have h1 := h.st.wt
  rw [List.drop_eq_getElem_cons hlt.1, hlt.2, partsD_cons, List.length_append] at h1
  exact ⟨h.wk, by rw [h.e3]; exact h.st.good, he.1, he.2.1, he.2.2.2, he.2.2.1, (hst b hm).1, by rw [h.e3]; exact (hst b hm).2, by omega⟩
theorem WkP.vars (h : WkP W V base g s M D c dA dc L1 j sj X) (k : KeptK X Y (SpS g sj.lA)) : Own Y W.heap.size 111 [.pointer (some ⟨g, 0, none⟩)] ∧ Own Y (W.heap.size + 2) 3 [.int .i64 0] ∧ Own Y (W.heap.size + 3) 35 [.int .i64 0] ∧ Own Y (W.heap.size + 4) 3 [.int .i64 (c : Int)] ∧ KeptK W Y (SpS g s.lA) ∧ ∀ q, SpS g sj.lA q → q < W.heap.size ∨ V.heap.size ≤ q := by
  have hsz := h.sz
  have hlo := h.lo
  have hhi := h.hi
  have nS : ∀ q, SpS g sj.lA q → SpS g s.lA q ∨ V.heap.size ≤ q := fun q e => by
    rcases e with e | e
    · exact .inl (.inl e)
    · rcases h.lA _ e with e | e
      · exact .inl (.inr e)
      · exact .inr e
  have nW : ∀ i, i < 7 → ¬ SpS g sj.lA (W.heap.size + i) := fun i hi e => by
    rcases nS _ e with e | e
    · have := h.low _ e; omega
    · omega
  exact ⟨k.own h.w0 (nW 0 (by decide)), k.own h.w2 (nW 2 (by decide)), k.own h.w3 (nW 3 (by decide)), k.own h.w4 (nW 4 (by decide)), h.kept.trans k (fun q hq e => by
    rcases nS q e with e | e
    · exact e
    · omega), fun q e => (nS q e).imp (h.low q) id⟩
theorem row_two {n : Nat} {d : Bt} (h : X.ownsRow M 61 2 (.slice dA D.length dc) D.length (D.flatMap Bt.cells)) (hd : D[j]? = some d) :
    ∃ G, dA = some ⟨G, 0, none⟩ ∧ X.cell? ⟨G, j * 2, none⟩ = some (.slice d.sA d.f.length d.sc) ∧ X.cell? ⟨G, j * 2 + 1, none⟩ = some (.slice d.uA d.l.length d.uc) := by
  have hp : 0 < D.length := by have := (List.getElem?_eq_some_iff.1 hd).1; omega
  rcases row_ownK h with ⟨_, h0, _⟩ | ⟨G, cur, e, _⟩
  · omega
  · obtain ⟨A', c', ev, _, _, hli⟩ := lies_of_own (size := 2) (cells := Bt.cells) (by decide) (fun _ => rfl) rfl h
    simp only [Value.slice.injEq] at ev
    obtain ⟨b, o, e2, _, hc⟩ := hli hp
    rw [← ev.1] at e2
    rw [e] at e2
    simp only [Option.some.injEq, Addr.mk.injEq, and_true] at e2
    obtain ⟨rfl, rfl⟩ := e2
    have h0 := hc j d hd 0 _ rfl
    have h1 := hc j d hd 1 _ rfl
    rw [Nat.zero_add] at h0 h1
    exact ⟨G, e, h0, h1⟩
theorem WkP.next (h : WkP W V base g s M D c dA dc L1 j sj X) {b : Bt} (hb : D[j]? = some b) {s2 : Sp} (k : KeptK X Y (SpS g sj.lA)) (o : PutOut base g sj b.l 1 b.l.length X Y s2) : WkP W V base g s M D c dA dc L1 (j + 1) s2 Y := by
  have hsz := h.sz
  have hlo := h.lo
  have hhi := h.hi
  have nW : ∀ i, i < 7 → ¬ SpS g sj.lA (W.heap.size + i) := fun i hi e => by
    rcases e with e | e
    · have := h.low g (.inl rfl); omega
    · rcases h.lA _ e with e | e
      · have := h.low _ (.inr e); omega
      · omega
  have nR : ∀ q, blkS dA = some q → ¬ SpS g sj.lA q := fun q hq e => by
    have h1 := (h.row.lt q (by rw [blkS_own]; exact hq)).1
    have h2 := h.rlt q hq
    rcases e with e | e
    · have := h.low g (.inl rfl); omega
    · rcases h.lA _ e with e | e
      · have := h.low _ (.inr e); omega
      · omega
  have hS2 : ∀ q, SpS g s2.lA q → SpS g sj.lA q ∨ X.heap.size ≤ q := fun q e => by
    rcases e with e | e
    · exact .inl (.inl e)
    · rcases o.lA with e2 | ⟨r, e2, hr⟩
      · exact .inl (.inr (by rw [← e2]; exact e))
      · rw [e2] at e; injection e with e; exact .inr (by omega)
  refine ⟨o.wk, o.h1.trans h.e1, o.h2.trans h.e2, o.h3.trans h.e3, fun q e => ?_, h.st.next hb (by rw [← h.e3]; exact o.put), k.own h.w0 (nW 0 (by decide)), k.own h.w2 (nW 2 (by decide)), k.own h.w3 (nW 3 (by decide)), k.own h.w4 (nW 4 (by decide)), k.row h.row (fun q e e2 => nR q (by rw [← blkS_own dA D.length dc]; exact e) e2), h.rlt,
    fun d hd => ⟨bt_kept (h.each d hd).1 (h.each d hd).2.2.2 k, (h.each d hd).2.1, (h.each d hd).2.2.1, ((h.each d hd).2.2.2.or (bt_in (h.each d hd).1)).less hS2⟩, h.kept.trans k (fun q hq e => ?_), h.lo, h.low, h.hi, Nat.le_trans h.sz k.size⟩
  · rcases o.lA with e2 | ⟨r, e2, hr⟩
    · exact h.lA q (by rw [← e2]; exact e)
    · rw [e2] at e; injection e with e; exact .inr (by omega)
  · rcases e with e | e
    · exact .inl e
    · rcases h.lA _ e with e | e
      · exact .inr e
      · omega
end
def Tiny (X : World) (S : Nat → Prop) : Prop := ∀ b, S b → ∃ t v, Own X b t [v]
section
variable {X : World} {S : Nat → Prop} {B : Nat} {A : Option Addr}
theorem Tiny.no {b i : Nat} {u : Value} (h : Tiny X S) (hs : S b) (hc : X.cell? ⟨b, i + 1, none⟩ = some u) : False := by
  obtain ⟨t, v, ho⟩ := h b hs
  rw [ho.at_] at hc
  have := (List.getElem?_eq_some_iff.1 hc).1
  simp at this
theorem tiny_times {l : List Tm} (hS : Tiny X S) (h : Times X B A l) : OfT S A l.length := fun hp b o e hs => by
  obtain ⟨b', o', e', _, hc⟩ := h hp
  have hb := at_block e e'
  subst hb
  exact hS.no hs (hc 0 l[0] (List.getElem?_eq_getElem hp)).2.1
theorem tiny_vals {l : List Vl} (hS : Tiny X S) (h : Vals X B A l) : OfT S A l.length := fun hp b o e hs => by
  obtain ⟨b', o', e', _, hc⟩ := h hp
  have hb := at_block e e'
  subst hb
  exact hS.no hs (hc 0 l[0] (List.getElem?_eq_getElem hp)).2.1
theorem tiny_lies {α : Type} {size : Nat} {cells : α → List Value} {l : List α} (hne : ∀ x, ∃ u, (cells x)[1]? = some u) (hS : Tiny X S) (h : Lies size cells X B A l) : OfT S A l.length := fun hp b o e hs => by
  obtain ⟨b', o', e', _, hc⟩ := h hp
  have hb := at_block e e'
  subst hb
  obtain ⟨u, hu⟩ := hne l[0]
  exact hS.no hs (hc 0 l[0] (List.getElem?_eq_getElem hp) 1 u hu)
theorem tiny_ups {l : List Up} (hS : Tiny X S) (h : Ups X B A l) : OfU S A l := ⟨tiny_lies (fun x => ⟨_, rfl⟩) hS h.head, fun u hu => ⟨tiny_vals hS (h.each_ u hu).key, tiny_vals hS (h.each_ u hu).row⟩⟩
theorem tiny_bt {b : Bt} (hS : Tiny X S) (h : BtIn X B b) : OfB S b := ⟨tiny_times hS h.since, tiny_ups hS h.ups⟩
theorem tiny_mg {m : Mg} (hS : Tiny X S) (h : MgIn X B m) : OfM S m := ⟨tiny_ups hS h.a, tiny_ups hS h.b, tiny_times hS h.f, tiny_ups hS h.o⟩
theorem tiny_lv {l : Lv} (hS : Tiny X S) (h : LvIn X B l) : OfL S l := ⟨tiny_bt hS h.b, tiny_mg hS h.m⟩
end
theorem WkP.end_ {W V X : World} {base g M j : Nat} {s sj : Sp} {D : List Bt} {c : Nat} {dA : Option Addr} {dc : Nat} {L1 : List Lv} (h : WkP W V base g s M D c dA dc L1 j sj X) {b2 b3 Q : Nat} (k2 : b2 = W.heap.size + 2) (k3 : b3 = W.heap.size + 3) (hQ : W.heap.size + 7 ≤ Q) (hd : X.heap[Q]? = some (.deferred (some []))) (x y : Value) :
    Wk (((X.setCell ⟨b2, 0, none⟩ x).setCell ⟨b3, 0, none⟩ y).putObj Q (.deferred none)) base g sj := by
  have hr := (work_ret (g := g) (s := s) k2 k3 hQ h.w2 h.w3 h.kept hd x y).1
  subst k2
  subst k3
  have hsz := h.sz
  have hhi := h.hi
  have hlo := h.lo
  have hT : Tiny X (fun k => k = W.heap.size + 2 ∨ k = W.heap.size + 3) := fun b hb => by
    rcases hb with rfl | rfl
    · exact ⟨_, _, h.w2⟩
    · exact ⟨_, _, h.w3⟩
  have k1 : KeptK X ((X.setCell ⟨W.heap.size + 2, 0, none⟩ x).setCell ⟨W.heap.size + 3, 0, none⟩ y) (fun k => k = W.heap.size + 2 ∨ k = W.heap.size + 3) := ((KeptK.refl X (fun k => k = W.heap.size + 2 ∨ k = W.heap.size + 3)).set_ (.inl (.inl rfl)) x).set_ (.inl (.inr rfl)) y
  have hw := h.wk.off k1 (fun e => by have := h.low g (.inl rfl); omega) (fun q e e2 => by
    rcases h.lA q e with e | e
    · have := h.low q (.inr e); omega
    · omega) (tiny_times hT h.wk.since) (fun l hl => tiny_lv hT (h.wk.lev l hl))
  exact hw.turn (grownBy_putObj' _ Q (.deferred none)) (fun r e => by cases e; exact ⟨_, hr, rfl⟩)
end Go.Proofs.YtenjlhlighkenaaGreat
namespace Go.Proofs.YtenjlhlighkenaaGreat
open Go Go.RowKit

theorem slice_of_row {w : World} {base n size : Nat} {e : TypeId} {v : Value} {xs : List Value} (h : w.ownsRow base e size v n xs) : ∃ A c, v = .slice A n c := by
  rcases h.2 with ⟨h0, h1⟩ | ⟨g, cap, cur, hv, _⟩
  · exact ⟨none, 0, by rw [h0, h1]⟩
  · exact ⟨_, _, hv⟩
theorem cell_keptK {w w' : World} {S : Nat → Prop} {a : Addr} {v : Value} (k : KeptK w w' S) (hS : ¬ S a.block) (hc : w.cell? a = some v) : w'.cell? a = some v := by
  rw [← hc]
  obtain ⟨o, ho, _⟩ := cells_of_cell hc
  exact World.cell?_of_block (k.block _ (Array.getElem?_eq_some_iff.1 ho).1 hS)
section
variable {W X Y : World} {base g M p : Nat} {s s1 : Sp} {fuel cv : Int} {D : List Bt} {dA : Option Addr} {dc : Nat} {l : Lv} {m' : Mg}
theorem WkB.drew (h : WkB W base g s fuel M s1 D cv dA dc X) : WkB W base g s fuel M s1 D cv dA dc X.drew := h.past (Below.drew (Below.refl _ _))
theorem WkB.went (h : WkB W base g s fuel M s1 D cv dA dc X) {G B0 : Nat} (hl : s1.L[p]? = some l) (hb : l.busy = true) (im : MgIn X X.heap.size m') (om : MgOk m') (cap : McOk m') (lm : MgLo B0 m') (hB0 : ∀ k, SpS g s.lA k ∨ Aw W M dA k → k < B0) (hbase : base ≤ B0) (hG : s1.lA = some ⟨G, 0, none⟩) :
    WkB W base g s fuel M ⟨s1.sA, s1.sc, s1.f, s1.lA, s1.lc, s1.L.set p ⟨l.cls, true, l.b, m'⟩⟩ D cv dA dc (setsAt X G (p * 10 + 4) m'.cells) ∧ KeptK X (setsAt X G (p * 10 + 4) m'.cells) (SpS g s.lA) := by
  have hml := List.mem_of_getElem? hl
  obtain ⟨a1, a2⟩ := h.wk.merger im (lm.of (fun k hk => hB0 k (.inl (by rw [← h.e4]; exact hk)))) om cap (lm.mono hbase) hl hG
  rw [hb] at a1
  rw [h.e4] at a2
  refine ⟨h.spine a2 a1 h.e1 h.e2 h.e3 h.e4 h.e5 (fun x hx => ?_), a2⟩
  rcases List.mem_or_eq_of_mem_set hx with hx | rfl
  · exact .inl hx
  · exact .inr ⟨(h.aw l hml).b, lm.of (fun k hk => hB0 k (.inr hk))⟩
theorem WkB.ended (h : WkB W base g s fuel M s1 D cv dA dc X) {x : Ending} (he : Ended X base g p s1 m' x Y) : ∃ b : Bt, x = .returned b.val ∧ WkB W base g s fuel M ⟨s1.sA, s1.sc, s1.f, s1.lA, s1.lc, s1.L.eraseIdx p⟩ D cv dA dc Y ∧ KeptK X Y (SpS g s.lA) ∧ b.f = m'.f ∧ b.l.map Up.p = m'.o.map Up.p ∧ BtIn Y Y.heap.size b ∧ BtOk b ∧ BtLo base b ∧ OfB (fun k => SpS g s.lA k ∨ Aw W M dA k) b := by
  obtain ⟨b, h1, h2, h3, h4, h5, h6, h7, h8⟩ := he
  rw [h.e4] at h3
  have hlo : ∀ k, SpS g s.lA k ∨ Aw W M dA k → k < X.heap.size := fun k hk => by
    have hW := h.kept.size
    have hM := h.hi
    rcases hk with hk | hk | hk
    · have := h.low k hk; omega
    · omega
    · exact (h.rowM k hk).2
  exact ⟨b, h1, h.spine h3 h2 h.e1 h.e2 h.e3 h.e4 h.e5 (fun x hx => .inl (List.mem_of_mem_eraseIdx hx)), h3, h4, h5, h6, h7, h8.mono h.wk.base_, h8.of hlo⟩
end
end Go.Proofs.YtenjlhlighkenaaGreat
namespace Go.Proofs.YtenjlhlighkenaaGreat
open Go Go.RowKit

theorem step_append_anyS {α : Type} {size : Nat} {cells : α → List Value} {B : Nat} {A : Option Addr} {l : List α} {P : Program} (w : World) {ops : Array Oper} {o : Oper} {a : Act} {K : Act → World → Prop} {Q : Exit → Act → World → Prop} {E : Prop} (hgd : o.guard = none) (s x : Operand) (t e : TypeId)
    (ho : o.op = .call { callee := .builtin .append, args := #[s, x], argTypes := #[t, t] })
    (i0 : TypeInfo) (z : Value) (bytes : Nat) (ht : P.underlying t = some (.slice e)) (hi : P.info? e = some i0) (hz0 : i0.zero = some z) (hz1 : i0.size = size) (hz2 : i0.bytes = bytes) (hzs : z.cells.size = size) (hpos : 0 < size) (hcl : ∀ x, (cells x).length = size) (hone : ∀ x, ∀ u ∈ cells x, u.oneCell' = true)
    (base : Nat) (v : Value) (n : Nat) (xs : List Value) (hs : a.eval s = v) (hown : w.ownsRow base e size v n xs)
    (c : Nat) (hx : a.eval x = .slice A l.length c) (hl : Lies size cells w B A l) (h63 : n + l.length ≤ maxLen) (hn : (n + l.length) * bytes ≤ 140737488355328) (hbase : base ≤ w.heap.size)
    (h : ∀ v' w', w'.ownsRow base e size v' (n + l.length) (xs ++ l.flatMap cells) → Below base w w' → (v'.ownBlock = v.ownBlock ∨ v'.ownBlock = some w.heap.size) → w.grownBy w' v.ownBlock → K (a.put o.dst v') w') :
    if Region.wanted o (yielded ops a.tmps) = true then Oper.wp P o a w K Q else E := by
  have hw : Region.wanted o (yielded ops a.tmps) = true := by simp [Region.wanted, hgd]
  rw [if_pos hw]
  obtain ⟨v', w', hrun, ho', hb, hob, hgr⟩ : ∃ v' w', (Builtin.append_ #[t, t] o.type #[v, .slice A l.length c]).run P w = .ok v' w' ∧ w'.ownsRow base e size v' (n + l.length) (xs ++ l.flatMap cells) ∧ Below base w w' ∧ (v'.ownBlock = v.ownBlock ∨ v'.ownBlock = some w.heap.size) ∧ w.grownBy w' v.ownBlock := by
    cases A with
    | none =>
      have h0 : l = [] := by
        cases l with
        | nil => rfl
        | cons x l => obtain ⟨_, _, e, _⟩ := hl (by simp); cases e
      subst h0
      exact ⟨v, w, run_append_none w base _ _ _ i0 size ht hi v n xs hown c, by simpa using hown, Below.refl _ _, .inl rfl, ⟨rfl, rfl, rfl, Nat.le_refl _, fun _ _ _ => rfl⟩⟩
    | some ad =>
      have hnews : ∀ j u, (l.flatMap cells)[j]? = some u → w.cell? (ad.add j) = some u := by
        intro j u hu
        obtain ⟨i, r, y, rfl, hi, hr⟩ := flat_back hpos hcl l j u hu
        have hp : 0 < l.length := by have := (List.getElem?_eq_some_iff.1 hi).1; omega
        obtain ⟨b, o, e, _, hc⟩ := hl hp
        obtain rfl : ad = ⟨b, o, none⟩ := by injection e
        have ea : (⟨b, o, none⟩ : Addr).add (i * size + r) = ⟨b, o + i * size + r, none⟩ := by unfold Addr.add; split <;> simp_all <;> omega
        rw [ea]
        exact hc i y hi r u hr
      obtain ⟨v', w', hr, h2, h3, _, h5⟩ := run_append_own_at (P := P) w base t o.type e i0 _ size bytes ht hi hz0 hz1 hz2 hzs hpos v n xs hown ad l.length c (l.flatMap cells) (flat_size hcl l) hnews
        (fun u hu => by obtain ⟨y, _, hy⟩ := List.mem_flatMap.1 hu; exact hone y u hy) h63 hn hbase
      exact ⟨v', w', hr, h2, (Below.refl base w).grown h3 hbase (fun k hk => (hown.lt k hk).1), h5, h3⟩
  unfold Oper.wp execOp
  simp only [ho, resolve, invoke, builtin, Sem.run_bind, Sem.run_pure, Result.andThen_ok, List.map_toArray, List.map_cons, List.map_nil, hs, hx, hrun]
  exact h v' w' ho' hb hob hgr
end Go.Proofs.YtenjlhlighkenaaGreat
namespace Go.Proofs.YtenjlhlighkenaaGreat
open Go Go.RowKit Go.Shelf

attribute [local go_sem] Oper.semAt_some

def WorkM (base g : Nat) (s : Sp) (fuel : Int) (w : World) (x : Ending) (w' : World) : Prop :=
  ∃ (c : Nat) (E : Int), x = .returned (.tuple #[.int .i64 (c : Int), .int .i64 E]) ∧ KeptK w w' (SpS g s.lA) ∧ (E = 0 ∧ (∃ s', Wk w' base g s' ∧ s'.sA = s.sA ∧ s'.sc = s.sc ∧ s'.f = s.f ∧ WkFin s.f s.L fuel s'.L c) ∨ E = 10 ∧ c = 0)
theorem infoBt : (Tryz.prog.info? 61).map (fun i => (i.zero, i.size, i.bytes)) = some (some (.agg #[.slice none 0 0, .slice none 0 0]), 2, 48) := by kernel_rfl
theorem bt_one (b : Bt) : ∀ u ∈ b.cells, u.oneCell' = true := by
  intro u hu
  simp [Bt.cells] at hu
  rcases hu with rfl | rfl <;> rfl
theorem bt_lies (w : World) (b : Bt) : Lies 2 Bt.cells (w.alloc (.cells #[.slice b.sA b.f.length b.sc, .slice b.uA b.l.length b.uc] 61)) (w.heap.size + 1) (some ⟨w.heap.size, 0, none⟩) [b] := fun _ => ⟨w.heap.size, 0, rfl, Nat.lt_succ_self _, fun i x hi j u hj => by
  cases i with
  | zero =>
    obtain rfl : b = x := by simpa using hi
    rw [Nat.zero_mul, Nat.zero_add]
    first | exact ((Own.made w 61 b.cells).at_ j).trans hj | (rw [Nat.zero_add]; exact ((Own.made w 61 b.cells).at_ j).trans hj)
    -- exact ((Own.made w 61 b.cells).at_ j).trans hj
  | succ i => simp at hi⟩
set_option maxRecDepth 100000 in
set_option maxHeartbeats 12800000 in
theorem workS_any (base g : Nat) (s : Sp) (fuel : Int) (W : World) (h : Wk W base g s) (hgood : SpGood s.f s.L) (hwt : wtS s.L ≤ 274877906944) (hf1 : -9223372036854775808 ≤ fuel) (hf2 : fuel ≤ 9223372036854775807) :
    Calls Tryz.prog 23 #[.pointer (some ⟨g, 0, none⟩), .int .i64 fuel] W (WorkM base g s fuel W) := by
  refine (callsIn_wide (n := 12)).1 ?_
  have h9 : 1 ≤ 12 := by decide
  have hLn := h.ok.n
  obtain ⟨V, hV, gV, sV, o0, o1, o2, o3, o4, o5, o6⟩ := work_world W g fuel
  refine callsIn_of_wp_marks Tryz.func23 rfl trivial ?_ rfl
  simp only [Tryz.ntmps23, List.size_toArray, List.length_cons, List.length_nil, Nat.reduceAdd, Nat.reduceSub, Array.replicate_succ, Array.replicate_zero, List.push_toArray, List.append_toArray, List.nil_append, List.cons_append]
  gi_wp2_with (refine ⟨trivial, ?_⟩; gi_at_call 55; refine (callsIn_wide.2 (busy_any g _)).mono ?_; rintro _ _ ⟨rfl, rfl⟩)
  rw [← hV]
  obtain ⟨b6, hb6⟩ : ∃ b6, b6 = W.heap.size + 1 + 1 + 1 + 1 + 1 + 1 := ⟨_, rfl⟩
  rw [← hb6]
  obtain ⟨b5, hb5⟩ : ∃ b5, b5 = W.heap.size + 1 + 1 + 1 + 1 + 1 := ⟨_, rfl⟩
  rw [← hb5]
  obtain ⟨b4, hb4⟩ : ∃ b4, b4 = W.heap.size + 1 + 1 + 1 + 1 := ⟨_, rfl⟩
  rw [← hb4]
  obtain ⟨b3, hb3⟩ : ∃ b3, b3 = W.heap.size + 1 + 1 + 1 := ⟨_, rfl⟩
  rw [← hb3]
  obtain ⟨b2, hb2⟩ : ∃ b2, b2 = W.heap.size + 1 + 1 := ⟨_, rfl⟩
  rw [← hb2]
  obtain ⟨b1, hb1⟩ : ∃ b1, b1 = W.heap.size + 1 := ⟨_, rfl⟩
  rw [← hb1]
  obtain ⟨b0, hb0⟩ : ∃ b0, b0 = W.heap.size := ⟨_, rfl⟩
  rw [← hb0]
  have k1 : b1 = W.heap.size + 1 := hb1
  have k2 : b2 = W.heap.size + 2 := hb2
  have k3 : b3 = W.heap.size + 3 := hb3
  have k4 : b4 = W.heap.size + 4 := hb4
  have k5 : b5 = W.heap.size + 5 := hb5
  have k6 : b6 = W.heap.size + 6 := hb6
  have HK := Lib.hid (And.intro hb0 (And.intro k1 (And.intro k2 (And.intro k3 (And.intro k4 (And.intro k5 (And.intro k6 sV)))))))
  have HO := Lib.hid (And.intro o0 (And.intro o1 (And.intro o2 (And.intro o3 (And.intro o4 (And.intro o5 o6))))))
  clear hb1 hb2 hb3 hb4 hb5 hb6 hV hb0 k1 k2 k3 k4 k5 k6 sV o0 o1 o2 o3 o4 o5 o6
  refine wpIn_mono (Q := fun e a X => ∃ D, V.heap.size ≤ D ∧ X.heap[D]? = some (.deferred (some [])) ∧ a = { tmps := #[.pointer (some ⟨g, 0, none⟩), .int .i64 fuel, .pointer (some ⟨b0, 0, none⟩), .pointer (some ⟨b1, 0, none⟩), .pointer (some ⟨b2, 0, none⟩), .pointer (some ⟨b3, 0, none⟩), .pointer (some ⟨b4, 0, none⟩), .pointer (some ⟨b5, 0, none⟩), undef, undef, undef, undef, undef, undef, undef, undef, .pointer (some ⟨g, 0, none⟩), .func (.func 87) #[] #[.pointer (some ⟨b6, 0, none⟩)], undef, undef, undef, undef, undef, undef, undef, undef, undef, undef, undef, undef, undef, undef, undef, undef, undef, undef, undef, undef, undef, undef, undef, undef, undef, undef, undef, undef, undef, undef, undef, undef, undef, undef, undef, undef, undef, undef, undef, undef, undef, undef, undef, undef, undef, undef, undef, undef, undef, undef, undef, undef], defers := [{ target := .collected D, args := #[] }] } ∧
    ((e = .normal ∨ e = .exit 0) ∧ (∃ (M p : Nat) (s1 : Sp) (Ds : List Bt) (c : Nat) (dA : Option Addr) (dc : Nat), WkB W base g s fuel M s1 Ds (c : Int) dA dc X ∧ WkSt s.f s.L fuel p s1.L Ds c ∧ (p = 0 ∨ fuel ≤ (c : Int))) ∨ e = .ret ∧ WkEr W g s X)) ?loop ?after
  case loop =>
    obtain ⟨hb0, k1, k2, k3, k4, k5, k6, sV⟩ := HK.out
    refine range_down (w := V) rfl h9 (gf := 87) (lb := #[.pointer (some ⟨b6, 0, none⟩)]) rfl trivial (enters_of Tryz.func87 (by kernel_rfl) rfl)
      (busy_down 11 b6 g s.lA s.lc s.L V hLn (by omega) (by have := (h.lt g (.inl rfl)).2; omega)) (Below.refl _ _) (fun _ => rfl)
      (fun M p X => ∃ (s1 : Sp) (Ds : List Bt) (c : Nat) (dA : Option Addr) (dc : Nat), WkB W base g s fuel M s1 Ds (c : Int) dA dc X ∧ WkSt s.f s.L fuel p s1.L Ds c)
      (fun M j X => (j = .ret ∧ WkEr W g s X) ∨ (j = .exit 0 ∧ ∃ (p : Nat) (s1 : Sp) (Ds : List Bt) (c : Nat) (dA : Option Addr) (dc : Nat), WkB W base g s fuel M s1 Ds (c : Int) dA dc X ∧ WkSt s.f s.L fuel p s1.L Ds c ∧ fuel ≤ (c : Int)))
      ?hI ?hIx ?hRd ?hskip ?h0
      (fun M p a' X => ∃ (s1 : Sp) (Ds : List Bt) (c : Nat) (dA : Option Addr) (dc : Nat) (l : Lv) (Bm : Nat), (WkB W base g s fuel M s1 Ds (c : Int) dA dc X ∧ WkSt s.f s.L fuel (p + 1) s1.L Ds c) ∧ s.L[p]? = some l ∧ l.busy = true ∧ Own X Bm 63 l.m.cells ∧ M ≤ Bm ∧
        a' = { tmps := #[.pointer (some ⟨g, 0, none⟩), .int .i64 fuel, .pointer (some ⟨b0, 0, none⟩), .pointer (some ⟨b1, 0, none⟩), .pointer (some ⟨b2, 0, none⟩), .pointer (some ⟨b3, 0, none⟩), .pointer (some ⟨b4, 0, none⟩), .pointer (some ⟨b5, 0, none⟩), .int .i64 (p : Int), .pointer (some ⟨Bm, 0, none⟩), undef, undef, undef, undef, undef, undef, .pointer (some ⟨g, 0, none⟩), .func (.func 87) #[] #[.pointer (some ⟨b6, 0, none⟩)], .int .i64 (p : Int), .agg #[.slice l.m.aA l.m.a.length l.m.ac, .slice l.m.bA l.m.b.length l.m.bc, .int .i64 l.m.i, .int .i64 l.m.j, .slice l.m.sA l.m.f.length l.m.sc, .slice l.m.oA l.m.o.length l.m.oc], undef, undef, undef, undef, undef, undef, undef, undef, undef, undef, undef, undef, undef, undef, undef, undef, undef, undef, undef, undef, undef, undef, undef, undef, undef, undef, undef, undef, undef, undef, undef, undef, undef, undef, undef, undef, undef, undef, undef, undef, undef, undef, undef, undef, undef, undef, undef, undef, undef, undef], defers := [] })
      ?hAx ?assign ?body ?done ?stop
    case hI =>
      rintro M p X Y row ⟨s1, Ds, c, dA, dc, h1, h2⟩ hg2 hr
      exact ⟨s1, Ds, c, dA, dc, h1.turn hg2 (fun r e => (hr r e).2) (fun r e => by have := (hr r e).1; omega), h2⟩
    case hIx =>
      rintro j M X Y row hh hg2 hr
      rcases hh with ⟨rfl, h1⟩ | ⟨rfl, p, s1, Ds, c, dA, dc, h1, h2, h3⟩
      · exact .inl ⟨rfl, h1.turn hg2 (fun r e => (hr r e).2) (fun r e => by have := (hr r e).1; omega)⟩
      · exact .inr ⟨rfl, p, s1, Ds, c, dA, dc, h1.turn hg2 (fun r e => (hr r e).2) (fun r e => by have := (hr r e).1; omega), h2, h3⟩
    case hRd =>
      rintro M p X ⟨s1, Ds, c, dA, dc, h1, h2⟩
      refine ⟨by rw [k6]; exact h1.w6.at_ 0, fun hp => ?_, fun i l hi hl => ?_⟩
      · have hL : s1.L = s.L := by
          have h3 := h2.pre
          rw [hp, List.take_length, List.take_of_length_le h2.few] at h3
          exact h3
        have := h1.wk.own.at_ 1
        show X.cell? ⟨g, 1, none⟩ = some (.slice s.lA s.L.length s.lc)
        rw [this, ← hL, ← h1.e4, ← h1.e5]
        rfl
      · have hl1 : s1.L[i]? = some l := by
          have h3 := congrArg (fun q : List Lv => q[i]?) h2.pre
          simp only [List.getElem?_take_of_lt hi] at h3
          rw [h3]
          exact hl
        have hp : 0 < s1.L.length := by have := (List.getElem?_eq_some_iff.1 hl1).1; omega
        rcases row_ownK h1.wk.row with ⟨_, h0, _⟩ | ⟨G, cur, e, _⟩
        · omega
        · obtain ⟨b, o, e2, _, hc⟩ := h1.wk.lies.head hp
          rw [e] at e2
          simp only [Option.some.injEq, Addr.mk.injEq, and_true] at e2
          obtain ⟨rfl, rfl⟩ := e2
          refine ⟨G, by rw [← h1.e4]; exact e, fun j u hj => ?_⟩
          have := hc i l hl1 j u hj
          rwa [Nat.zero_add] at this
    case hskip =>
      rintro M p X hp hns ⟨s1, Ds, c, dA, dc, h1, h2⟩
      have hl := List.getElem?_eq_getElem hp
      refine ⟨s1, Ds, c, dA, dc, h1, h2.skip hl ?_⟩
      cases hb : (s.L[p]).busy
      · rfl
      · exact absurd ⟨_, hl, hb⟩ hns
    case h0 =>
      intro X hX _
      exact ⟨s, [], 0, none, 0, WkB.begin h gV sV HO.out.1 HO.out.2.1 HO.out.2.2.1 HO.out.2.2.2.1 HO.out.2.2.2.2.1 HO.out.2.2.2.2.2.1 HO.out.2.2.2.2.2.2 hX, WkSt.start fuel hgood⟩
    case hAx =>
      rintro M p a' _ X Y row ⟨s1, Ds, c, dA, dc, l, Bm, ⟨h1, h2⟩, h3, h4, h5, h6, h7⟩ hg2 hr
      exact ⟨s1, Ds, c, dA, dc, l, Bm, ⟨h1.turn hg2 (fun r e => (hr r e).2) (fun r e => by have := (hr r e).1; omega), h2⟩, h3, h4, h5.turn hg2 (fun r e => (hr r e).2), h6, h7⟩
    case assign =>
      rintro l2 M p X K hp ⟨l, hl, hbusy⟩ ⟨s1, Ds, c, dA, dc, h1, h2⟩ hM hDM hK
      have hd : s.L.getD p default = l := by rw [List.getD_eq_getElem?_getD, hl]; rfl
      clear hb0 k1 k2 k3 k4 k5 k6 sV
      unfold encM
      rw [hd]
      unfold Mg.val
      gi_wp2
      exact hK _ _ (Holds.grown (World.grownBy_alloc X _ none) hM (fun r e => by cases e)) ⟨s1, Ds, c, dA, dc, l, X.heap.size, ⟨h1.past (below_grown (World.grownBy_alloc X _ none)), h2⟩, hl, hbusy, Own.made X 63 l.m.cells, hM, rfl⟩
    case body =>
      rintro l2 M p a' X hp _ ⟨s1, Ds, c, dA, dc, l, Bm, ⟨hB, hst⟩, hl, hbusy, hom, hBm, rfl⟩ hM hDM
      have hl1 := pre_at hst.pre hl
      have hm := List.mem_of_getElem? hl1
      have lev := hB.wk.lev l hm
      have okl := hB.wk.ok.each_ l hm
      have gi := (hst.good.each l hm).busy hbusy
      have hwl := wt_le hm
      have hwtl : wtL l = max (l.m.a.length + l.m.b.length) (partsM l.m).length := by unfold wtL; rw [if_pos hbusy]
      have hpo : l.m.o.length ≤ (partsM l.m).length := by unfold partsM; rw [List.length_append, List.length_append]; omega
      have hw1 := hst.wt
      have hcl : c ≤ 274877906944 := by have h1 := hst.left; have h2 := left_wt s.L; omega
      have na : l.m.a.length ≤ 274877906944 := by omega
      have nb : l.m.b.length ≤ 274877906944 := by omega
      have no : l.m.o.length ≤ 274877906944 := by omega
      have c1 : X.cell? ⟨b1, 0, none⟩ = some (.int .i64 fuel) := by rw [k1]; exact hB.w1.at_ 0
      have c4 : X.cell? ⟨b4, 0, none⟩ = some (.int .i64 (c : Int)) := by rw [k4]; exact hB.w4.at_ 0
      obtain ⟨m0, m1, m2, m3, m4, m5⟩ := own6 hom
      have HB := Lib.hid (And.intro hB (And.intro hst (And.intro hl (And.intro hl1 (And.intro hbusy (And.intro hom (And.intro hBm (And.intro hM hDM))))))))
      by_cases hbrk : fuel ≤ (c : Int)
      · clear hb0 k1 k2 k3 k4 k5 k6 sV hB hst hl hl1 hm lev okl gi hwl hwtl hpo hw1 na nb no hom hBm hM hDM
        gi_wp2
        exact ⟨Holds.refl _ _ _, .inr ⟨rfl, p + 1, s1, Ds, c, dA, dc, HB.out.1, HB.out.2.1, hbrk⟩⟩
      · have hlt : (c : Int) < fuel := by omega
        have q1 : IntKind.i64.wrap (fuel - (c : Int)) = fuel - (c : Int) := by rw [IntKind.wrap_i64]; omega
        have z := Lib.hid (work_anyC l.m (fuel - (c : Int)) X lev.m okl.m na nb no)
        have HW := Lib.hid (And.intro gi okl)
        unfold Mg.val at z
        clear hb0 k1 k2 k3 k4 k5 k6 sV hB hst hl hl1 hm lev okl gi hwl hwtl hpo hw1 na nb no hom hBm hM hDM hbrk
        gi_wp2
        refine ⟨trivial, CallsIn.mono (CallsIn.inRound l2 (callsIn_wide.2 z.out)) ?_⟩
        rintro _ w1 ⟨m', cc, E, rfl, hw, im, om, lm, b1w, hac, hbc⟩
        have hwork : WorkOk l.m m' (fuel - (c : Int)) cc E := by
          rcases hw with ⟨h1, _⟩ | ⟨_, h1⟩
          · exact absurd HW.out.1.2.2.1 h1
          · exact h1
        obtain ⟨k, rfl, mok, hsum, hE, heq, hlen⟩ := work_gen hwork HW.out.1.2.2.1 HW.out.2.m.o.ok
        obtain ⟨V6, hV6, hb6, hs6, ho6⟩ := mgbox w1 m'
        have b06 := belows b1w hb6
        have hB6 := HB.out.1.past b06
        have hh6 : Holds V.heap.size M X V6 := Holds.below b06 HB.out.2.2.2.2.2.2.2.1
        have f2 : V6.frozen? ⟨b2, 0, none⟩ = false := by rw [HK.out.2.2.1]; exact hB6.w2.open_ 0
        have f3 : V6.frozen? ⟨b3, 0, none⟩ = false := by rw [HK.out.2.2.2.1]; exact hB6.w3.open_ 0
        have f4 : V6.frozen? ⟨b4, 0, none⟩ = false := by rw [HK.out.2.2.2.2.1]; exact hB6.w4.open_ 0
        have c2 : V6.cell? ⟨b2, 0, none⟩ = some (.int .i64 0) := by rw [HK.out.2.2.1]; exact hB6.w2.at_ 0
        have c3 : V6.cell? ⟨b3, 0, none⟩ = some (.int .i64 0) := by rw [HK.out.2.2.2.1]; exact hB6.w3.at_ 0
        have d4 : V6.cell? ⟨b4, 0, none⟩ = some (.int .i64 (c : Int)) := by rw [HK.out.2.2.2.2.1]; exact hB6.w4.at_ 0
        have H6 := Lib.hid (And.intro hB6 (And.intro ho6 (And.intro (im.keep hb6) (And.intro om (And.intro hh6 (And.intro lm (And.intro b1w.size (belows b1w hb6))))))))
        have HM := Lib.hid (And.intro hwork (And.intro mok (And.intro hsum (And.intro hE (And.intro heq (And.intro hlen (mc_of om ⟨hac, hbc⟩)))))))
        have hcl2 : (c : Int) + (k : Int) ≤ 274877906944 := by
          have h1 := HB.out.2.1.left
          have h2 := left_wt s.L
          have h3 : leftM l.m ≤ leftS s1.L := by
            have e := split_at' HB.out.2.2.2.1
            conv => rhs; rw [e]
            rw [leftS_app, leftS_cons]
            unfold leftL
            rw [if_pos HB.out.2.2.2.2.1]
            omega
          omega
        have hcl0 : (0 : Int) ≤ (c : Int) + (k : Int) := by omega
        unfold Mg.val
        clear hw hwork mok hsum hE heq hlen im om lm b1w hac hbc hb6 hs6 ho6 b06 hB6 hh6 z m0 m1 m2 m3 m4 m5 c1 c4 q1
        by_cases hE0 : E = 0
        case neg =>
          have hE10 : E = 10 := by
            rcases HM.out.2.2.2.1 with ⟨h1, _⟩ | ⟨h1, _⟩
            · exact absurd h1 hE0
            · exact h1
          subst hE10
          subst hV6
          have hne : b3 ≠ b2 := by rw [HK.out.2.2.1, HK.out.2.2.2.1]; omega
          have HF := Lib.hid (H6.out.1.fail HK.out.2.2.1 HK.out.2.2.2.1 HK.out.2.2.2.2.2.2.2)
          clear hE0 hcl2 hcl0
          gi_wp2
          exact ⟨H6.out.2.2.2.2.1.trans HF.out.2, .inl ⟨rfl, HF.out.1⟩⟩
        case pos =>
          subst hE0
          have q3 : IntKind.i64.wrap ((c : Int) + (k : Int)) = (c : Int) + (k : Int) := by rw [IntKind.wrap_i64]; omega
          obtain ⟨Z, hZ⟩ : ∃ Z, Z = V6.setCell ⟨b4, 0, none⟩ (.int .i64 ((c : Int) + (k : Int))) := ⟨_, rfl⟩
          have hBZ : WkB W base g s fuel M s1 Ds ((c : Int) + (k : Int)) dA dc Z := by rw [hZ, HK.out.2.2.2.2.1]; exact H6.out.1.cost _
          have hoZ : Own Z w1.heap.size 63 m'.cells := by
            rw [hZ]
            exact H6.out.2.1.other (by have h1 := H6.out.1.w4.inside; have h2 := HB.out.1.w4.inside; have h3 := HK.out.2.2.2.2.1; show b4 ≠ w1.heap.size; have h4 := H6.out.2.2.2.2.2.2.1; omega) _
          have hhZ : Holds V.heap.size M X Z := by rw [hZ]; exact H6.out.2.2.2.2.1.trans (Holds.setc _ _ _ (.inl (by have := HK.out; show b4 < _; omega)))
          have z2 := Lib.hid (left_anyS m' Z)
          obtain ⟨m0, m1, m2, m3, m4, m5⟩ := own6 hoZ
          have HZ := Lib.hid (And.intro hBZ (And.intro hoZ (And.intro hhZ (show MgIn Z Z.heap.size m' from by
            have h1 := H6.out.2.2.1
            rw [hZ]
            have hT : Tiny V6 (fun q => q = b4) := fun q hq => by rw [hq, HK.out.2.2.2.2.1]; exact ⟨_, _, H6.out.1.w4⟩
            exact mg_kept h1 (tiny_mg hT h1) ((KeptK.refl V6 (fun q => q = b4)).set_ (.inl rfl) _)))))
          unfold Mg.val at z2
          subst hV6
          subst hZ
          clear hBZ hoZ hhZ hcl2 hcl0
          gi_wp2
          refine ⟨trivial, CallsIn.mono (CallsIn.inRound l2 (callsIn_wide.2 z2.out)) ?_⟩
          rintro _ w3 ⟨bl, rfl, hbl, b3w⟩
          have HB3 := Lib.hid (And.intro (HZ.out.1.past b3w) (And.intro (HZ.out.2.1.past b3w HZ.out.2.1.inside) (And.intro (HZ.out.2.2.1.trans (Holds.below b3w (Nat.le_trans HB.out.2.2.2.2.2.2.2.1 HZ.out.2.2.1.size))) (HZ.out.2.2.2.keep b3w))))
          have HBL := Lib.hid hbl
          clear hbl b3w z2 m0 m1 m2 m3 m4 m5 f2 f3 f4 c2 c3 d4 q3
          cases bl with
          | true =>
            gi_wp2
            obtain ⟨G, hG⟩ : ∃ G, s1.lA = some ⟨G, 0, none⟩ := by
              rcases row_ownK HB3.out.1.wk.row with ⟨_, h0, _⟩ | ⟨G, cur, e, _⟩
              · have := (List.getElem?_eq_some_iff.1 HB.out.2.2.2.1).1; omega
              · exact ⟨G, e⟩
            have hGl : G < W.heap.size := HB.out.1.low G (.inr (by rw [← HB.out.1.e4, hG]; rfl))
            have hplt : p < s1.L.length := (List.getElem?_eq_some_iff.1 HB.out.2.2.2.1).1
            have HFZ := Lib.hid (show ∀ j, w3.frozen? ⟨G, j, none⟩ = false from by
              rcases row_ownK HB3.out.1.wk.row with ⟨h0, _⟩ | ⟨G', cur, e, _, ho, _⟩
              · rw [hG] at h0; cases h0
              · rw [hG] at e
                simp only [Option.some.injEq, Addr.mk.injEq, and_true] at e
                rw [e]
                exact fun j => ho.open_ j)
            have HS := Lib.hid (show ∀ w', KeptK w3 w' (fun q => q = G) → w'.cell? ⟨b0, 0, none⟩ = some (.pointer (some ⟨g, 0, none⟩)) ∧ w'.cell? ⟨g, 1, none⟩ = some (.slice (some ⟨G, 0, none⟩) s1.L.length s1.lc) ∧ Own w' w1.heap.size 63 m'.cells from fun w' k => by
              have hXw := H6.out.2.2.2.2.2.2.1
              have hWX := HB.out.1.kept.size
              refine ⟨cell_keptK k (by show ¬ b0 = G; rw [HK.out.1]; omega) (by rw [HK.out.1]; exact HB3.out.1.w0.at_ 0), cell_keptK k (fun e => HB3.out.1.wk.out (by rw [hG, show (⟨g, 1, none⟩ : Addr).block = g from rfl] at *; exact congrArg some e.symm)) (by rw [← hG]; exact HB3.out.1.wk.own.at_ 1), k.own HB3.out.2.1 (by omega)⟩)
            refine region_round (S := fun w' => KeptK w3 w' (fun q => q = G)) (by kernel_rfl) (by kernel_rfl) (fun h => by obtain ⟨_, _, h⟩ := h; exact h) ((KeptK.refl w3 _).drew) (fun hS => ?_)
            have HFIN := Lib.hid (show Holds V.heap.size M X (setsAt w3 G (p * 10 + 4) m'.cells).drew ∧ ∃ (s2 : Sp) (Ds : List Bt) (c : Nat) (dA : Option Addr) (dc : Nat), WkB W base g s fuel M s2 Ds (c : Int) dA dc (setsAt w3 G (p * 10 + 4) m'.cells).drew ∧ WkSt s.f s.L fuel p s2.L Ds c from by
              have hWX := HB.out.1.kept.size
              have hMX := HB.out.2.2.2.2.2.2.2.1
              obtain ⟨a1, a2⟩ := HB3.out.1.went (B0 := X.heap.size) HB.out.2.2.2.1 HB.out.2.2.2.2.1 HB3.out.2.2.2 H6.out.2.2.2.1 HM.out.2.2.2.2.2.2 H6.out.2.2.2.2.2.1 (fun q hq => by
                rcases hq with hq | hq | hq
                · have := HB.out.1.low q hq; omega
                · omega
                · exact (HB.out.1.rowM q hq).2) HB.out.1.wk.base_ hG
              have e : ((c + k : Nat) : Int) = (c : Int) + (k : Int) := by omega
              have hgo : (leftM m' = 0 ∨ fuel - (c : Int) ≤ (k : Int)) ∧ 0 < k := by
                rcases HM.out.2.2.2.1 with ⟨_, h1, h2⟩ | ⟨h1, _⟩
                · exact ⟨h1, h2 (by omega) HW.out.1.2.2.2.2.2.2⟩
                · exact absurd h1 (by decide)
              refine ⟨HB3.out.2.2.1.trans (Holds.kept a2.drew HB3.out.1.hi (fun q hq => .inl (by have := HB.out.1.low q hq; have := HK.out.2.2.2.2.2.2.2; omega))), _, Ds, c + k, dA, dc, by rw [e]; exact a1.drew, ?_⟩
              exact HB.out.2.1.went HB.out.2.2.1 HB.out.2.2.2.2.1 HM.out.1.a HM.out.1.b HM.out.1.f HM.out.2.1 HM.out.2.2.1 hgo.2 ((left_iff HM.out.2.1).1 (HBL.out.1 (by first | rfl | trivial))) hgo.1 HM.out.2.2.2.2.1 HM.out.2.2.2.2.2.1)
            have q0 : (0 : Int) ≤ (p : Int) := by omega
            have q1 : (p : Int) < (s1.L.length : Int) := by omega
            refine wpAnyH_take (i := 0) (v := .pointer (some ⟨g, 0, none⟩)) rfl (by kernel_rfl) (by kernel_rfl) (by kernel_rfl) (fun _ _ _ h => h) (Or.inl ⟨by rfl, fun w hSw => ?_⟩) hS ?_
            · obtain ⟨y0, yg, yo⟩ := HS.out w hSw
              obtain ⟨n0, n1, n2, n3, n4, n5⟩ := own6 yo
              go_simp
            simp only [Act.put, List.setIfInBounds_toArray, List.set_cons_zero, List.set_cons_succ]
            refine wpAnyH_take (i := 1) (v := .pointer (some ⟨g, 0, none⟩)) rfl (by kernel_rfl) (by kernel_rfl) (by kernel_rfl) (fun _ _ _ h => h) (Or.inl ⟨by rfl, fun w hSw => ?_⟩) hS ?_
            · obtain ⟨y0, yg, yo⟩ := HS.out w hSw
              obtain ⟨n0, n1, n2, n3, n4, n5⟩ := own6 yo
              go_simp
            simp only [Act.put, List.setIfInBounds_toArray, List.set_cons_zero, List.set_cons_succ]
            refine wpAnyH_take (i := 2) (v := .pointer (some ⟨g, 0, none⟩)) rfl (by kernel_rfl) (by kernel_rfl) (by kernel_rfl) (fun _ _ _ h => h) (Or.inl ⟨by rfl, fun w hSw => ?_⟩) hS ?_
            · obtain ⟨y0, yg, yo⟩ := HS.out w hSw
              obtain ⟨n0, n1, n2, n3, n4, n5⟩ := own6 yo
              go_simp
            simp only [Act.put, List.setIfInBounds_toArray, List.set_cons_zero, List.set_cons_succ]
            refine wpAnyH_take (i := 3) (v := .pointer (some ⟨g, 1, none⟩)) rfl (by kernel_rfl) (by kernel_rfl) (by kernel_rfl) (fun _ _ _ h => h) (Or.inl ⟨by rfl, fun w hSw => ?_⟩) hS ?_
            · obtain ⟨y0, yg, yo⟩ := HS.out w hSw
              obtain ⟨n0, n1, n2, n3, n4, n5⟩ := own6 yo
              go_simp
            simp only [Act.put, List.setIfInBounds_toArray, List.set_cons_zero, List.set_cons_succ]
            refine wpAnyH_take (i := 4) (v := .slice (some ⟨G, 0, none⟩) s1.L.length s1.lc) rfl (by kernel_rfl) (by kernel_rfl) (by kernel_rfl) (fun _ _ _ h => h) (Or.inl ⟨by rfl, fun w hSw => ?_⟩) hS ?_
            · obtain ⟨y0, yg, yo⟩ := HS.out w hSw
              obtain ⟨n0, n1, n2, n3, n4, n5⟩ := own6 yo
              go_simp
            simp only [Act.put, List.setIfInBounds_toArray, List.set_cons_zero, List.set_cons_succ]
            refine wpAnyH_take (i := 5) (v := .int .i64 (p : Int)) rfl (by kernel_rfl) (by kernel_rfl) (by kernel_rfl) (fun _ _ _ h => h) (Or.inl ⟨by rfl, fun w hSw => ?_⟩) hS ?_
            · obtain ⟨y0, yg, yo⟩ := HS.out w hSw
              obtain ⟨n0, n1, n2, n3, n4, n5⟩ := own6 yo
              go_simp
            simp only [Act.put, List.setIfInBounds_toArray, List.set_cons_zero, List.set_cons_succ]
            refine wpAnyH_take (i := 6) (v := .agg #[.slice m'.aA m'.a.length m'.ac, .slice m'.bA m'.b.length m'.bc, .int .i64 m'.i, .int .i64 m'.j, .slice m'.sA m'.f.length m'.sc, .slice m'.oA m'.o.length m'.oc]) rfl (by kernel_rfl) (by kernel_rfl) (by kernel_rfl) (fun _ _ _ h => h) (Or.inl ⟨by rfl, fun w hSw => ?_⟩) hS ?_
            · obtain ⟨y0, yg, yo⟩ := HS.out w hSw
              obtain ⟨n0, n1, n2, n3, n4, n5⟩ := own6 yo
              go_simp
            simp only [Act.put, List.setIfInBounds_toArray, List.set_cons_zero, List.set_cons_succ]
            refine wpAnyH_take (i := 7) (v := .pointer (some ⟨G, p * 10, none⟩)) rfl (by kernel_rfl) (by kernel_rfl) (by kernel_rfl) (fun _ _ _ h => h) (Or.inl ⟨by rfl, fun w hSw => ?_⟩) hS ?_
            · obtain ⟨y0, yg, yo⟩ := HS.out w hSw
              obtain ⟨n0, n1, n2, n3, n4, n5⟩ := own6 yo
              go_simp
            simp only [Act.put, List.setIfInBounds_toArray, List.set_cons_zero, List.set_cons_succ]
            refine wpAnyH_take (i := 8) (v := .pointer (some ⟨G, p * 10 + 4, none⟩)) rfl (by kernel_rfl) (by kernel_rfl) (by kernel_rfl) (fun _ _ _ h => h) (Or.inl ⟨by rfl, fun w hSw => ?_⟩) hS ?_
            · obtain ⟨y0, yg, yo⟩ := HS.out w hSw
              obtain ⟨n0, n1, n2, n3, n4, n5⟩ := own6 yo
              go_simp
            simp only [Act.put, List.setIfInBounds_toArray, List.set_cons_zero, List.set_cons_succ]
            have HC := Lib.hid (show ∀ (i : Nat) (u : Value), (⟨l.cls, l.busy, l.b, l.m⟩ : Lv).cells[i]? = some u → w3.drew.cell? ⟨G, p * 10 + i, none⟩ = some u from fun i u hu => by
              obtain ⟨b', o', e, _, hcell⟩ := HB3.out.1.wk.lies.head (by omega)
              rw [hG] at e
              simp only [Option.some.injEq, Addr.mk.injEq, and_true] at e
              obtain ⟨rfl, rfl⟩ := e
              have := hcell p l HB.out.2.2.2.1 i u hu
              rwa [Nat.zero_add] at this)
            have v4 : w3.cell? ⟨G, p * 10 + 4, none⟩ = some (.slice l.m.aA l.m.a.length l.m.ac) := HC.out 4 _ rfl
            have g4 : w3.frozen? ⟨G, p * 10 + 4, none⟩ = false := HFZ.out _
            have v5 : w3.cell? ⟨G, p * 10 + 4 + 1, none⟩ = some (.slice l.m.bA l.m.b.length l.m.bc) := HC.out 5 _ rfl
            have g5 : w3.frozen? ⟨G, p * 10 + 4 + 1, none⟩ = false := HFZ.out _
            have v6 : w3.cell? ⟨G, p * 10 + 4 + 2, none⟩ = some (.int .i64 l.m.i) := HC.out 6 _ rfl
            have g6 : w3.frozen? ⟨G, p * 10 + 4 + 2, none⟩ = false := HFZ.out _
            have v7 : w3.cell? ⟨G, p * 10 + 4 + 3, none⟩ = some (.int .i64 l.m.j) := HC.out 7 _ rfl
            have g7 : w3.frozen? ⟨G, p * 10 + 4 + 3, none⟩ = false := HFZ.out _
            have v8 : w3.cell? ⟨G, p * 10 + 4 + 4, none⟩ = some (.slice l.m.sA l.m.f.length l.m.sc) := HC.out 8 _ rfl
            have g8 : w3.frozen? ⟨G, p * 10 + 4 + 4, none⟩ = false := HFZ.out _
            have v9 : w3.cell? ⟨G, p * 10 + 4 + 5, none⟩ = some (.slice l.m.oA l.m.o.length l.m.oc) := HC.out 9 _ rfl
            have g9 : w3.frozen? ⟨G, p * 10 + 4 + 5, none⟩ = false := HFZ.out _
            refine wpAnyH_ready (rs := [9]) (by kernel_rfl) (by simp) ?_
            refine AllReadyH.cons rfl (fun K hK => ?_) AllReadyH.nil
            go_simp
            refine hK.out _ _ ?_ (fun hHeld => ?_)
            · exact (setsAt_kept (S := fun q => q = G) (.inl rfl) m'.cells w3 (p * 10 + 4) (KeptK.refl _ _)).drew
            clear hK K
            refine wpAnyH_done (by kernel_rfl) ?_ _
            gi_wp2
            exact HFIN.out
          | false =>
            gi_wp2
            have h0 : leftM m' = 0 := by
              have h1 := (left_iff HM.out.2.1).2
              have h2 := HBL.out.2
              by_cases hz : 0 < leftM m'
              · exact absurd (h2 (h1 hz)) (by decide)
              · omega
            have hplt : p < s1.L.length := (List.getElem?_eq_some_iff.1 HB.out.2.2.2.1).1
            have hwl := wt_le (List.mem_of_getElem? HB.out.2.2.2.1)
            have hwtl : wtL l = max (l.m.a.length + l.m.b.length) (partsM l.m).length := by unfold wtL; rw [if_pos HB.out.2.2.2.2.1]
            have hno : m'.o.length ≤ 274877906944 := by
              have h1 := HM.out.2.2.2.2.2.1
              have h2 : m'.o.length ≤ (partsM m').length := by unfold partsM; rw [List.length_append, List.length_append]; omega
              have h3 := HB.out.2.1.wt
              omega
            have hB3d := HB3.out.1.drew
            have hlo : ∀ q, SpS g s1.lA q → q < X.heap.size := fun q hq => by
              rw [HB.out.1.e4] at hq
              have h1 := HB.out.1.low q hq
              have h2 := HB.out.1.kept.size
              omega
            have y := Lib.hid (ends_any base g p s1 m' w3.drew hB3d.wk hplt (HB3.out.2.2.2.keep (Below.drew (Below.refl _ _))) H6.out.2.2.2.1 (H6.out.2.2.2.2.2.1.of hlo) hno (end_of HM.out.2.1 h0))
            have HD3 := Lib.hid hB3d
            have H0 := Lib.hid h0
            unfold Mg.val at y
            clear h0 hwl hwtl hno hB3d hlo
            obtain ⟨i0, hi0, hz0, hz1, hz2⟩ := info_parts infoBt
            have HI := Lib.hid (And.intro hi0 (And.intro hz0 (And.intro hz1 hz2)))
            have hU : Tryz.prog.underlying 121 = some (.slice 61) := by kernel_rfl
            have HU := Lib.hid hU
            clear hi0 hz0 hz1 hz2 hU
            have hDl : Ds.length ≤ 1048576 := by
              have e1 := HB.out.2.1.busy
              have e2 : busyN s.L ≤ s.L.length := List.length_filter_le ..
              omega
            have HDL := Lib.hid hDl
            clear hDl
            have HFN := Lib.hid (show ∀ (b : Bt) (w4 w5 w6 : World) (dA' : Option Addr) (dc' : Nat), WkB W base g s fuel M ⟨s1.sA, s1.sc, s1.f, s1.lA, s1.lc, s1.L.eraseIdx p⟩ Ds ((c : Int) + (k : Int)) dA dc w4 → KeptK w3.drew w4 (SpS g s.lA) → b.f = m'.f → b.l.map Up.p = m'.o.map Up.p → BtIn w4 w4.heap.size b → BtOk b → BtLo base b → OfB (fun k => SpS g s.lA k ∨ Aw W M dA k) b → Below w4.heap.size w4 w5 → w5.heap.size = w4.heap.size + 1 →
                w6.ownsRow M 61 2 (.slice dA' (Ds.length + 1) dc') (Ds.length + 1) (Ds.flatMap Bt.cells ++ [b].flatMap Bt.cells) → (blkS dA' = blkS dA ∨ blkS dA' = some w5.heap.size) → w5.grownBy w6 (blkS dA) →
                Holds V.heap.size M X (w6.setCell ⟨b5, 0, none⟩ (.slice dA' (Ds.length + 1) dc')) ∧ ∃ (s2 : Sp) (D2 : List Bt) (c2 : Nat) (dA2 : Option Addr) (dc2 : Nat), WkB W base g s fuel M s2 D2 (c2 : Int) dA2 dc2 (w6.setCell ⟨b5, 0, none⟩ (.slice dA' (Ds.length + 1) dc')) ∧ WkSt s.f s.L fuel p s2.L D2 c2 from by
              intro b w4 w5 w6 dA' dc' a1 a2 a3 a4 a5 a6 a7 a8 hb5 hs5 hr6 hob hg6
              have hp := a1.pushed (Y := w5) hb5 a5 a6 a7 a8 hr6 hob hg6
              have T : TookOut s.f s1.L p b := take_out HB.out.2.1.good HB.out.2.2.2.1 HB.out.2.2.2.2.1 HW.out.2.m.o.ok HM.out.1 rfl H0.out a3 a4
              have hk0 : 0 < k := by
                rcases HM.out.2.2.2.1 with ⟨_, h1, h2⟩ | ⟨h1, _⟩
                · exact h2 (by omega) HW.out.1.2.2.2.2.2.2
                · exact absurd h1 (by decide)
              have hkl : k = leftM l.m := by have h1 := HM.out.2.2.1; have h2 := H0.out; omega
              have st := HB.out.2.1.took HB.out.2.2.1 HB.out.2.2.2.2.1 T hkl hk0
              have e : ((c + k : Nat) : Int) = (c : Int) + (k : Int) := by omega
              have k5 := HK.out.2.2.2.2.2.1
              have k7 := HK.out.2.2.2.2.2.2.2
              have hM3 := HD3.out.hi
              have hM4 := a1.hi
              have h0 : Holds V.heap.size M w3 w3.drew := ⟨Nat.le_refl _, fun _ _ _ => rfl⟩
              have h1 : Holds V.heap.size M w3.drew w4 := Holds.kept a2 hM3 (fun q hq => .inl (by have := HB.out.1.low q hq; omega))
              have h2 : Holds V.heap.size M w4 w5 := Holds.below hb5 hM4
              have h3 : Holds V.heap.size M w5 w6 := Holds.grown hg6 (by omega) (fun r hr => .inr (a1.rowM r hr).1)
              have h4 : Holds V.heap.size M w6 (w6.setCell ⟨b5, 0, none⟩ (.slice dA' (Ds.length + 1) dc')) := Holds.setc _ _ _ (.inl (by show b5 < _; omega))
              exact ⟨((((HB3.out.2.2.1.trans h0).trans h1).trans h2).trans h3).trans h4, _, Ds ++ [b], c + k, dA', dc', by rw [e, k5]; exact hp, st⟩)
            have x5 : w3.cell? ⟨b5, 0, none⟩ = some (.slice dA Ds.length dc) := by rw [HK.out.2.2.2.2.2.1]; exact HB3.out.1.w5.at_ 0
            have s0 : w3.drew.cell? ⟨b0, 0, none⟩ = some (.pointer (some ⟨g, 0, none⟩)) := by rw [HK.out.1]; exact HB3.out.1.w0.at_ 0
            refine region_round (S := fun w' => w'.cell? ⟨b0, 0, none⟩ = some (.pointer (some ⟨g, 0, none⟩)) ∧ Own w' w1.heap.size 63 m'.cells) (by kernel_rfl) (by kernel_rfl) (fun h => by obtain ⟨_, _, h⟩ := h; exact h) ⟨s0, HB3.out.2.1⟩ (fun hS => ?_)
            refine wpAnyH_take (i := 1) (v := .pointer (some ⟨g, 0, none⟩)) rfl (by kernel_rfl) (by kernel_rfl) (by kernel_rfl) (fun _ _ _ h => h) (Or.inl ⟨by rfl, fun w hSw => ?_⟩) hS ?_
            · obtain ⟨y0, yo⟩ := hSw
              obtain ⟨n0, n1, n2, n3, n4, n5⟩ := own6 yo
              go_simp
            simp only [Act.put, List.setIfInBounds_toArray, List.set_cons_zero, List.set_cons_succ]
            refine wpAnyH_take (i := 2) (v := .int .i64 (p : Int)) rfl (by kernel_rfl) (by kernel_rfl) (by kernel_rfl) (fun _ _ _ h => h) (Or.inl ⟨by rfl, fun w hSw => ?_⟩) hS ?_
            · obtain ⟨y0, yo⟩ := hSw
              obtain ⟨n0, n1, n2, n3, n4, n5⟩ := own6 yo
              go_simp
            simp only [Act.put, List.setIfInBounds_toArray, List.set_cons_zero, List.set_cons_succ]
            refine wpAnyH_take (i := 3) (v := .agg #[.slice m'.aA m'.a.length m'.ac, .slice m'.bA m'.b.length m'.bc, .int .i64 m'.i, .int .i64 m'.j, .slice m'.sA m'.f.length m'.sc, .slice m'.oA m'.o.length m'.oc]) rfl (by kernel_rfl) (by kernel_rfl) (by kernel_rfl) (fun _ _ _ h => h) (Or.inl ⟨by rfl, fun w hSw => ?_⟩) hS ?_
            · obtain ⟨y0, yo⟩ := hSw
              obtain ⟨n0, n1, n2, n3, n4, n5⟩ := own6 yo
              go_simp
            simp only [Act.put, List.setIfInBounds_toArray, List.set_cons_zero, List.set_cons_succ]
            refine wpAnyH_ready (rs := [0, 4]) (by kernel_rfl) (by simp) ?_
            refine AllReadyH.cons rfl (fun K hK => ?_) (AllReadyH.cons rfl (fun K hK => ?_) AllReadyH.nil)
            · go_simp
              refine hK.out _ _ hS (fun _ => ?_)
              clear hK K
              try simp only [Act.put, List.setIfInBounds_toArray, List.set_cons_zero, List.set_cons_succ]
              refine wpAnyH_ready (rs := [4]) (by kernel_rfl) (by simp) ?_
              refine AllReadyH.cons rfl (fun K hK => ?_) AllReadyH.nil
              go_simp
              refine y.out.mono ?_
              rintro _ w4 hEnd
              obtain ⟨b, rfl, a1, a2, a3, a4, a5, a6, a7, a8⟩ := HD3.out.ended hEnd
              have hS4 : w4.cell? ⟨b0, 0, none⟩ = some (.pointer (some ⟨g, 0, none⟩)) ∧ Own w4 w1.heap.size 63 m'.cells := ⟨by rw [HK.out.1]; exact a1.w0.at_ 0, a2.own HB3.out.2.1 (fun e => by have h1 := HB.out.1.low _ e; have h2 := HB.out.1.kept.size; have h3 := H6.out.2.2.2.2.2.2.1; omega)⟩
              have x54 : w4.cell? ⟨b5, 0, none⟩ = some (.slice dA Ds.length dc) := by rw [HK.out.2.2.2.2.2.1]; exact a1.w5.at_ 0
              have HE := Lib.hid (And.intro a1 (And.intro a2 (And.intro a3 (And.intro a4 (And.intro a5 (And.intro a6 (And.intro a7 a8)))))))
              clear hEnd a1 a2 a3 a4 a5 a6 a7 a8
              unfold Bt.val
              refine hK.out _ _ hS4 (fun _ => ?_)
              clear hK K
              try simp only [Act.put, List.setIfInBounds_toArray, List.set_cons_zero, List.set_cons_succ]
              refine wpAnyH_ready (rs := [5]) (by kernel_rfl) (by simp) ?_
              refine AllReadyH.cons rfl (fun K hK => ?_) AllReadyH.nil
              go_simp
              obtain ⟨w5, hw5, hb5, hs5, ho5⟩ := btbox w4 b
              rw [← hw5]
              have hS5 : w5.cell? ⟨b0, 0, none⟩ = some (.pointer (some ⟨g, 0, none⟩)) ∧ Own w5 w1.heap.size 63 m'.cells := ⟨by rw [HK.out.1]; exact (HE.out.1.past hb5).w0.at_ 0, hS4.2.past hb5 hS4.2.inside⟩
              have x55 : w5.cell? ⟨b5, 0, none⟩ = some (.slice dA Ds.length dc) := by rw [HK.out.2.2.2.2.2.1]; exact (HE.out.1.past hb5).w5.at_ 0
              have H5 := Lib.hid (And.intro hw5 (And.intro hb5 (And.intro hs5 ho5)))
              clear hw5 hb5 hs5 ho5
              refine hK.out _ _ hS5 (fun _ => ?_)
              clear hK K
              try simp only [Act.put, List.setIfInBounds_toArray, List.set_cons_zero, List.set_cons_succ]
              refine wpAnyH_ready (rs := [6]) (by kernel_rfl) (by simp) ?_
              refine AllReadyH.cons rfl (fun K hK => ?_) AllReadyH.nil
              refine step_append_anyS (size := 2) (cells := Bt.cells) (l := [b]) (A := some ⟨w4.heap.size, 0, none⟩) (B := w4.heap.size + 1) w5 rfl (.tmp 49) (.tmp 54) 121 61 rfl i0 _ 48 HU.out HI.out.1 HI.out.2.1 HI.out.2.2.1 HI.out.2.2.2 rfl (by decide) (fun _ => rfl) bt_one M (.slice dA Ds.length dc) Ds.length (Ds.flatMap Bt.cells) rfl (HE.out.1.past H5.out.2.1).row 1 rfl (by rw [H5.out.1]; exact bt_lies w4 b) (by have := HDL.out; show Ds.length + 1 ≤ maxLen; unfold maxLen; omega) (by have := HDL.out; show (Ds.length + 1) * 48 ≤ _; omega) (HE.out.1.past H5.out.2.1).hi ?_
              intro v' w6 hr6 hb6 hob6 hg6
              obtain ⟨dA', dc', rfl⟩ := slice_of_row hr6
              rw [blkS_own, blkS_own] at hob6
              rw [blkS_own] at hg6
              have k6 : KeptK w5 w6 (fun q => blkS dA = some q) := KeptK.of_grown hg6 (fun _ e => e)
              have hrM := HE.out.1.rowM
              have hMM := HE.out.1.lo
              have nb0 : ¬ blkS dA = some b0 := fun e => by have h1 := (hrM _ e).1; have h2 := HK.out.1; omega
              have nb5 : ¬ blkS dA = some b5 := fun e => by have h1 := (hrM _ e).1; have h2 := HK.out.2.2.2.2.2.1; omega
              have nbm : ¬ blkS dA = some w1.heap.size := fun e => by have h1 := (HB.out.1.rowM _ e).2; have h2 := H6.out.2.2.2.2.2.2.1; omega
              have hS6 : w6.cell? ⟨b0, 0, none⟩ = some (.pointer (some ⟨g, 0, none⟩)) ∧ Own w6 w1.heap.size 63 m'.cells := ⟨cell_keptK k6 nb0 hS5.1, k6.own hS5.2 nbm⟩
              have o5 : Own w6 b5 121 [.slice dA Ds.length dc] := by
                have h1 := (HE.out.1.past H5.out.2.1).w5
                rw [← HK.out.2.2.2.2.2.1] at h1
                exact k6.own h1 nb5
              have x56 : w6.cell? ⟨b5, 0, none⟩ = some (.slice dA Ds.length dc) := o5.at_ 0
              have f56 : w6.frozen? ⟨b5, 0, none⟩ = false := o5.open_ 0
              have HFIN := Lib.hid (HFN.out b w4 w5 w6 dA' dc' HE.out.1 HE.out.2.1 HE.out.2.2.1 HE.out.2.2.2.1 HE.out.2.2.2.2.1 HE.out.2.2.2.2.2.1 HE.out.2.2.2.2.2.2.1 HE.out.2.2.2.2.2.2.2 H5.out.2.1 H5.out.2.2.1 hr6 hob6 hg6)
              have HS7 := Lib.hid (show (w6.setCell ⟨b5, 0, none⟩ (.slice dA' (Ds.length + 1) dc')).cell? ⟨b0, 0, none⟩ = some (.pointer (some ⟨g, 0, none⟩)) ∧ Own (w6.setCell ⟨b5, 0, none⟩ (.slice dA' (Ds.length + 1) dc')) w1.heap.size 63 m'.cells from by
                have kk := (KeptK.refl w6 (fun q => q = b5)).set_ (o := 0) (.inl rfl) (.slice dA' (Ds.length + 1) dc')
                have hWX := HB.out.1.kept.size
                have hXw := H6.out.2.2.2.2.2.2.1
                have hb5 := HB.out.1.w5.inside
                have h5 := HK.out.2.2.2.2.2.1
                have h0 := HK.out.1
                exact ⟨cell_keptK kk (by show ¬ b0 = b5; omega) hS6.1, kk.own hS6.2 (by omega)⟩)
              clear hr6 hb6 hob6 hg6 k6 hrM hMM nb0 nb5 nbm o5
              refine hK.out _ _ hS6 (fun _ => ?_)
              clear hK K
              try simp only [Act.put, List.setIfInBounds_toArray, List.set_cons_zero, List.set_cons_succ]
              refine wpAnyH_ready (rs := [7]) (by kernel_rfl) (by simp) ?_
              refine AllReadyH.cons rfl (fun K hK => ?_) AllReadyH.nil
              go_simp
              refine hK.out _ _ HS7.out (fun _ => ?_)
              clear hK K
              refine wpAnyH_done (by kernel_rfl) ?_ _
              gi_wp2
              exact HFIN.out
            · go_simp
              refine y.out.mono ?_
              rintro _ w4 hEnd
              obtain ⟨b, rfl, a1, a2, a3, a4, a5, a6, a7, a8⟩ := HD3.out.ended hEnd
              have hS4 : w4.cell? ⟨b0, 0, none⟩ = some (.pointer (some ⟨g, 0, none⟩)) ∧ Own w4 w1.heap.size 63 m'.cells := ⟨by rw [HK.out.1]; exact a1.w0.at_ 0, a2.own HB3.out.2.1 (fun e => by have h1 := HB.out.1.low _ e; have h2 := HB.out.1.kept.size; have h3 := H6.out.2.2.2.2.2.2.1; omega)⟩
              have x54 : w4.cell? ⟨b5, 0, none⟩ = some (.slice dA Ds.length dc) := by rw [HK.out.2.2.2.2.2.1]; exact a1.w5.at_ 0
              have HE := Lib.hid (And.intro a1 (And.intro a2 (And.intro a3 (And.intro a4 (And.intro a5 (And.intro a6 (And.intro a7 a8)))))))
              clear hEnd a1 a2 a3 a4 a5 a6 a7 a8
              unfold Bt.val
              refine hK.out _ _ hS4 (fun _ => ?_)
              clear hK K
              try simp only [Act.put, List.setIfInBounds_toArray, List.set_cons_zero, List.set_cons_succ]
              refine wpAnyH_ready (rs := [0, 5]) (by kernel_rfl) (by simp) ?_
              refine AllReadyH.cons rfl (fun K hK => ?_) (AllReadyH.cons rfl (fun K hK => ?_) AllReadyH.nil)
              · go_simp
                refine hK.out _ _ hS4 (fun _ => ?_)
                clear hK K
                try simp only [Act.put, List.setIfInBounds_toArray, List.set_cons_zero, List.set_cons_succ]
                refine wpAnyH_ready (rs := [5]) (by kernel_rfl) (by simp) ?_
                refine AllReadyH.cons rfl (fun K hK => ?_) AllReadyH.nil
                go_simp
                obtain ⟨w5, hw5, hb5, hs5, ho5⟩ := btbox w4 b
                rw [← hw5]
                have hS5 : w5.cell? ⟨b0, 0, none⟩ = some (.pointer (some ⟨g, 0, none⟩)) ∧ Own w5 w1.heap.size 63 m'.cells := ⟨by rw [HK.out.1]; exact (HE.out.1.past hb5).w0.at_ 0, hS4.2.past hb5 hS4.2.inside⟩
                have x55 : w5.cell? ⟨b5, 0, none⟩ = some (.slice dA Ds.length dc) := by rw [HK.out.2.2.2.2.2.1]; exact (HE.out.1.past hb5).w5.at_ 0
                have H5 := Lib.hid (And.intro hw5 (And.intro hb5 (And.intro hs5 ho5)))
                clear hw5 hb5 hs5 ho5
                refine hK.out _ _ hS5 (fun _ => ?_)
                clear hK K
                try simp only [Act.put, List.setIfInBounds_toArray, List.set_cons_zero, List.set_cons_succ]
                refine wpAnyH_ready (rs := [6]) (by kernel_rfl) (by simp) ?_
                refine AllReadyH.cons rfl (fun K hK => ?_) AllReadyH.nil
                refine step_append_anyS (size := 2) (cells := Bt.cells) (l := [b]) (A := some ⟨w4.heap.size, 0, none⟩) (B := w4.heap.size + 1) w5 rfl (.tmp 49) (.tmp 54) 121 61 rfl i0 _ 48 HU.out HI.out.1 HI.out.2.1 HI.out.2.2.1 HI.out.2.2.2 rfl (by decide) (fun _ => rfl) bt_one M (.slice dA Ds.length dc) Ds.length (Ds.flatMap Bt.cells) rfl (HE.out.1.past H5.out.2.1).row 1 rfl (by rw [H5.out.1]; exact bt_lies w4 b) (by have := HDL.out; show Ds.length + 1 ≤ maxLen; unfold maxLen; omega) (by have := HDL.out; show (Ds.length + 1) * 48 ≤ _; omega) (HE.out.1.past H5.out.2.1).hi ?_
                intro v' w6 hr6 hb6 hob6 hg6
                obtain ⟨dA', dc', rfl⟩ := slice_of_row hr6
                rw [blkS_own, blkS_own] at hob6
                rw [blkS_own] at hg6
                have k6 : KeptK w5 w6 (fun q => blkS dA = some q) := KeptK.of_grown hg6 (fun _ e => e)
                have hrM := HE.out.1.rowM
                have hMM := HE.out.1.lo
                have nb0 : ¬ blkS dA = some b0 := fun e => by have h1 := (hrM _ e).1; have h2 := HK.out.1; omega
                have nb5 : ¬ blkS dA = some b5 := fun e => by have h1 := (hrM _ e).1; have h2 := HK.out.2.2.2.2.2.1; omega
                have nbm : ¬ blkS dA = some w1.heap.size := fun e => by have h1 := (HB.out.1.rowM _ e).2; have h2 := H6.out.2.2.2.2.2.2.1; omega
                have hS6 : w6.cell? ⟨b0, 0, none⟩ = some (.pointer (some ⟨g, 0, none⟩)) ∧ Own w6 w1.heap.size 63 m'.cells := ⟨cell_keptK k6 nb0 hS5.1, k6.own hS5.2 nbm⟩
                have o5 : Own w6 b5 121 [.slice dA Ds.length dc] := by
                  have h1 := (HE.out.1.past H5.out.2.1).w5
                  rw [← HK.out.2.2.2.2.2.1] at h1
                  exact k6.own h1 nb5
                have x56 : w6.cell? ⟨b5, 0, none⟩ = some (.slice dA Ds.length dc) := o5.at_ 0
                have f56 : w6.frozen? ⟨b5, 0, none⟩ = false := o5.open_ 0
                have HFIN := Lib.hid (HFN.out b w4 w5 w6 dA' dc' HE.out.1 HE.out.2.1 HE.out.2.2.1 HE.out.2.2.2.1 HE.out.2.2.2.2.1 HE.out.2.2.2.2.2.1 HE.out.2.2.2.2.2.2.1 HE.out.2.2.2.2.2.2.2 H5.out.2.1 H5.out.2.2.1 hr6 hob6 hg6)
                have HS7 := Lib.hid (show (w6.setCell ⟨b5, 0, none⟩ (.slice dA' (Ds.length + 1) dc')).cell? ⟨b0, 0, none⟩ = some (.pointer (some ⟨g, 0, none⟩)) ∧ Own (w6.setCell ⟨b5, 0, none⟩ (.slice dA' (Ds.length + 1) dc')) w1.heap.size 63 m'.cells from by
                  have kk := (KeptK.refl w6 (fun q => q = b5)).set_ (o := 0) (.inl rfl) (.slice dA' (Ds.length + 1) dc')
                  have hWX := HB.out.1.kept.size
                  have hXw := H6.out.2.2.2.2.2.2.1
                  have hb5 := HB.out.1.w5.inside
                  have h5 := HK.out.2.2.2.2.2.1
                  have h0 := HK.out.1
                  exact ⟨cell_keptK kk (by show ¬ b0 = b5; omega) hS6.1, kk.own hS6.2 (by omega)⟩)
                clear hr6 hb6 hob6 hg6 k6 hrM hMM nb0 nb5 nbm o5
                refine hK.out _ _ hS6 (fun _ => ?_)
                clear hK K
                try simp only [Act.put, List.setIfInBounds_toArray, List.set_cons_zero, List.set_cons_succ]
                refine wpAnyH_ready (rs := [7]) (by kernel_rfl) (by simp) ?_
                refine AllReadyH.cons rfl (fun K hK => ?_) AllReadyH.nil
                go_simp
                refine hK.out _ _ HS7.out (fun _ => ?_)
                clear hK K
                refine wpAnyH_done (by kernel_rfl) ?_ _
                gi_wp2
                exact HFIN.out
              · go_simp
                obtain ⟨w5, hw5, hb5, hs5, ho5⟩ := btbox w4 b
                rw [← hw5]
                have hS5 : w5.cell? ⟨b0, 0, none⟩ = some (.pointer (some ⟨g, 0, none⟩)) ∧ Own w5 w1.heap.size 63 m'.cells := ⟨by rw [HK.out.1]; exact (HE.out.1.past hb5).w0.at_ 0, hS4.2.past hb5 hS4.2.inside⟩
                have x55 : w5.cell? ⟨b5, 0, none⟩ = some (.slice dA Ds.length dc) := by rw [HK.out.2.2.2.2.2.1]; exact (HE.out.1.past hb5).w5.at_ 0
                have H5 := Lib.hid (And.intro hw5 (And.intro hb5 (And.intro hs5 ho5)))
                clear hw5 hb5 hs5 ho5
                refine hK.out _ _ hS5 (fun _ => ?_)
                clear hK K
                try simp only [Act.put, List.setIfInBounds_toArray, List.set_cons_zero, List.set_cons_succ]
                refine wpAnyH_ready (rs := [0]) (by kernel_rfl) (by simp) ?_
                refine AllReadyH.cons rfl (fun K hK => ?_) AllReadyH.nil
                go_simp
                refine hK.out _ _ hS5 (fun _ => ?_)
                clear hK K
                try simp only [Act.put, List.setIfInBounds_toArray, List.set_cons_zero, List.set_cons_succ]
                refine wpAnyH_ready (rs := [6]) (by kernel_rfl) (by simp) ?_
                refine AllReadyH.cons rfl (fun K hK => ?_) AllReadyH.nil
                refine step_append_anyS (size := 2) (cells := Bt.cells) (l := [b]) (A := some ⟨w4.heap.size, 0, none⟩) (B := w4.heap.size + 1) w5 rfl (.tmp 49) (.tmp 54) 121 61 rfl i0 _ 48 HU.out HI.out.1 HI.out.2.1 HI.out.2.2.1 HI.out.2.2.2 rfl (by decide) (fun _ => rfl) bt_one M (.slice dA Ds.length dc) Ds.length (Ds.flatMap Bt.cells) rfl (HE.out.1.past H5.out.2.1).row 1 rfl (by rw [H5.out.1]; exact bt_lies w4 b) (by have := HDL.out; show Ds.length + 1 ≤ maxLen; unfold maxLen; omega) (by have := HDL.out; show (Ds.length + 1) * 48 ≤ _; omega) (HE.out.1.past H5.out.2.1).hi ?_
                intro v' w6 hr6 hb6 hob6 hg6
                obtain ⟨dA', dc', rfl⟩ := slice_of_row hr6
                rw [blkS_own, blkS_own] at hob6
                rw [blkS_own] at hg6
                have k6 : KeptK w5 w6 (fun q => blkS dA = some q) := KeptK.of_grown hg6 (fun _ e => e)
                have hrM := HE.out.1.rowM
                have hMM := HE.out.1.lo
                have nb0 : ¬ blkS dA = some b0 := fun e => by have h1 := (hrM _ e).1; have h2 := HK.out.1; omega
                have nb5 : ¬ blkS dA = some b5 := fun e => by have h1 := (hrM _ e).1; have h2 := HK.out.2.2.2.2.2.1; omega
                have nbm : ¬ blkS dA = some w1.heap.size := fun e => by have h1 := (HB.out.1.rowM _ e).2; have h2 := H6.out.2.2.2.2.2.2.1; omega
                have hS6 : w6.cell? ⟨b0, 0, none⟩ = some (.pointer (some ⟨g, 0, none⟩)) ∧ Own w6 w1.heap.size 63 m'.cells := ⟨cell_keptK k6 nb0 hS5.1, k6.own hS5.2 nbm⟩
                have o5 : Own w6 b5 121 [.slice dA Ds.length dc] := by
                  have h1 := (HE.out.1.past H5.out.2.1).w5
                  rw [← HK.out.2.2.2.2.2.1] at h1
                  exact k6.own h1 nb5
                have x56 : w6.cell? ⟨b5, 0, none⟩ = some (.slice dA Ds.length dc) := o5.at_ 0
                have f56 : w6.frozen? ⟨b5, 0, none⟩ = false := o5.open_ 0
                have HFIN := Lib.hid (HFN.out b w4 w5 w6 dA' dc' HE.out.1 HE.out.2.1 HE.out.2.2.1 HE.out.2.2.2.1 HE.out.2.2.2.2.1 HE.out.2.2.2.2.2.1 HE.out.2.2.2.2.2.2.1 HE.out.2.2.2.2.2.2.2 H5.out.2.1 H5.out.2.2.1 hr6 hob6 hg6)
                have HS7 := Lib.hid (show (w6.setCell ⟨b5, 0, none⟩ (.slice dA' (Ds.length + 1) dc')).cell? ⟨b0, 0, none⟩ = some (.pointer (some ⟨g, 0, none⟩)) ∧ Own (w6.setCell ⟨b5, 0, none⟩ (.slice dA' (Ds.length + 1) dc')) w1.heap.size 63 m'.cells from by
                  have kk := (KeptK.refl w6 (fun q => q = b5)).set_ (o := 0) (.inl rfl) (.slice dA' (Ds.length + 1) dc')
                  have hWX := HB.out.1.kept.size
                  have hXw := H6.out.2.2.2.2.2.2.1
                  have hb5 := HB.out.1.w5.inside
                  have h5 := HK.out.2.2.2.2.2.1
                  have h0 := HK.out.1
                  exact ⟨cell_keptK kk (by show ¬ b0 = b5; omega) hS6.1, kk.own hS6.2 (by omega)⟩)
                clear hr6 hb6 hob6 hg6 k6 hrM hMM nb0 nb5 nbm o5
                refine hK.out _ _ hS6 (fun _ => ?_)
                clear hK K
                try simp only [Act.put, List.setIfInBounds_toArray, List.set_cons_zero, List.set_cons_succ]
                refine wpAnyH_ready (rs := [7]) (by kernel_rfl) (by simp) ?_
                refine AllReadyH.cons rfl (fun K hK => ?_) AllReadyH.nil
                go_simp
                refine hK.out _ _ HS7.out (fun _ => ?_)
                clear hK K
                refine wpAnyH_done (by kernel_rfl) ?_ _
                gi_wp2
                exact HFIN.out
    case done =>
      rintro D M X hD ⟨s1, Ds, c, dA, dc, h1, h2⟩ hk
      exact ⟨D, hD, hk, rfl, .inl ⟨.inl rfl, M, 0, s1, Ds, c, dA, dc, h1, h2, .inl rfl⟩⟩
    case stop =>
      rintro D M j X hD hh hk
      rcases hh with ⟨rfl, h1⟩ | ⟨rfl, p, s1, Ds, c, dA, dc, h1, h2, h3⟩
      · exact wpIn_ret ⟨D, hD, hk, rfl, .inr ⟨rfl, h1⟩⟩
      · exact wpIn_exit ⟨D, hD, hk, rfl, .inl ⟨.inr rfl, M, p, s1, Ds, c, dA, dc, h1, h2, .inr h3⟩⟩
  case after =>
    rintro e a X ⟨D, hD, hk, rfl, hh⟩
    rcases hh with ⟨he, M, p, s1, Ds, c, dA, dc, h1, h2, h3⟩ | ⟨rfl, h1⟩
    · refine inBlock_two he ?_
      have hDs : Ds.length ≤ 1048576 := by
        have e1 := h2.busy
        have e2 : busyN s.L ≤ s.L.length := List.length_filter_le ..
        omega
      have H1 := Lib.hid (h1.toP h2)
      have H2 := Lib.hid (And.intro h2 h3)
      have d5 : X.cell? ⟨b5, 0, none⟩ = some (.slice dA Ds.length dc) := by rw [HK.out.2.2.2.2.2.1]; exact h1.w5.at_ 0
      clear h1 h2 h3
      gi_wp2
      have hDX := (Array.getElem?_eq_some_iff.1 hk).1
      have HD := Lib.hid (And.intro hD hDX)
      gi_loopw [58] (fun v wr => ∃ (j : Nat) (sj : Sp), v = .int .i64 (j : Int) ∧ j ≤ Ds.length ∧ WkP W X base g s M Ds c dA dc s1.L j sj wr ∧ wr.heap[D]? = some (.deferred (some []))) (fun v _ => Ds.length - (intOf v).toNat)
      case atStart => exact ⟨0, s1, rfl, Nat.zero_le _, H1.out, hk⟩
      case round =>
        obtain ⟨j, sj, rfl, hj, hp, hkd⟩ := hrel
        by_cases hlt : j < Ds.length
        · obtain ⟨d, hd⟩ : ∃ d, Ds[j]? = some d := ⟨_, List.getElem?_eq_getElem hlt⟩
          obtain ⟨Gd, hGd, r0, r1⟩ := row_two (n := 0) hp.row hd
          have HG := Lib.hid hGd
          obtain ⟨V2, hV2, hb2, hs2, ho2⟩ := btbox wr d
          have hp2 := hp.past hb2
          have y := Lib.hid (put_any base g _ sj d V2 (hp2.may hwt H2.out.1.each hd) (Nat.le_refl _))
          have a0 : V2.cell? ⟨b0, 0, none⟩ = some (.pointer (some ⟨g, 0, none⟩)) := by rw [HK.out.1]; exact hp2.w0.at_ 0
          obtain ⟨e0, e1⟩ := own2 ho2
          have HP := Lib.hid (And.intro hp2 (And.intro hd (And.intro hlt ((hb2.block D (Array.getElem?_eq_some_iff.1 hkd).1).trans hkd))))
          have q0 : (0 : Int) ≤ (j : Int) := by omega
          have q1 : (j : Int) < (Ds.length : Int) := by omega
          have q2 : IntKind.i64.wrap ((j : Int) + 1) = ((j + 1 : Nat) : Int) := by rw [IntKind.wrap_i64]; omega
          unfold Bt.val at y
          rw [hGd]
          clear hp hp2 hd hb2 hs2 ho2 hkd hGd hk hD hDX
          subst hV2
          gi_wp2
          refine ⟨trivial, (callsIn_wide.2 y.out).mono ?_⟩
          rintro _ w9 ⟨E9, rfl, hk9, h9⟩
          obtain ⟨u0, u2, u3, u4, uk, us⟩ := HP.out.1.vars hk9
          have nD : ¬ SpS g sj.lA D := fun e => by
            have hsz := HK.out.2.2.2.2.2.2.2
            have hD0 := HD.out
            rcases us D e with e | e <;> omega
          have hd9 : w9.heap[D]? = some (.deferred (some [])) := (hk9.block D (Array.getElem?_eq_some_iff.1 HP.out.2.2.2).1 nD).trans HP.out.2.2.2
          clear y e0 e1 a0 r0 r1 us nD
          by_cases hE : E9 = 0
          · obtain ⟨s2, ho⟩ : ∃ s2, PutOut base g sj d.l 1 d.l.length _ w9 s2 := by
              rcases h9 with ⟨_, h⟩ | h
              · exact h
              · have := h.1; omega
            have HN := Lib.hid (And.intro (HP.out.1.next HP.out.2.1 hk9 ho) hd9)
            subst hE
            clear hk9 h9 u0 u2 u3 u4 uk hd9 ho
            gi_wp2
            go_roundw
            case rel => exact ⟨j + 1, s2, by first | rfl | rw [q2], HP.out.2.2.1, by have := HN.out.1; rw [HG.out] at this; exact this, HN.out.2⟩
            case measure => simp [intOf]; omega
          · have h10 : E9 = 10 := by
              rcases h9 with ⟨h, _⟩ | h
              · exact absurd h hE
              · exact h.1
            subst h10
            have f2 : w9.frozen? ⟨b2, 0, none⟩ = false := by rw [HK.out.2.2.1]; exact u2.open_ 0
            have f3 : w9.frozen? ⟨b3, 0, none⟩ = false := by rw [HK.out.2.2.2.1]; exact u3.open_ 0
            have c2 : w9.cell? ⟨b2, 0, none⟩ = some (.int .i64 0) := by rw [HK.out.2.2.1]; exact u2.at_ 0
            have c3 : w9.cell? ⟨b3, 0, none⟩ = some (.int .i64 0) := by rw [HK.out.2.2.2.1]; exact u3.at_ 0
            have HE := Lib.hid (And.intro u2 (And.intro u3 (And.intro uk hd9)))
            have hne : b3 ≠ b2 := by rw [HK.out.2.2.1, HK.out.2.2.2.1]; omega
            clear hk9 h9 u0 u2 u3 u4 uk hd9 hE
            have HR := Lib.hid (work_ret HK.out.2.2.1 HK.out.2.2.2.1 (by have := HK.out.2.2.2.2.2.2.2; have := HD.out.1; omega) HE.out.1 HE.out.2.1 HE.out.2.2.1 HE.out.2.2.2 (.int .i64 0) (.int .i64 10))
            gi_wp2
            obtain ⟨z1, z2, z3, z4⟩ := HR.out
            refine ⟨by simp, .inl ⟨_, _, rfl, run_takeDeferred z1, ?_⟩⟩
            exact ⟨.tuple #[.int .i64 0, .int .i64 10], by simp [results, Tryz.results23, go_sem, z2, z3], 0, 10, rfl, z4, .inr ⟨rfl, rfl⟩⟩
        · obtain rfl : j = Ds.length := by omega
          have c4 : wr.cell? ⟨b4, 0, none⟩ = some (.int .i64 (c : Int)) := by rw [HK.out.2.2.2.2.1]; exact hp.w4.at_ 0
          have f2 : wr.frozen? ⟨b2, 0, none⟩ = false := by rw [HK.out.2.2.1]; exact hp.w2.open_ 0
          have f3 : wr.frozen? ⟨b3, 0, none⟩ = false := by rw [HK.out.2.2.2.1]; exact hp.w3.open_ 0
          have c2 : wr.cell? ⟨b2, 0, none⟩ = some (.int .i64 0) := by rw [HK.out.2.2.1]; exact hp.w2.at_ 0
          have c3 : wr.cell? ⟨b3, 0, none⟩ = some (.int .i64 0) := by rw [HK.out.2.2.2.1]; exact hp.w3.at_ 0
          have hne : b3 ≠ b2 := by rw [HK.out.2.2.1, HK.out.2.2.2.1]; omega
          have HR := Lib.hid (work_ret HK.out.2.2.1 HK.out.2.2.2.1 (by have := HK.out.2.2.2.2.2.2.2; have := HD.out.1; omega) hp.w2 hp.w3 hp.kept hkd (.int .i64 (c : Int)) (.int .i64 0))
          have HF := Lib.hid (And.intro hp (And.intro (H2.out.1.done H2.out.2 hp.st) (hp.end_ HK.out.2.2.1 HK.out.2.2.2.1 (by have := HK.out.2.2.2.2.2.2.2; have := HD.out.1; omega) hkd (.int .i64 (c : Int)) (.int .i64 0))))
          clear hp hkd hk hD hDX
          gi_wp2
          obtain ⟨z1, z2, z3, z4⟩ := HR.out
          refine ⟨by simp, .inl ⟨_, _, rfl, run_takeDeferred z1, ?_⟩⟩
          exact ⟨.tuple #[.int .i64 (c : Int), .int .i64 0], by simp [results, Tryz.results23, go_sem, z2, z3], c, 0, rfl, z4, .inl ⟨rfl, sj, HF.out.2.2, HF.out.1.e1, HF.out.1.e2, HF.out.1.e3, HF.out.2.1⟩⟩
    · obtain ⟨z1, z2, z3⟩ := h1
      have hg2 := grownBy_putObj' X D (.deferred none)
      have hr2 : Bare X (some D) := fun r e => by cases e; exact ⟨_, hk, rfl⟩
      have k8 := HK.out.2.2.2.2.2.2.2
      have y2 : (X.putObj D (.deferred none)).cell? ⟨b2, 0, none⟩ = some (.int .i64 0) := by rw [HK.out.2.2.1]; exact (z2.turn hg2 hr2).at_ 0
      have y3 : (X.putObj D (.deferred none)).cell? ⟨b3, 0, none⟩ = some (.int .i64 10) := by rw [HK.out.2.2.2.1]; exact (z3.turn hg2 hr2).at_ 0
      have y4 := z1.turn (B' := W.heap.size) hg2 (fun r e => by cases e; omega) (Nat.le_refl _)
      refine ⟨by simp, .inl ⟨_, _, rfl, run_takeDeferred hk, ?_⟩⟩
      exact ⟨.tuple #[.int .i64 0, .int .i64 10], by simp [results, Tryz.results23, go_sem, y2, y3], 0, 10, rfl, y4, .inr ⟨rfl, rfl⟩⟩
end Go.Proofs.YtenjlhlighkenaaGreat
namespace Go.Proofs.YtenjlhlighkenaaGreat
open Go Go.RowKit

set_option maxRecDepth 100000 in
set_option maxHeartbeats 25600000 in
theorem rightB_any (cl : Int) (b : Bt) (m : Mg) (A : Option Addr) (c : Nat) (f : List Tm) (w : World) (hl : LvIn w w.heap.size ⟨cl, true, b, m⟩) (ol : LvOk ⟨cl, true, b, m⟩) (hf : Times w w.heap.size A f) (hfo : TsOk f c) :
    Calls Tryz.prog 28 #[(⟨cl, true, b, m⟩ : Lv).val, .slice A f.length c] w (Tells (LvGood f ⟨cl, true, b, m⟩) w) := by
  obtain ⟨V, hV, hvb, hvs, hvo⟩ := lvbox w ⟨cl, true, b, m⟩
  obtain ⟨a0, a1, a2, a3, a4, a5, a6, a7, a8, a9⟩ := own10 hvo
  have hin := hl.keep hvb
  have hfV := (hf.past hvb (Nat.le_refl _)).wide hvb.size
  have HL := Lib.hid (And.intro hin.b (And.intro hin.m (And.intro ol.b (And.intro ol.m (And.intro hfV hfo)))))
  have HB := Lib.hid (And.intro hvb hvo)
  have hlt : w.heap.size < V.heap.size := hvo.inside
  rw [show (⟨cl, true, b, m⟩ : Lv).val = .agg #[.int .i64 cl, .bool true, .slice b.sA b.f.length b.sc, .slice b.uA b.l.length b.uc, .slice m.aA m.a.length m.ac, .slice m.bA m.b.length m.bc, .int .i64 m.i, .int .i64 m.j, .slice m.sA m.f.length m.sc, .slice m.oA m.o.length m.oc] from rfl]
  dsimp only at hV a0 a1 a2 a3 a4 a5 a6 a7 a8 a9
  clear hl ol hf hfo hvb hvs hvo hin hfV
  go_enter Tryz.func28, Tryz.ntmps28
  go_upto_region 1 with fail
  rw [← hV]
  clear hV
  go_cut [5, 6] (fun s5 s6 wx => ∃ P Q : Nat, s5 = .pointer (some ⟨P, 0, none⟩) ∧ s6 = .pointer (some ⟨Q, 0, none⟩) ∧ Own wx P 61 b.cells ∧ Own wx Q 63 m.cells ∧ Below V.heap.size V wx)
  case first =>
    go_region
    all_goals
      go_wp2_with fail
      go_meet
    · obtain ⟨x1, x2, x3⟩ := two_alloc V 61 63 b.cells m.cells
      exact ⟨_, _, rfl, rfl, x1, x2, x3⟩
    · obtain ⟨x1, x2, x3⟩ := two_alloc V 63 61 m.cells b.cells
      exact ⟨_, _, rfl, rfl, x2, x1, x3⟩
  case rest =>
    obtain ⟨P, Q, rfl, rfl, hP, hQ, hb⟩ := hcut
    have oL := HB.out.2.past hb HB.out.2.inside
    have hX := fun p : Past wc => own10 (oL.past p.h oL.inside)
    have hP2 := fun p : Past wc => own2 (hP.past p.h hP.inside)
    have hQ6 := fun p : Past wc => own6 (hQ.past p.h hQ.inside)
    dsimp only at hX
    have HW := Lib.hid (belows HB.out.1 hb)
    obtain ⟨ib, im, ob, om, hfV, hfo⟩ := HL.out
    have ib := ib.keep hb
    have im := im.keep hb
    have hfV := (hfV.past hb (Nat.le_refl _)).wide hb.size
    have n1 := hfo.n
    have m1 : f.length ≤ maxLen := Nat.le_trans hfo.le hfo.c_
    have n2 := om.f.n
    have n3 := om.a.n
    have n4 := om.b.n
    obtain ⟨z1, hz1⟩ : ∃ z : Bool, ((b.f.length : Int) == 0) = z := ⟨_, rfl⟩
    obtain ⟨z2, hz2⟩ : ∃ z : Bool, ((b.l.length : Int) == 0) = z := ⟨_, rfl⟩
    obtain ⟨c1, hc1⟩ : ∃ z : Bool, ((clsN m.a.length : Int) == cl) = z := ⟨_, rfl⟩
    obtain ⟨c2, hc2⟩ : ∃ z : Bool, ((clsN m.b.length : Int) == cl) = z := ⟨_, rfl⟩
    obtain ⟨K, hK⟩ := code_of (MOk m) 8
    obtain ⟨z3, hz3⟩ : ∃ z : Bool, (K == 0) = z := ⟨_, rfl⟩
    obtain ⟨bl, hbl⟩ := bool_of (LaterF f m.f)
    obtain ⟨lf, hlf⟩ := bool_of (m.i < (m.a.length : Int) ∨ m.j < (m.b.length : Int))
    have u1 := fun p : Past wc => calls_past ((checkM_any m p.w (im.keep p.h) om).mono fun x w' h => codes_is hK h)
    have u2 := fun p : Past wc => calls_past (class_any m.aA m.ac m.a.length p.w n3)
    have u3 := fun p : Past wc => calls_past (class_any m.bA m.bc m.b.length p.w n4)
    have u4 := fun p : Past wc => calls_past ((later_any A c f m.sA m.sc m.f p.w ((hfV.past p.h (Nat.le_refl _)).wide p.h.size) m1 (im.keep p.h).f (Nat.le_trans om.f.le om.f.c_)).mono fun x w' h => tells_is hbl h)
    have u5 := fun p : Past wc => calls_past ((left_anyS m p.w).mono fun x w' h => tells_is hlf h)
    have HE := Lib.hid (show LvGood f ⟨cl, true, b, m⟩ ↔ (z1 = true ∧ z2 = true ∧ z3 = true ∧ c1 = true ∧ c2 = true ∧ bl = true ∧ lf = true) from by
      have e3 : z3 = true ↔ MOk m := by
        rw [← hz3]
        rcases hK with ⟨h1, h2⟩ | ⟨h1, h2⟩
        · rw [h2]; exact ⟨fun _ => h1, fun _ => rfl⟩
        · rw [h2]; exact ⟨fun h => (by cases h), fun h => absurd h h1⟩
      have e1 : z1 = true ↔ b.f = [] := by rw [← hz1, beq_iff_eq, ← List.length_eq_zero_iff]; omega
      have e2 : z2 = true ↔ b.l = [] := by rw [← hz2, beq_iff_eq, ← List.length_eq_zero_iff]; omega
      have e4 : c1 = true ↔ (clsN m.a.length : Int) = cl := by rw [← hc1, beq_iff_eq]
      have e5 : c2 = true ↔ (clsN m.b.length : Int) = cl := by rw [← hc2, beq_iff_eq]
      rw [e1, e2, e3, e4, e5, hbl, hlf]
      constructor
      · intro h
        obtain ⟨h1, h2, h3, h4, h5, h6, h7⟩ := h.busy rfl
        refine ⟨h1, h2, h3, h4, h5, h6, ?_⟩
        have k1 := h3.da.lo
        have k2 := h3.db.lo
        have h7 : 0 < (m.a.length - m.i.toNat) + (m.b.length - m.j.toNat) := h7
        omega
      · rintro ⟨h1, h2, h3, h4, h5, h6, h7⟩
        refine ⟨fun _ => ⟨h1, h2, h3, h4, h5, h6, ?_⟩, fun h => (by cases h)⟩
        have k1 := h3.da.lo
        have k2 := h3.db.lo
        show 0 < (m.a.length - m.i.toNat) + (m.b.length - m.j.toNat)
        omega)
    obtain ⟨a0, a1, a2, a3, a4, a5, a6, a7, a8, a9⟩ := hX ⟨wc, Below.refl _ _⟩
    obtain ⟨b0, b1⟩ := hP2 ⟨wc, Below.refl _ _⟩
    dsimp only at a0 a1 a2 a3 a4 a5 a6 a7 a8 a9 b0 b1
    clear hbl hlf hK HL HB oL hP hQ hb ib im ob om hfV hfo m1 n1 n2 n3 n4
    unfold Mg.val at u1 u5
    cases z1 with
    | false =>
      go_upto_region 4 with fail
      clear a0 a1 a2 a3 a4 a5 a6 a7 a8 a9 b0 b1
      refine wp_region_past wc (by kernel_rfl) (by kernel_rfl) (Below.refl _ _) ?_
      repeat (first | go_big_quiet_step (fail) | quiet_step (fail))
      refine wpQuiet_nil ?_
      intro wz hw'
      obtain ⟨⟨wy, hbz⟩, hw''⟩ := hw'
      dsimp only at hw''
      subst hw''
      have HZ := Lib.hid (belows HW.out hbz)
      clear hX hP2 hQ6 hbz
      go_wp2_with fail
      go_ret
      exact ⟨false, rfl, (HE.out.trans (by simp)).symm, HZ.out⟩
    | true =>
    cases z2 with
    | false =>
      go_upto_region 4 with fail
      clear a0 a1 a2 a3 a4 a5 a6 a7 a8 a9 b0 b1
      refine wp_region_past wc (by kernel_rfl) (by kernel_rfl) (Below.refl _ _) ?_
      repeat (first | go_big_quiet_step (fail) | quiet_step (fail))
      refine wpQuiet_nil ?_
      intro wz hw'
      obtain ⟨⟨wy, hbz⟩, hw''⟩ := hw'
      dsimp only at hw''
      subst hw''
      have HZ := Lib.hid (belows HW.out hbz)
      clear hX hP2 hQ6 hbz
      go_wp2_with fail
      go_ret
      exact ⟨false, rfl, (HE.out.trans (by simp)).symm, HZ.out⟩
    | true =>
    cases z3 with
    | false =>
      go_upto_region 4 with fail
      clear a0 a1 a2 a3 a4 a5 a6 a7 a8 a9 b0 b1
      refine wp_region_past wc (by kernel_rfl) (by kernel_rfl) (Below.refl _ _) ?_
      repeat (first | go_big_quiet_step (fail) | quiet_step (fail))
      quiet_step ((go_at_call 60; exact u1 _))
      repeat (first | go_big_quiet_step (fail) | quiet_step (fail))
      refine wpQuiet_nil ?_
      intro wz hw'
      obtain ⟨⟨wy, hbz⟩, hw''⟩ := hw'
      dsimp only at hw''
      subst hw''
      have HZ := Lib.hid (belows HW.out hbz)
      clear hX hP2 hQ6 hbz
      go_wp2_with fail
      go_ret
      exact ⟨false, rfl, (HE.out.trans (by simp)).symm, HZ.out⟩
    | true =>
    cases c1 with
    | false =>
      go_upto_region 4 with fail
      clear a0 a1 a2 a3 a4 a5 a6 a7 a8 a9 b0 b1
      refine wp_region_past wc (by kernel_rfl) (by kernel_rfl) (Below.refl _ _) ?_
      repeat (first | go_big_quiet_step (fail) | quiet_step (fail))
      quiet_step ((go_at_call 60; exact u1 _))
      repeat (first | go_big_quiet_step (fail) | quiet_step (fail))
      quiet_step ((go_at_call 48; exact u2 _))
      repeat (first | go_big_quiet_step (fail) | quiet_step (fail))
      refine wpQuiet_nil ?_
      intro wz hw'
      obtain ⟨⟨wy, hbz⟩, hw''⟩ := hw'
      dsimp only at hw''
      subst hw''
      have HZ := Lib.hid (belows HW.out hbz)
      clear hX hP2 hQ6 hbz
      go_wp2_with fail
      go_ret
      exact ⟨false, rfl, (HE.out.trans (by simp)).symm, HZ.out⟩
    | true =>
    cases c2 with
    | false =>
      go_upto_region 4 with fail
      clear a0 a1 a2 a3 a4 a5 a6 a7 a8 a9 b0 b1
      refine wp_region_past wc (by kernel_rfl) (by kernel_rfl) (Below.refl _ _) ?_
      repeat (first | go_big_quiet_step (fail) | quiet_step (fail))
      quiet_step ((go_at_call 60; exact u1 _))
      repeat (first | go_big_quiet_step (fail) | quiet_step (fail))
      quiet_step ((go_at_call 48; exact u2 _))
      repeat (first | go_big_quiet_step (fail) | quiet_step (fail))
      quiet_step ((go_at_call 48; exact u3 _))
      repeat (first | go_big_quiet_step (fail) | quiet_step (fail))
      refine wpQuiet_nil ?_
      intro wz hw'
      obtain ⟨⟨wy, hbz⟩, hw''⟩ := hw'
      dsimp only at hw''
      subst hw''
      have HZ := Lib.hid (belows HW.out hbz)
      clear hX hP2 hQ6 hbz
      go_wp2_with fail
      go_ret
      exact ⟨false, rfl, (HE.out.trans (by simp)).symm, HZ.out⟩
    | true =>
    cases bl with
    | false =>
      go_upto_region 4 with fail
      clear a0 a1 a2 a3 a4 a5 a6 a7 a8 a9 b0 b1
      refine wp_region_past wc (by kernel_rfl) (by kernel_rfl) (Below.refl _ _) ?_
      repeat (first | go_big_quiet_step (fail) | quiet_step (fail))
      quiet_step ((go_at_call 60; exact u1 _))
      repeat (first | go_big_quiet_step (fail) | quiet_step (fail))
      quiet_step ((go_at_call 48; exact u2 _))
      repeat (first | go_big_quiet_step (fail) | quiet_step (fail))
      quiet_step ((go_at_call 48; exact u3 _))
      repeat (first | go_big_quiet_step (fail) | quiet_step (fail))
      quiet_step ((go_at_call 25; exact u4 _))
      repeat (first | go_big_quiet_step (fail) | quiet_step (fail))
      refine wpQuiet_nil ?_
      intro wz hw'
      obtain ⟨⟨wy, hbz⟩, hw''⟩ := hw'
      dsimp only at hw''
      subst hw''
      have HZ := Lib.hid (belows HW.out hbz)
      clear hX hP2 hQ6 hbz
      go_wp2_with fail
      go_ret
      exact ⟨false, rfl, (HE.out.trans (by simp)).symm, HZ.out⟩
    | true =>
    cases lf with
    | false =>
      go_upto_region 4 with fail
      clear a0 a1 a2 a3 a4 a5 a6 a7 a8 a9 b0 b1
      refine wp_region_past wc (by kernel_rfl) (by kernel_rfl) (Below.refl _ _) ?_
      repeat (first | go_big_quiet_step (fail) | quiet_step (fail))
      quiet_step ((go_at_call 60; exact u1 _))
      repeat (first | go_big_quiet_step (fail) | quiet_step (fail))
      quiet_step ((go_at_call 48; exact u2 _))
      repeat (first | go_big_quiet_step (fail) | quiet_step (fail))
      quiet_step ((go_at_call 48; exact u3 _))
      repeat (first | go_big_quiet_step (fail) | quiet_step (fail))
      quiet_step ((go_at_call 25; exact u4 _))
      repeat (first | go_big_quiet_step (fail) | quiet_step (fail))
      quiet_step ((go_at_call 56; exact u5 _))
      repeat (first | go_big_quiet_step (fail) | quiet_step (fail))
      refine wpQuiet_nil ?_
      intro wz hw'
      obtain ⟨⟨wy, hbz⟩, hw''⟩ := hw'
      dsimp only at hw''
      subst hw''
      have HZ := Lib.hid (belows HW.out hbz)
      clear hX hP2 hQ6 hbz
      go_wp2_with fail
      go_ret
      exact ⟨false, rfl, (HE.out.trans (by simp)).symm, HZ.out⟩
    | true =>
      go_upto_region 4 with fail
      clear a0 a1 a2 a3 a4 a5 a6 a7 a8 a9 b0 b1
      refine wp_region_past wc (by kernel_rfl) (by kernel_rfl) (Below.refl _ _) ?_
      repeat (first | go_big_quiet_step (fail) | quiet_step (fail))
      quiet_step ((go_at_call 60; exact u1 _))
      repeat (first | go_big_quiet_step (fail) | quiet_step (fail))
      quiet_step ((go_at_call 48; exact u2 _))
      repeat (first | go_big_quiet_step (fail) | quiet_step (fail))
      quiet_step ((go_at_call 48; exact u3 _))
      repeat (first | go_big_quiet_step (fail) | quiet_step (fail))
      quiet_step ((go_at_call 25; exact u4 _))
      repeat (first | go_big_quiet_step (fail) | quiet_step (fail))
      quiet_step ((go_at_call 56; exact u5 _))
      repeat (first | go_big_quiet_step (fail) | quiet_step (fail))
      refine wpQuiet_nil ?_
      intro wz hw'
      obtain ⟨⟨wy, hbz⟩, hw''⟩ := hw'
      dsimp only at hw''
      subst hw''
      have HZ := Lib.hid (belows HW.out hbz)
      clear hX hP2 hQ6 hbz
      go_wp2_with fail
      go_ret
      exact ⟨true, rfl, (HE.out.trans (by simp)).symm, HZ.out⟩
end Go.Proofs.YtenjlhlighkenaaGreat
namespace Go.Proofs.YtenjlhlighkenaaGreat
open Go Go.RowKit

set_option maxRecDepth 100000 in
set_option maxHeartbeats 25600000 in
theorem rightI_any (cl : Int) (b : Bt) (m : Mg) (A : Option Addr) (c : Nat) (f : List Tm) (w : World) (hl : LvIn w w.heap.size ⟨cl, false, b, m⟩) (ol : LvOk ⟨cl, false, b, m⟩) (hf : Times w w.heap.size A f) (hfo : TsOk f c) :
    Calls Tryz.prog 28 #[(⟨cl, false, b, m⟩ : Lv).val, .slice A f.length c] w (Tells (LvGood f ⟨cl, false, b, m⟩) w) := by
  obtain ⟨V, hV, hvb, hvs, hvo⟩ := lvbox w ⟨cl, false, b, m⟩
  obtain ⟨a0, a1, a2, a3, a4, a5, a6, a7, a8, a9⟩ := own10 hvo
  have hin := hl.keep hvb
  have hfV := (hf.past hvb (Nat.le_refl _)).wide hvb.size
  have HL := Lib.hid (And.intro hin.b (And.intro hin.m (And.intro ol.b (And.intro ol.m (And.intro hfV hfo)))))
  have HB := Lib.hid (And.intro hvb hvo)
  have hlt : w.heap.size < V.heap.size := hvo.inside
  rw [show (⟨cl, false, b, m⟩ : Lv).val = .agg #[.int .i64 cl, .bool false, .slice b.sA b.f.length b.sc, .slice b.uA b.l.length b.uc, .slice m.aA m.a.length m.ac, .slice m.bA m.b.length m.bc, .int .i64 m.i, .int .i64 m.j, .slice m.sA m.f.length m.sc, .slice m.oA m.o.length m.oc] from rfl]
  dsimp only at hV a0 a1 a2 a3 a4 a5 a6 a7 a8 a9
  clear hl ol hf hfo hvb hvs hvo hin hfV
  go_enter Tryz.func28, Tryz.ntmps28
  go_upto_region 1 with fail
  rw [← hV]
  clear hV
  go_cut [5, 6] (fun s5 s6 wx => ∃ P Q : Nat, s5 = .pointer (some ⟨P, 0, none⟩) ∧ s6 = .pointer (some ⟨Q, 0, none⟩) ∧ Own wx P 61 b.cells ∧ Own wx Q 63 m.cells ∧ Below V.heap.size V wx)
  case first =>
    go_region
    all_goals
      go_wp2_with fail
      go_meet
    · obtain ⟨x1, x2, x3⟩ := two_alloc V 61 63 b.cells m.cells
      exact ⟨_, _, rfl, rfl, x1, x2, x3⟩
    · obtain ⟨x1, x2, x3⟩ := two_alloc V 63 61 m.cells b.cells
      exact ⟨_, _, rfl, rfl, x2, x1, x3⟩
  case rest =>
    obtain ⟨P, Q, rfl, rfl, hP, hQ, hb⟩ := hcut
    have oL := HB.out.2.past hb HB.out.2.inside
    have hX := fun p : Past wc => own10 (oL.past p.h oL.inside)
    have hP2 := fun p : Past wc => own2 (hP.past p.h hP.inside)
    have hQ6 := fun p : Past wc => own6 (hQ.past p.h hQ.inside)
    dsimp only at hX
    have HW := Lib.hid (belows HB.out.1 hb)
    obtain ⟨ib, im, ob, om, hfV, hfo⟩ := HL.out
    have ib := ib.keep hb
    have im := im.keep hb
    have hfV := (hfV.past hb (Nat.le_refl _)).wide hb.size
    have n1 := hfo.n
    have m1 : f.length ≤ maxLen := Nat.le_trans hfo.le hfo.c_
    have n2 := ob.f.n
    have n3 := ob.l.n
    obtain ⟨y1, hy1⟩ : ∃ z : Bool, ((m.a.length : Int) == 0) = z := ⟨_, rfl⟩
    obtain ⟨y2, hy2⟩ : ∃ z : Bool, ((m.b.length : Int) == 0) = z := ⟨_, rfl⟩
    obtain ⟨y3, hy3⟩ : ∃ z : Bool, (m.i == 0) = z := ⟨_, rfl⟩
    obtain ⟨y4, hy4⟩ : ∃ z : Bool, (m.j == 0) = z := ⟨_, rfl⟩
    obtain ⟨y5, hy5⟩ : ∃ z : Bool, ((m.f.length : Int) == 0) = z := ⟨_, rfl⟩
    obtain ⟨y6, hy6⟩ : ∃ z : Bool, ((m.o.length : Int) == 0) = z := ⟨_, rfl⟩
    obtain ⟨c1, hc1⟩ : ∃ z : Bool, ((clsN b.l.length : Int) == cl) = z := ⟨_, rfl⟩
    obtain ⟨K, hK⟩ := code_of (BatchOk b.f b.l) 4
    obtain ⟨z3, hz3⟩ : ∃ z : Bool, (K == 0) = z := ⟨_, rfl⟩
    obtain ⟨bl, hbl⟩ := bool_of (LaterF f b.f)
    have u1 := fun p : Past wc => calls_past ((bcheck_any b p.w (ib.keep p.h) ob).mono fun x w' h => codes_is hK h)
    have u2 := fun p : Past wc => calls_past (class_any b.uA b.uc b.l.length p.w n3)
    have u4 := fun p : Past wc => calls_past ((later_any A c f b.sA b.sc b.f p.w ((hfV.past p.h (Nat.le_refl _)).wide p.h.size) m1 (ib.keep p.h).since (Nat.le_trans ob.f.le ob.f.c_)).mono fun x w' h => tells_is hbl h)
    have HE := Lib.hid (show LvGood f ⟨cl, false, b, m⟩ ↔ (y1 = true ∧ y2 = true ∧ y3 = true ∧ y4 = true ∧ y5 = true ∧ y6 = true ∧ z3 = true ∧ c1 = true ∧ bl = true) from by
      have e3 : z3 = true ↔ BatchOk b.f b.l := by
        rw [← hz3]
        rcases hK with ⟨h1, h2⟩ | ⟨h1, h2⟩
        · rw [h2]; exact ⟨fun _ => h1, fun _ => rfl⟩
        · rw [h2]; exact ⟨fun h => (by cases h), fun h => absurd h h1⟩
      have e1 : y1 = true ↔ m.a = [] := by rw [← hy1, beq_iff_eq, ← List.length_eq_zero_iff]; omega
      have e2 : y2 = true ↔ m.b = [] := by rw [← hy2, beq_iff_eq, ← List.length_eq_zero_iff]; omega
      have e4 : y3 = true ↔ m.i = 0 := by rw [← hy3, beq_iff_eq]
      have e5 : y4 = true ↔ m.j = 0 := by rw [← hy4, beq_iff_eq]
      have e6 : y5 = true ↔ m.f = [] := by rw [← hy5, beq_iff_eq, ← List.length_eq_zero_iff]; omega
      have e7 : y6 = true ↔ m.o = [] := by rw [← hy6, beq_iff_eq, ← List.length_eq_zero_iff]; omega
      have e8 : c1 = true ↔ (clsN b.l.length : Int) = cl := by rw [← hc1, beq_iff_eq]
      rw [e1, e2, e3, e4, e5, e6, e7, e8, hbl]
      constructor
      · intro h
        obtain ⟨⟨h1, h2, h3, h4, h5, h6⟩, h7, h8, h9⟩ := h.idle rfl
        exact ⟨h1, h2, h3, h4, h5, h6, h7, h8, h9⟩
      · rintro ⟨h1, h2, h3, h4, h5, h6, h7, h8, h9⟩
        exact ⟨fun h => (by cases h), fun _ => ⟨⟨h1, h2, h3, h4, h5, h6⟩, h7, h8, h9⟩⟩)
    obtain ⟨a0, a1, a2, a3, a4, a5, a6, a7, a8, a9⟩ := hX ⟨wc, Below.refl _ _⟩
    obtain ⟨b0, b1, b2, b3, b4, b5⟩ := hQ6 ⟨wc, Below.refl _ _⟩
    dsimp only at a0 a1 a2 a3 a4 a5 a6 a7 a8 a9 b0 b1 b2 b3 b4 b5
    clear hbl hK HL HB oL hP hQ hb ib im ob om hfV hfo m1 n1 n2 n3
    unfold Bt.val at u1
    cases y1 with
    | false =>
      go_upto_region 6 with fail
      clear a0 a1 a2 a3 a4 a5 a6 a7 a8 a9 b0 b1 b2 b3 b4 b5
      refine wp_region_past wc (by kernel_rfl) (by kernel_rfl) (Below.refl _ _) ?_
      repeat (first | go_big_quiet_step (fail) | quiet_step (fail))
      refine wpQuiet_nil ?_
      intro wz hw'
      obtain ⟨⟨wy, hbz⟩, hw''⟩ := hw'
      dsimp only at hw''
      subst hw''
      have HZ := Lib.hid (belows HW.out hbz)
      clear hX hP2 hQ6 hbz
      go_wp2_with fail
      go_ret
      exact ⟨false, rfl, (HE.out.trans (by simp)).symm, HZ.out⟩
    | true =>
    cases y2 with
    | false =>
      go_upto_region 6 with fail
      clear a0 a1 a2 a3 a4 a5 a6 a7 a8 a9 b0 b1 b2 b3 b4 b5
      refine wp_region_past wc (by kernel_rfl) (by kernel_rfl) (Below.refl _ _) ?_
      repeat (first | go_big_quiet_step (fail) | quiet_step (fail))
      refine wpQuiet_nil ?_
      intro wz hw'
      obtain ⟨⟨wy, hbz⟩, hw''⟩ := hw'
      dsimp only at hw''
      subst hw''
      have HZ := Lib.hid (belows HW.out hbz)
      clear hX hP2 hQ6 hbz
      go_wp2_with fail
      go_ret
      exact ⟨false, rfl, (HE.out.trans (by simp)).symm, HZ.out⟩
    | true =>
    cases y3 with
    | false =>
      go_upto_region 6 with fail
      clear a0 a1 a2 a3 a4 a5 a6 a7 a8 a9 b0 b1 b2 b3 b4 b5
      refine wp_region_past wc (by kernel_rfl) (by kernel_rfl) (Below.refl _ _) ?_
      repeat (first | go_big_quiet_step (fail) | quiet_step (fail))
      refine wpQuiet_nil ?_
      intro wz hw'
      obtain ⟨⟨wy, hbz⟩, hw''⟩ := hw'
      dsimp only at hw''
      subst hw''
      have HZ := Lib.hid (belows HW.out hbz)
      clear hX hP2 hQ6 hbz
      go_wp2_with fail
      go_ret
      exact ⟨false, rfl, (HE.out.trans (by simp)).symm, HZ.out⟩
    | true =>
    cases y4 with
    | false =>
      go_upto_region 6 with fail
      clear a0 a1 a2 a3 a4 a5 a6 a7 a8 a9 b0 b1 b2 b3 b4 b5
      refine wp_region_past wc (by kernel_rfl) (by kernel_rfl) (Below.refl _ _) ?_
      repeat (first | go_big_quiet_step (fail) | quiet_step (fail))
      refine wpQuiet_nil ?_
      intro wz hw'
      obtain ⟨⟨wy, hbz⟩, hw''⟩ := hw'
      dsimp only at hw''
      subst hw''
      have HZ := Lib.hid (belows HW.out hbz)
      clear hX hP2 hQ6 hbz
      go_wp2_with fail
      go_ret
      exact ⟨false, rfl, (HE.out.trans (by simp)).symm, HZ.out⟩
    | true =>
    cases y5 with
    | false =>
      go_upto_region 6 with fail
      clear a0 a1 a2 a3 a4 a5 a6 a7 a8 a9 b0 b1 b2 b3 b4 b5
      refine wp_region_past wc (by kernel_rfl) (by kernel_rfl) (Below.refl _ _) ?_
      repeat (first | go_big_quiet_step (fail) | quiet_step (fail))
      refine wpQuiet_nil ?_
      intro wz hw'
      obtain ⟨⟨wy, hbz⟩, hw''⟩ := hw'
      dsimp only at hw''
      subst hw''
      have HZ := Lib.hid (belows HW.out hbz)
      clear hX hP2 hQ6 hbz
      go_wp2_with fail
      go_ret
      exact ⟨false, rfl, (HE.out.trans (by simp)).symm, HZ.out⟩
    | true =>
    cases y6 with
    | false =>
      go_upto_region 6 with fail
      clear a0 a1 a2 a3 a4 a5 a6 a7 a8 a9 b0 b1 b2 b3 b4 b5
      refine wp_region_past wc (by kernel_rfl) (by kernel_rfl) (Below.refl _ _) ?_
      repeat (first | go_big_quiet_step (fail) | quiet_step (fail))
      refine wpQuiet_nil ?_
      intro wz hw'
      obtain ⟨⟨wy, hbz⟩, hw''⟩ := hw'
      dsimp only at hw''
      subst hw''
      have HZ := Lib.hid (belows HW.out hbz)
      clear hX hP2 hQ6 hbz
      go_wp2_with fail
      go_ret
      exact ⟨false, rfl, (HE.out.trans (by simp)).symm, HZ.out⟩
    | true =>
    cases z3 with
    | false =>
      go_upto_region 6 with fail
      clear a0 a1 a2 a3 a4 a5 a6 a7 a8 a9 b0 b1 b2 b3 b4 b5
      refine wp_region_past wc (by kernel_rfl) (by kernel_rfl) (Below.refl _ _) ?_
      repeat (first | go_big_quiet_step (fail) | quiet_step (fail))
      quiet_step ((go_at_call 57; exact u1 _))
      repeat (first | go_big_quiet_step (fail) | quiet_step (fail))
      refine wpQuiet_nil ?_
      intro wz hw'
      obtain ⟨⟨wy, hbz⟩, hw''⟩ := hw'
      dsimp only at hw''
      subst hw''
      have HZ := Lib.hid (belows HW.out hbz)
      clear hX hP2 hQ6 hbz
      go_wp2_with fail
      go_ret
      exact ⟨false, rfl, (HE.out.trans (by simp)).symm, HZ.out⟩
    | true =>
    cases c1 with
    | false =>
      go_upto_region 6 with fail
      clear a0 a1 a2 a3 a4 a5 a6 a7 a8 a9 b0 b1 b2 b3 b4 b5
      refine wp_region_past wc (by kernel_rfl) (by kernel_rfl) (Below.refl _ _) ?_
      repeat (first | go_big_quiet_step (fail) | quiet_step (fail))
      quiet_step ((go_at_call 57; exact u1 _))
      repeat (first | go_big_quiet_step (fail) | quiet_step (fail))
      quiet_step ((go_at_call 48; exact u2 _))
      repeat (first | go_big_quiet_step (fail) | quiet_step (fail))
      refine wpQuiet_nil ?_
      intro wz hw'
      obtain ⟨⟨wy, hbz⟩, hw''⟩ := hw'
      dsimp only at hw''
      subst hw''
      have HZ := Lib.hid (belows HW.out hbz)
      clear hX hP2 hQ6 hbz
      go_wp2_with fail
      go_ret
      exact ⟨false, rfl, (HE.out.trans (by simp)).symm, HZ.out⟩
    | true =>
    cases bl with
    | false =>
      go_upto_region 6 with fail
      clear a0 a1 a2 a3 a4 a5 a6 a7 a8 a9 b0 b1 b2 b3 b4 b5
      refine wp_region_past wc (by kernel_rfl) (by kernel_rfl) (Below.refl _ _) ?_
      repeat (first | go_big_quiet_step (fail) | quiet_step (fail))
      quiet_step ((go_at_call 57; exact u1 _))
      repeat (first | go_big_quiet_step (fail) | quiet_step (fail))
      quiet_step ((go_at_call 48; exact u2 _))
      repeat (first | go_big_quiet_step (fail) | quiet_step (fail))
      quiet_step ((go_at_call 25; exact u4 _))
      repeat (first | go_big_quiet_step (fail) | quiet_step (fail))
      refine wpQuiet_nil ?_
      intro wz hw'
      obtain ⟨⟨wy, hbz⟩, hw''⟩ := hw'
      dsimp only at hw''
      subst hw''
      have HZ := Lib.hid (belows HW.out hbz)
      clear hX hP2 hQ6 hbz
      go_wp2_with fail
      go_ret
      exact ⟨false, rfl, (HE.out.trans (by simp)).symm, HZ.out⟩
    | true =>
      go_upto_region 6 with fail
      clear a0 a1 a2 a3 a4 a5 a6 a7 a8 a9 b0 b1 b2 b3 b4 b5
      refine wp_region_past wc (by kernel_rfl) (by kernel_rfl) (Below.refl _ _) ?_
      repeat (first | go_big_quiet_step (fail) | quiet_step (fail))
      quiet_step ((go_at_call 57; exact u1 _))
      repeat (first | go_big_quiet_step (fail) | quiet_step (fail))
      quiet_step ((go_at_call 48; exact u2 _))
      repeat (first | go_big_quiet_step (fail) | quiet_step (fail))
      quiet_step ((go_at_call 25; exact u4 _))
      repeat (first | go_big_quiet_step (fail) | quiet_step (fail))
      refine wpQuiet_nil ?_
      intro wz hw'
      obtain ⟨⟨wy, hbz⟩, hw''⟩ := hw'
      dsimp only at hw''
      subst hw''
      have HZ := Lib.hid (belows HW.out hbz)
      clear hX hP2 hQ6 hbz
      go_wp2_with fail
      go_ret
      exact ⟨true, rfl, (HE.out.trans (by simp)).symm, HZ.out⟩
end Go.Proofs.YtenjlhlighkenaaGreat
