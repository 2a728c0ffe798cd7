/- Part 9 of the texts on which TopBoth rests: facts and contracts. -/
import Derived.Test.YtllpfngmnccejaaGreatTopBothM8
import Derived.Deep.RegionWith
namespace Go.Proofs.YtllpfngmnccejaaGreat
open Go Go.RowKit

def putV (l : List Vf) (f : Vf) : List Vf := l.take (posN (namesV l) f.n) ++ f :: l.drop (posN (namesV l) f.n)
theorem putV_fl (l : List Vf) (f : Vf) : flV (putV l f) = putF (flV l) f.fl := by
  unfold putV putF flV
  rw [List.map_append, List.map_cons, List.map_take, List.map_drop]
  unfold posF
  rw [show namesF (l.map Vf.fl) = namesV l from names_fl l]
  rfl
theorem sorted_fl {l : List Vf} : SortedF (flV l) ↔ SortedN (namesV l) := by unfold SortedF; rw [names_fl]
theorem has_fl (l : List Vf) (n : ByteArray) : hasF (flV l) n = hasN (namesV l) n := by unfold hasF; rw [names_fl]
theorem flat_take (l : List Vf) (k : Nat) : (l.flatMap Vf.cells).take (k * 2) = (l.take k).flatMap Vf.cells := by
  induction l generalizing k with
  | nil => simp
  | cons x l ih =>
    cases k with
    | zero => simp
    | succ k =>
      rw [List.flatMap_cons, List.take_succ_cons, List.flatMap_cons, ← ih k, show (k + 1) * 2 = x.cells.length + k * 2 by show _ = 2 + _; omega, List.take_length_add_append]
theorem flat_drop (l : List Vf) (k : Nat) : (l.flatMap Vf.cells).drop (k * 2) = (l.drop k).flatMap Vf.cells := by
  induction l generalizing k with
  | nil => simp
  | cons x l ih =>
    cases k with
    | zero => simp
    | succ k =>
      rw [List.flatMap_cons, List.drop_succ_cons, ← ih k, show (k + 1) * 2 = x.cells.length + k * 2 by show _ = 2 + _; omega, List.drop_length_add_append]
theorem putV_cells (l : List Vf) (f : Vf) (p : Nat) (hp : p = posN (namesV l) f.n) : (l.flatMap Vf.cells).take (p * 2) ++ f.cells ++ (l.flatMap Vf.cells).drop (p * 2) = (putV l f).flatMap Vf.cells := by
  subst hp
  rw [flat_take, flat_drop]
  unfold putV
  rw [List.flatMap_append, List.flatMap_cons, List.append_assoc]
theorem putV_len (l : List Vf) (f : Vf) : (putV l f).length = l.length + 1 := by
  have := posN_le (namesV l) f.n
  have h2 : (namesV l).length = l.length := by simp [namesV]
  unfold putV; simp; omega
theorem putV_mem {l : List Vf} {f g : Vf} : g ∈ putV l f ↔ g = f ∨ g ∈ l := by
  unfold putV
  rw [List.mem_append, List.mem_cons]
  constructor
  · rintro (h | h | h)
    · exact .inr (List.mem_of_mem_take h)
    · exact .inl h
    · exact .inr (List.mem_of_mem_drop h)
  · rintro (h | h)
    · exact .inr (.inl h)
    · rw [← List.take_append_drop (posN (namesV l) f.n) l, List.mem_append] at h
      rcases h with h | h
      · exact .inl h
      · exact .inr (.inr h)
theorem putV_wt (l : List Vf) (f : Vf) : wtV (putV l f) = wtV l + 1 + f.ps.length + (catB f.ps).size := by
  have e : (l.map (fun f => f.ps.length)).sum = ((l.take (posN (namesV l) f.n)).map (fun f => f.ps.length)).sum + ((l.drop (posN (namesV l) f.n)).map (fun f => f.ps.length)).sum := by
    rw [← List.sum_append, ← List.map_append, List.take_append_drop]
  unfold wtV
  rw [putV_len, putV_fl, szF_put]
  unfold putV
  rw [List.map_append, List.sum_append, List.map_cons, List.sum_cons, e]
  show _ + _ + (_ + (catB f.ps).size) = _
  omega
/-- what is seen with one more file, in the world where its row is -/
theorem put_vis {w w' : World} {base : Nat} {A A' : Option Addr} {c c' : Nat} {l : List Vf} {f : Vf} (h : Vis w base A c l) (hf : Parts w base f) (hn : ∀ k, blk f.A = some k → ¬ Fp A l k)
    (hk : KeptK w w' (fun k => blk A = some k)) (hr : w'.ownsRow base 210 2 (.slice A' (putV l f).length c') (putV l f).length ((putV l f).flatMap Vf.cells)) (hA : blk A' = blk A ∨ ∃ k, blk A' = some k ∧ w.heap.size ≤ k) :
    Vis w' base A' c' (putV l f) := by
  have hlt : ∀ g ∈ putV l f, ∀ k, blk g.A = some k → k < w.heap.size ∧ blk A ≠ some k := by
    intro g hg k hk
    rcases putV_mem.1 hg with rfl | hg
    · exact ⟨(hf.lt k (by rw [blk_own]; exact hk)).2, fun e => hn k hk (.inl e)⟩
    · exact ⟨(h.lt k (.inr ⟨g, hg, hk⟩)).2, h.row_apart g hg k hk⟩
  refine ⟨hr, ?_, ?_, ?_⟩
  · intro g hg
    have hp : Parts w base g := by
      rcases putV_mem.1 hg with rfl | hg
      · exact hf
      · exact h.parts g hg
    exact hk.row hp (fun k e => (hlt g hg k (by rw [← blk_own]; exact e)).2)
  · have hap := h.apart
    rw [← List.take_append_drop (posN (namesV l) f.n) l, List.pairwise_append] at hap
    unfold putV
    rw [List.pairwise_append, List.pairwise_cons]
    refine ⟨hap.1, ⟨?_, hap.2.1⟩, ?_⟩
    · intro g hg k hk e
      exact hn k hk (.inr ⟨g, List.mem_of_mem_drop hg, e⟩)
    · intro g hg x hx k hk e
      rcases List.mem_cons.1 hx with rfl | hx
      · exact hn k e (.inr ⟨g, List.mem_of_mem_take hg, hk⟩)
      · exact hap.2.2 g hg x hx k hk e
  · intro g hg k hk e
    obtain ⟨h1, h2⟩ := hlt g hg k hk
    rcases hA with hA | hA
    · rw [hA] at e; exact h2 e
    · obtain ⟨q, hq, hle⟩ := hA
      rw [hq] at e; have := Option.some.inj e; omega
theorem vfbox (w : World) (f : Vf) : ∃ W, W = w.alloc (.cells #[.string f.n, .slice f.A f.ps.length f.c] 210) ∧ Below w.heap.size w W ∧ W.heap.size = w.heap.size + 1 ∧ Own W w.heap.size 210 f.cells :=
  ⟨_, rfl, (Below.refl _ _).alloc (Nat.le_refl _) _, by simp, Own.made w _ _⟩
theorem put_mid {w W w2 : World} {base G o : Nat} {t : TypeId} {cs : List Value} {A : Option Addr} {c : Nat} {l : List Vf} (h : VisAt w base G o t cs A c l) (hb : Below w.heap.size w W) (hg : W.grownBy w2 (Value.slice A l.length c).ownBlock) : Own w2 G t cs := by
  have h1 := h.own.past hb h.own.inside
  refine (hg.block G h1.inside ?_).trans h1
  intro e
  rw [blk_own] at e
  exact h.out (.inl e.symm)
theorem box1 (w : World) (f : Vf) : Below w.heap.size w (w.alloc (.cells #[.string f.n, .slice f.A f.ps.length f.c] 210)).drew ∧ Own (w.alloc (.cells #[.string f.n, .slice f.A f.ps.length f.c] 210)).drew w.heap.size 210 f.cells :=
  ⟨Below.drew ((Below.refl _ _).alloc (Nat.le_refl _) _), Own.made w _ _⟩
def PutMid (w : World) (base G o : Nat) (t : TypeId) (cs : List Value) (A : Option Addr) (l : List Vf) (f : Vf) (A' : Option Addr) (c' : Nat) (W : World) : Prop :=
  KeptK w W (fun k => k = G ∨ Fp A l k) ∧ Own W G t (cs.set o (.slice A' (l.length + 1) c')) ∧ Vis W base A' c' (putV l f) ∧ Parts W base f ∧ Own W w.heap.size 210 f.cells ∧ (∀ k, Fp A' (putV l f) k → Fp A l k ∨ blk f.A = some k ∨ w.heap.size ≤ k)
theorem put_end {w w1 w2 : World} {base G o : Nat} {t : TypeId} {cs : List Value} {A A' : Option Addr} {c c' p : Nat} {l : List Vf} {f : Vf} (hp : p = posN (namesV l) f.n) (hb : Below w.heap.size w w1) (h0 : VisAt w base G o t cs A c l) (hf : Parts w base f) (hn : ∀ k, blk f.A = some k → ¬ Fp A l k ∧ k ≠ G)
    (oB : Own w1 w.heap.size 210 f.cells)
    (hr : w2.ownsRow base 210 2 (.slice A' (l.length + 1) c') (l.length + 1) ((l.flatMap Vf.cells).take (p * 2) ++ f.cells ++ (l.flatMap Vf.cells).drop (p * 2)))
    (hg : (w1.alloc (.cells #[.string f.n, .slice f.A f.ps.length f.c] 210)).drew.grownBy w2 (Value.slice A l.length c).ownBlock)
    (hA : (Value.slice A' (l.length + 1) c').ownBlock = (Value.slice A l.length c).ownBlock ∨ (Value.slice A' (l.length + 1) c').ownBlock = some (w1.alloc (.cells #[.string f.n, .slice f.A f.ps.length f.c] 210)).drew.heap.size) :
    PutMid w base G o t cs A l f A' c' (w2.setCell ⟨G, o, none⟩ (.slice A' (l.length + 1) c')) := by
  have h := h0.below hb
  have bW := (box1 w1 f).1
  rw [blk_own] at hg hA
  rw [blk_own] at hA
  have hsz := bW.size
  generalize (w1.alloc (.cells #[.string f.n, .slice f.A f.ps.length f.c] 210)).drew = W at *
  have kg : KeptK w1 w2 (fun k => blk A = some k) := (KeptK.of_below bW (Nat.le_refl _) (fun k => blk A = some k)).trans (KeptK.of_grown hg (fun _ e => e)) (fun _ _ e => e)
  have kw : KeptK w w2 (fun k => blk A = some k) := (KeptK.of_below hb (Nat.le_refl _) (fun k => blk A = some k)).trans kg (fun _ _ e => e)
  have hA2 : blk A' = blk A ∨ ∃ k, blk A' = some k ∧ w.heap.size ≤ k := by
    rcases hA with e | e
    · exact .inl e
    · exact .inr ⟨_, e, Nat.le_trans hb.size hsz⟩
  rw [putV_cells l f p hp, ← putV_len l f] at hr
  have v2 := put_vis h0.vis hf (fun k e => (hn k e).1) kw hr hA2
  have hin := h0.inside
  have hfp : ∀ k, Fp A' (putV l f) k → Fp A l k ∨ blk f.A = some k ∨ w.heap.size ≤ k := by
    rintro k (e | ⟨g, hg, e⟩)
    · rcases hA2 with e2 | ⟨q, e2, hq⟩
      · exact .inl (.inl (by rw [← e2]; exact e))
      · rw [e2] at e; have := Option.some.inj e; exact .inr (.inr (by omega))
    · rcases putV_mem.1 hg with rfl | hg
      · exact .inr (.inl e)
      · exact .inl (.inr ⟨g, hg, e⟩)
  have hGo : ¬ Fp A' (putV l f) G := by
    intro e
    rcases hfp G e with e | e | e
    · exact h0.out e
    · exact (hn G e).2 rfl
    · omega
  have o2 : Own w2 G t cs := kw.own h0.own (fun e => h0.out (.inl e))
  have k3 : ∀ u, KeptK w2 (w2.setCell ⟨G, o, none⟩ u) (fun k => k = G) := fun u => (KeptK.refl w2 (fun k => k = G)).set_ (.inl rfl) u
  have v3 := v2.kept (k3 (.slice A' (l.length + 1) c')) (fun k hk e => hGo (by rw [← e]; exact hk))
  refine ⟨?_, o2.set_ _ _, v3, v3.parts f (putV_mem.2 (.inl rfl)), ?_, hfp⟩
  · exact (kw.more (T := fun k => k = G ∨ Fp A l k) (fun k e => .inr (.inl e))).trans (k3 _) (fun k _ e => .inl e)
  · refine (k3 _).own (kg.own oB ?_) (fun e => by omega)
    intro e
    have := (h0.vis.lt w.heap.size (.inl e)).2
    omega
theorem below_undrew {B : Nat} {a w : World} (h : Below B a.drew w) : Below B a w := ⟨h.os, h.tape, h.output, h.size, h.block⟩
theorem setV_0 {cs : List Value} {o : Nat} {A : Option Addr} {c : Nat} {l : List Vf} {u : Value} (h : cs[o]? = some u) : (setV cs o A c l)[o]? = some (.slice A l.length c) := by
  have := (List.getElem?_eq_some_iff.1 h).1
  unfold setV
  rw [List.getElem?_set_ne (by omega), List.getElem?_set_self this]
theorem setV_1 {cs : List Value} {o : Nat} {A : Option Addr} {c : Nat} {l : List Vf} {u : Value} (h : cs[o + 1]? = some u) : (setV cs o A c l)[o + 1]? = some (.int .i64 (szF (flV l) : Int)) := by
  have := (List.getElem?_eq_some_iff.1 h).1
  unfold setV
  rw [List.getElem?_set_self (by simpa using this)]
theorem put_last {w W3 w4 : World} {base G o : Nat} {t : TypeId} {cs : List Value} {A A' : Option Addr} {c c' : Nat} {l : List Vf} {f : Vf} (h : VisAt w base G o t cs A c l) (hn : ∀ k, blk f.A = some k → ¬ Fp A l k ∧ k ≠ G) (hh : hasN (namesV l) f.n = false) (hw : wtV (putV l f) ≤ 1099511627776)
    (m : PutMid w base G o t cs A l f A' c' W3) (b4 : Below W3.heap.size W3 w4) {x : Int} (hx : x = (szF (flV (putV l f)) : Int)) : VisTo w (w4.setCell ⟨G, o + 1, none⟩ (.int .i64 x)) base G o t cs (fun k => Fp A l k ∨ blk f.A = some k) A' c' (putV l f) := by
  subst hx
  obtain ⟨k3, o3, v3, f3, b3, p3⟩ := m
  have k4 : KeptK w w4 (fun k => k = G ∨ Fp A l k) := k3.trans (KeptK.of_below b4 (Nat.le_refl _) (fun _ => False)) (fun _ _ h => h.elim)
  have k5 := k4.set_ (g := G) (o := o + 1) (.inl (.inl rfl)) (.int .i64 (szF (flV (putV l f)) : Int))
  have o4 := (o3.past b4 o3.inside).set_ (o + 1) (.int .i64 (szF (flV (putV l f)) : Int))
  have kk : KeptK w4 (w4.setCell ⟨G, o + 1, none⟩ (.int .i64 (szF (flV (putV l f)) : Int))) (fun k => k = G) := (KeptK.refl w4 (fun k => k = G)).set_ (.inl rfl) _
  have hp : ∀ k, Fp A' (putV l f) k → (Fp A l k ∨ blk f.A = some k) ∨ w.heap.size ≤ k := fun k hk => by
    rcases p3 k hk with e | e | e
    · exact .inl (.inl e)
    · exact .inl (.inr e)
    · exact .inr e
  have hG : ¬ Fp A' (putV l f) G := by
    intro e
    rcases p3 G e with e | e | e
    · exact h.out e
    · exact (hn G e).2 rfl
    · have := h.inside; omega
  refine ⟨⟨?_, ?_, ?_, ?_, hG, ?_, hw, ?_⟩, k5.more (fun k e => by rcases e with e | e; exact .inl e; exact .inr (.inl e)), hp⟩
  · unfold setV; rw [putV_len]; exact o4
  · exact setV_0 h.c0
  · exact setV_1 h.c1
  · refine v3.kept (S := fun k => k = G) ((KeptK.of_below b4 (Nat.le_refl _) (fun k => k = G)).trans kk (fun _ _ h => h)) (fun k hk e => hG (by rw [← e]; exact hk))
  · rw [← sorted_fl, putV_fl]
    exact sorted_put (sorted_fl.2 h.sorted) (by show hasF (flV l) f.n = false; rw [has_fl]; exact hh)
  · exact Nat.le_trans h.le k5.size
set_option maxRecDepth 100000 in
set_option maxHeartbeats 1600000 in
theorem put_any (base G o : Nat) (t : TypeId) (cs : List Value) (A : Option Addr) (c : Nat) (l : List Vf) (f : Vf) (w : World) (h : VisAt w base G o t cs A c l) (hf : Parts w base f) (hn : ∀ k, blk f.A = some k → ¬ Fp A l k ∧ k ≠ G) (hh : hasN (namesV l) f.n = false) (hw : wtV (putV l f) ≤ 1099511627776) :
    Calls Tryz.prog 206 #[.pointer (some ⟨G, o, none⟩), f.val] w fun e w' => e = .returned (.tuple #[]) ∧ ∃ A' c', VisTo w w' base G o t cs (fun k => Fp A l k ∨ blk f.A = some k) A' c' (putV l f) := by
  obtain ⟨V, hV, hVb, hVs, oV⟩ := vfbox w f
  have hV1 := h.below hVb
  have H := Lib.hid (And.intro h (And.intro hf (And.intro hn (And.intro hh hw))))
  have hlw := len_le_wt l
  have hwl := h.wt
  have y1 := Lib.hid (find_any G o base t cs A c l f.n V hV1.own hV1.c0 hV1.vis.row hV1.sorted (by omega))
  have HV := Lib.hid (And.intro hVb (And.intro hVs (And.intro oV hV1)))
  unfold Vf.val
  obtain ⟨p, hp⟩ : ∃ p, p = posN (namesV l) f.n := ⟨_, rfl⟩
  have hpl : p ≤ l.length := by rw [hp]; have := posN_le (namesV l) f.n; simpa [namesV] using this
  have HP := Lib.hid hp
  rw [← hp, hh] at y1
  clear h hf hn hh hw hVb hVs oV hV1 hp hlw hwl
  go_enter Tryz.func206, Tryz.ntmps206
  go_wp2_with fail
  rw [← hV]
  clear hV
  refine y1.out.mono ?_
  rintro _ w1 ⟨rfl, b1⟩
  have hW := HV.out.2.2.2.below b1
  have oB := HV.out.2.2.1.past b1 HV.out.2.2.1.inside
  have HX := Lib.hid (And.intro (HV.out.1.trans (b1.mono HV.out.1.size)) (And.intro hW oB))
  have a0 : w1.cell? ⟨G, o, none⟩ = some (.slice A l.length c) := by rw [hW.own.at_]; exact hW.c0
  have a1 : w1.cell? ⟨G, o + 1, none⟩ = some (.int .i64 (szF (flV l) : Int)) := by rw [hW.own.at_]; exact hW.c1
  have z0 : w1.frozen? ⟨G, o, none⟩ = false := hW.own.open_ o
  have z1 : w1.frozen? ⟨G, o + 1, none⟩ = false := hW.own.open_ (o + 1)
  have x0 : w1.cell? ⟨w.heap.size, 0, none⟩ = some (.string f.n) := oB.at_ 0
  have x1 : w1.cell? ⟨w.heap.size, 1, none⟩ = some (.slice f.A f.ps.length f.c) := oB.at_ 1
  have y2 : ∀ W, Below w1.heap.size w1 W → Own W w1.heap.size 210 f.cells → Hid (Calls Tryz.prog 241 #[.slice A l.length c, .int .i64 (p : Int), .slice (some ⟨w1.heap.size, 0, none⟩) 1 1] W fun e w' => ∃ A' c', e = .returned (.slice A' (l.length + 1) c') ∧
      w'.ownsRow base 210 2 (.slice A' (l.length + 1) c') (l.length + 1) ((l.flatMap Vf.cells).take (p * 2) ++ f.cells ++ (l.flatMap Vf.cells).drop (p * 2)) ∧ W.grownBy w' (Value.slice A l.length c).ownBlock ∧ ((Value.slice A' (l.length + 1) c').ownBlock = (Value.slice A l.length c).ownBlock ∨ (Value.slice A' (l.length + 1) c').ownBlock = some W.heap.size)) := fun W hb ho => by
    refine Lib.hid (insert_any base l.length c p w1.heap.size A _ f W (own_below HX.out.2.1.vis.row hb) ho ?_ hpl ?_ (Nat.le_trans HX.out.2.1.le hb.size) (vfs_one l))
    · intro e
      have := HX.out.2.1.vis.lt w1.heap.size (.inl (by rw [← blk_own A l.length c]; exact e))
      omega
    · have := len_le_wt l; have := HX.out.2.1.wt; omega
  have a2 : (w1.alloc (.cells #[.string f.n, .slice f.A f.ps.length f.c] 210)).cell? ⟨G, o, none⟩ = some (.slice A l.length c) := by
    have := (box1 w1 f).1.cell (p := ⟨G, o, none⟩) hW.inside
    exact this.trans a0
  clear hW oB b1
  go_upto_region 2 with fail
  go_cut [21] (fun s21 wx => ∃ A' c', s21 = .slice A' (l.length + 1) c' ∧ PutMid w base G o t cs A l f A' c' wx)
  case first =>
    go_region_with (go_at_call 241; refine (y2 _ (box1 w1 f).1 (box1 w1 f).2).out.mono ?_; rintro _ w2 ⟨A', c', rfl, hr, hg, hA⟩; have o2 := put_mid HX.out.2.1 (box1 w1 f).1 hg; have s0 : w2.cell? ⟨G, o, none⟩ = some (.slice A l.length c) := (by rw [o2.at_]; exact HX.out.2.1.c0); have s1 : w2.frozen? ⟨G, o, none⟩ = false := o2.open_ o)
    all_goals
      go_wp2_with fail
      go_meet
      exact ⟨_, _, rfl, put_end HP.out HX.out.1 H.out.1 H.out.2.1 H.out.2.2.1 HX.out.2.2 hr hg hA⟩
  case rest =>
    obtain ⟨A', c', rfl, hmid⟩ := hcut
    have MID := Lib.hid hmid
    obtain ⟨k3, o3, v3, f3, b3, p3⟩ := hmid
    have g1 := o3.at_ (o + 1)
    rw [List.getElem?_set_ne (by omega), H.out.1.c1] at g1
    have z3 := o3.open_ (o + 1)
    have x0' := b3.at_ 0
    have x1' := b3.at_ 1
    have HO := Lib.hid (And.intro o3 b3)
    have hsz := H.out.2.2.2.2
    have hwt := putV_wt l f
    have y3 := fun W (hW : Parts W base f) => Lib.hid (size_any base f W hW (by omega) (by omega))
    have e5 : szF (flV (putV l f)) = szF (flV l) + (catB f.ps).size := by rw [putV_fl, szF_put]; rfl
    have hle : szF (flV l) + (catB f.ps).size ≤ 1099511627776 := by unfold wtV at hwt hsz; omega
    have E5 := Lib.hid e5
    have HF := Lib.hid f3
    generalize szF (flV l) = S at *
    generalize (catB f.ps).size = T at *
    have hw : IntKind.i64.wrap ((S : Int) + (T : Int)) = (S : Int) + (T : Int) := by rw [IntKind.wrap_i64]; omega
    clear k3 v3 f3 b3 a0 a1 a2 z0 z1 x0 x1 hwt hsz hle e5 o3 p3
    simp only [List.getElem?_cons_zero, List.getElem?_cons_succ, Vf.cells] at x0' x1'
    unfold Vf.val at y3
    go_wp2_with fail
    go_region_with (go_at_call 208; refine (y3 _ HF.out.drew).out.mono ?_; rintro _ w4 ⟨rfl, b4⟩; have o4 := (own_drewK HO.out.1).past b4 (own_drewK HO.out.1).inside; have s4 : w4.cell? ⟨G, o + 1, none⟩ = some (.int .i64 (S : Int)) := (by rw [o4.at_]; exact (HO.out.1.at_ _).symm.trans g1); have s5 : w4.frozen? ⟨G, o + 1, none⟩ = false := o4.open_ (o + 1))
    all_goals
      go_wp2_with fail
      have HL := Lib.hid (put_last H.out.1 H.out.2.2.1 H.out.2.2.2.1 H.out.2.2.2.2 MID.out (below_undrew b4) (x := ((S : Int) + (T : Int))) (by rw [E5.out]; simp))
      exact bodyPost_end (results_none rfl _ _ _) rfl ⟨rfl, A', c', HL.out⟩
end Go.Proofs.YtllpfngmnccejaaGreat
namespace Go.Proofs.YtllpfngmnccejaaGreat
open Go Go.RowKit

def cutV (l : List Vf) (p : Nat) : List Vf := l.take p ++ l.drop (p + 1)
def takeV (l : List Vf) (n : ByteArray) : List Vf := if hasN (namesV l) n then cutV l (posN (namesV l) n) else l
theorem takeV_fl (l : List Vf) (n : ByteArray) : flV (takeV l n) = takeF (flV l) n := by
  unfold takeV takeF posF
  rw [has_fl, names_fl]
  split
  · unfold cutV flV; rw [List.map_append, List.map_take, List.map_drop]
  · rfl
theorem cutV_len {l : List Vf} {p : Nat} (h : p < l.length) : (cutV l p).length = l.length - 1 := by unfold cutV; simp; omega
theorem cutV_mem {l : List Vf} {p : Nat} {g : Vf} (h : g ∈ cutV l p) : g ∈ l := by
  unfold cutV at h
  rcases List.mem_append.1 h with h | h
  · exact List.mem_of_mem_take h
  · exact List.mem_of_mem_drop h
theorem cutV_cells (l : List Vf) (p : Nat) : (l.flatMap Vf.cells).take (p * 2) ++ (l.flatMap Vf.cells).drop ((p + 1) * 2) = (cutV l p).flatMap Vf.cells := by
  rw [flat_take, flat_drop]; unfold cutV; rw [List.flatMap_append]
theorem cutV_sub (l : List Vf) (p : Nat) : (cutV l p).Sublist l := by
  unfold cutV
  have := List.Sublist.append_left (l₁ := l.drop (p + 1)) (l₂ := l.drop p) (by rw [← List.drop_drop (j := p) (i := 1)] ; exact List.drop_sublist _ _) (l.take p)
  rwa [List.take_append_drop] at this
theorem cutV_wt {l : List Vf} {p : Nat} {f : Vf} (h : l[p]? = some f) : wtV (cutV l p) + 1 + f.ps.length + (catB f.ps).size = wtV l ∧ szF (flV (cutV l p)) + (catB f.ps).size = szF (flV l) := by
  have hlt := (List.getElem?_eq_some_iff.1 h).1
  have e : l = l.take p ++ f :: l.drop (p + 1) := by
    have h1 := (List.getElem?_eq_some_iff.1 h).2
    rw [← h1, ← List.drop_eq_getElem_cons hlt, List.take_append_drop]
  have e1 : szF (flV l) = szF (flV (l.take p)) + ((catB f.ps).size + szF (flV (l.drop (p + 1)))) := by
    conv => lhs; rw [e]
    unfold flV
    rw [List.map_append, szF_app, List.map_cons, szF_cons]; rfl
  have e2 : szF (flV (cutV l p)) = szF (flV (l.take p)) + szF (flV (l.drop (p + 1))) := by unfold cutV flV; rw [List.map_append, szF_app]
  have e3 : (l.map (fun f => f.ps.length)).sum = ((l.take p).map (fun f => f.ps.length)).sum + (f.ps.length + ((l.drop (p + 1)).map (fun f => f.ps.length)).sum) := by
    conv => lhs; rw [e]
    rw [List.map_append, List.sum_append, List.map_cons, List.sum_cons]
  have e4 : ((cutV l p).map (fun f => f.ps.length)).sum = ((l.take p).map (fun f => f.ps.length)).sum + ((l.drop (p + 1)).map (fun f => f.ps.length)).sum := by unfold cutV; rw [List.map_append, List.sum_append]
  unfold wtV
  rw [cutV_len hlt, e1, e2, e3, e4]
  omega
/-- what is seen without one file, in the world where the row is shorter -/
theorem cut_vis {w w' : World} {base : Nat} {A : Option Addr} {c p : Nat} {l : List Vf} (h : Vis w base A c l) (hp : p < l.length)
    (hk : KeptK w w' (fun k => blk A = some k)) (hr : w'.ownsRow base 210 2 (.slice A (l.length - 1) c) (l.length - 1) ((cutV l p).flatMap Vf.cells)) : Vis w' base A c (cutV l p) := by
  refine ⟨by rw [cutV_len hp]; exact hr, fun g hg => ?_, List.Pairwise.sublist (cutV_sub l p) h.apart, fun g hg => h.row_apart g (cutV_mem hg)⟩
  exact hk.row (h.parts g (cutV_mem hg)) (fun k e => h.row_apart g (cutV_mem hg) k (by rw [← blk_own]; exact e))
theorem cut_fp {A : Option Addr} {l : List Vf} {p k : Nat} (h : Fp A (cutV l p) k) : Fp A l k := by
  rcases h with h | ⟨g, hg, h⟩
  · exact .inl h
  · exact .inr ⟨g, cutV_mem hg, h⟩
/-- the file that is taken lies apart from the others -/
theorem cut_apart {w : World} {base : Nat} {A : Option Addr} {c p : Nat} {l : List Vf} {f : Vf} (h : Vis w base A c l) (hf : l[p]? = some f) : ∀ k, blk f.A = some k → ¬ Fp A (cutV l p) k := by
  intro k hk hx
  have hlt := (List.getElem?_eq_some_iff.1 hf).1
  have e : l = l.take p ++ f :: l.drop (p + 1) := by
    have h1 := (List.getElem?_eq_some_iff.1 hf).2
    rw [← h1, ← List.drop_eq_getElem_cons hlt, List.take_append_drop]
  have ha := h.apart
  rw [e, List.pairwise_append, List.pairwise_cons] at ha
  rcases hx with hx | ⟨g, hg, hx⟩
  · exact h.row_apart f (List.mem_of_getElem? hf) k hk hx
  · unfold cutV at hg
    rcases List.mem_append.1 hg with hg | hg
    · exact ha.2.2 g hg f (by simp) k hx hk
    · exact ha.2.1.1 g hg k hk hx
def TakeMid (w : World) (base G o b8 : Nat) (t : TypeId) (cs : List Value) (A : Option Addr) (c : Nat) (l : List Vf) (p : Nat) (f : Vf) (W : World) : Prop :=
  KeptK w W (fun k => k = G ∨ Fp A l k) ∧ Own W G t (cs.set o (.slice A (l.length - 1) c)) ∧ Vis W base A c (cutV l p) ∧ Parts W base f ∧ Own W w.heap.size 210 zeroVf.cells.toList ∧ Own W b8 210 f.cells ∧ w.heap.size < b8 ∧ b8 < W.heap.size
theorem take_mid {w w1 w2 : World} {base G o : Nat} {t : TypeId} {cs : List Value} {A : Option Addr} {c p : Nat} {l : List Vf} {f : Vf} (hf : l[p]? = some f) (h0 : VisAt w base G o t cs A c l) (hb : Below w.heap.size w w1) (hs : w.heap.size < w1.heap.size)
    (oR : Own w1 w.heap.size 210 zeroVf.cells.toList)
    (hr : w2.ownsRow base 210 2 (.slice A (l.length - 1) c) (l.length - 1) ((l.flatMap Vf.cells).take (p * 2) ++ (l.flatMap Vf.cells).drop ((p + 1) * 2)))
    (hg : (w1.alloc (.cells #[.string f.n, .slice f.A f.ps.length f.c] 210)).grownBy w2 (Value.slice A l.length c).ownBlock) :
    TakeMid w base G o w1.heap.size t cs A c l p f (w2.setCell ⟨G, o, none⟩ (.slice A (l.length - 1) c)) := by
  have hlt := (List.getElem?_eq_some_iff.1 hf).1
  have h := h0.below hb
  rw [blk_own] at hg
  rw [cutV_cells] at hr
  have bW : Below w1.heap.size w1 (w1.alloc (.cells #[.string f.n, .slice f.A f.ps.length f.c] 210)) := (Below.refl _ _).alloc (Nat.le_refl _) _
  have oV : Own (w1.alloc (.cells #[.string f.n, .slice f.A f.ps.length f.c] 210)) w1.heap.size 210 f.cells := Own.made w1 _ _
  have hsz : (w1.alloc (.cells #[.string f.n, .slice f.A f.ps.length f.c] 210)).heap.size = w1.heap.size + 1 := by simp
  generalize w1.alloc (.cells #[.string f.n, .slice f.A f.ps.length f.c] 210) = W at *
  have kW : KeptK W w2 (fun k => blk A = some k) := KeptK.of_grown hg (fun _ e => e)
  have kg : KeptK w1 w2 (fun k => blk A = some k) := (KeptK.of_below bW (Nat.le_refl _) (fun k => blk A = some k)).trans kW (fun _ _ e => e)
  have kw : KeptK w w2 (fun k => blk A = some k) := (KeptK.of_below hb (Nat.le_refl _) (fun k => blk A = some k)).trans kg (fun _ _ e => e)
  have v2 := cut_vis h0.vis hlt kw hr
  have hAlt : ∀ k, blk A = some k → k < w.heap.size := fun k e => (h0.vis.lt k (.inl e)).2
  have o2 : Own w2 G t cs := kw.own h0.own (fun e => h0.out (.inl e))
  have k3 : ∀ u, KeptK w2 (w2.setCell ⟨G, o, none⟩ u) (fun k => k = G) := fun u => (KeptK.refl w2 (fun k => k = G)).set_ (.inl rfl) u
  have hin := h0.inside
  have p2 : Parts w2 base f := kw.row (h0.vis.parts f (List.mem_of_getElem? hf)) (fun k e => h0.vis.row_apart f (List.mem_of_getElem? hf) k (by rw [← blk_own]; exact e))
  refine ⟨(kw.more (T := fun k => k = G ∨ Fp A l k) (fun k e => .inr (.inl e))).trans (k3 _) (fun k _ e => .inl e), o2.set_ _ _, v2.kept (k3 _) (fun k hk e => h0.out (by rw [← e]; exact cut_fp hk)), (k3 _).row p2 (fun k e he => ?_), (k3 _).own (kg.own oR (fun e => by have := hAlt _ e; omega)) (fun e => by omega), (k3 _).own (kW.own oV (fun e => by have := hAlt _ e; omega)) (fun e => by omega), by omega, ?_⟩
  · rw [blk_own] at e
    exact h0.out (by rw [← he]; exact .inr ⟨f, List.mem_of_getElem? hf, e⟩)
  · have := kW.size; simp; omega
theorem take_last {w W3 w4 : World} {base G o b8 : Nat} {t : TypeId} {cs : List Value} {A : Option Addr} {c p : Nat} {l : List Vf} {f : Vf} (hf : l[p]? = some f) (h : VisAt w base G o t cs A c l)
    (m : TakeMid w base G o b8 t cs A c l p f W3) (b4 : Below W3.heap.size W3 w4) {x : Int} (hx : x = (szF (flV (cutV l p)) : Int)) (u v : Value) :
    VisTo w (((w4.setCell ⟨G, o + 1, none⟩ (.int .i64 x)).setCell ⟨w.heap.size, 0, none⟩ u).setCell ⟨w.heap.size, 1, none⟩ v) base G o t cs (Fp A l) A c (cutV l p) ∧
      Parts (((w4.setCell ⟨G, o + 1, none⟩ (.int .i64 x)).setCell ⟨w.heap.size, 0, none⟩ u).setCell ⟨w.heap.size, 1, none⟩ v) base f ∧
      Own (((w4.setCell ⟨G, o + 1, none⟩ (.int .i64 x)).setCell ⟨w.heap.size, 0, none⟩ u).setCell ⟨w.heap.size, 1, none⟩ v) w.heap.size 210 [u, v] := by
  subst hx
  obtain ⟨k3, o3, v3, f3, oR, o8, hb8, hs8⟩ := m
  have hin := h.inside
  have hlt := (List.getElem?_eq_some_iff.1 hf).1
  have b34 := KeptK.of_below b4 (Nat.le_refl _) (fun k => k = G ∨ k = w.heap.size)
  have kk : ∀ y, KeptK w4 (((w4.setCell ⟨G, o + 1, none⟩ y).setCell ⟨w.heap.size, 0, none⟩ u).setCell ⟨w.heap.size, 1, none⟩ v) (fun k => k = G ∨ k = w.heap.size) := fun y =>
    (((KeptK.refl w4 (fun k => k = G ∨ k = w.heap.size)).set_ (.inl (.inl rfl)) y).set_ (.inl (.inr rfl)) u).set_ (.inl (.inr rfl)) v
  have k5 := fun y => k3.trans (b34.trans (kk y) (fun _ _ h => h)) (T := fun k => k = G ∨ k = w.heap.size) (fun k hk e => by rcases e with e | e; exact .inl e; omega)
  have o4 := ((o3.past b4 o3.inside).set_ (o + 1) (.int .i64 (szF (flV (cutV l p)) : Int))).other (p := ⟨w.heap.size, 0, none⟩) (by show w.heap.size ≠ G; omega) u |>.other (p := ⟨w.heap.size, 1, none⟩) (by show w.heap.size ≠ G; omega) v
  have oR4 := (((oR.past b4 oR.inside).other (p := ⟨G, o + 1, none⟩) (by show G ≠ w.heap.size; omega) (.int .i64 (szF (flV (cutV l p)) : Int))).set_ 0 u).set_ 1 v
  have hG : ¬ Fp A (cutV l p) G := fun e => h.out (cut_fp e)
  have hwt := cutV_wt hf
  have hR : ∀ k, Fp A l k → ¬ (k = G ∨ k = w.heap.size) := fun k hk e => by
    rcases e with e | e
    · exact h.out (by rw [← e]; exact hk)
    · have := (h.vis.lt k hk).2; omega
  refine ⟨⟨⟨?_, setV_0 h.c0, setV_1 h.c1, v3.kept (b34.trans (kk _) (fun _ _ h => h)) (fun k hk => hR k (cut_fp hk)), hG, ?_, by have := h.wt; omega, Nat.le_trans h.le (k5 _).size⟩, k5 _, fun k hk => .inl (cut_fp hk)⟩, ?_, oR4⟩
  · unfold setV; rw [cutV_len hlt]; exact o4
  · unfold SortedN namesV
    exact List.Pairwise.sublist ((cutV_sub l p).map _) h.sorted
  · exact (b34.trans (kk _) (fun _ _ h => h)).row f3 (fun k e he => hR k (.inr ⟨f, List.mem_of_getElem? hf, by rw [← blk_own]; exact e⟩) he)
end Go.Proofs.YtllpfngmnccejaaGreat
namespace Go.Proofs.YtllpfngmnccejaaGreat
open Go Go.RowKit

theorem zboxK (w : World) : ∃ W, W = w.alloc (.cells #[.string ⟨#[]⟩, .slice none 0 0] 210) ∧ Below w.heap.size w W ∧ W.heap.size = w.heap.size + 1 ∧ Own W w.heap.size 210 zeroVf.cells.toList :=
  ⟨_, rfl, (Below.refl _ _).alloc (Nat.le_refl _) _, by simp, Own.made w _ _⟩
/-- what take answers, and leaves -/
def Took (w w' : World) (base G o : Nat) (t : TypeId) (cs : List Value) (A : Option Addr) (c : Nat) (l : List Vf) (n : ByteArray) (e : Ending) : Prop :=
  if hasN (namesV l) n then ∃ f, l[posN (namesV l) n]? = some f ∧ e = .returned (.tuple #[f.val, .bool true]) ∧ VisTo w w' base G o t cs (Fp A l) A c (takeV l n) ∧ Parts w' base f ∧ (∀ k, blk f.A = some k → ¬ Fp A (takeV l n) k ∧ k ≠ G ∧ k < w.heap.size)
  else e = .returned (.tuple #[zeroVf, .bool false]) ∧ VisTo w w' base G o t cs (Fp A l) A c (takeV l n)
theorem take_own {W w2 : World} {base G o : Nat} {t : TypeId} {cs : List Value} {A : Option Addr} {c : Nat} {l : List Vf} (h : VisAt W base G o t cs A c l) (hg : W.grownBy w2 (Value.slice A l.length c).ownBlock) : Own w2 G t cs := by
  refine (hg.block G h.inside ?_).trans h.own
  intro e
  rw [blk_own] at e
  exact h.out (.inl e.symm)
set_option maxRecDepth 100000 in
set_option maxHeartbeats 1600000 in
theorem take_anyK (base G o : Nat) (t : TypeId) (cs : List Value) (A : Option Addr) (c : Nat) (l : List Vf) (n : ByteArray) (w : World) (h : VisAt w base G o t cs A c l) :
    Calls Tryz.prog 174 #[.pointer (some ⟨G, o, none⟩), .string n] w fun e w' => Took w w' base G o t cs A c l n e := by
  obtain ⟨V, hV, hVb, hVs, oV⟩ := zboxK w
  have hV1 := h.below hVb
  have hlw := len_le_wt l
  have hwl := h.wt
  have y1 := Lib.hid (find_any G o base t cs A c l n V hV1.own hV1.c0 hV1.vis.row hV1.sorted (by omega))
  have H := Lib.hid (And.intro h (And.intro hVb (And.intro hVs (And.intro oV hV1))))
  have hhas := Lib.hid (fun hh => posN_has (n := n) h.sorted hh)
  unfold Took takeV
  obtain ⟨p, hp⟩ : ∃ p, p = posN (namesV l) n := ⟨_, rfl⟩
  rw [← hp] at y1 hhas ⊢
  have z0 := oV.at_ 0
  have z1 := oV.at_ 1
  clear h hVb hVs oV hV1 hlw hwl hp
  cases hh : hasN (namesV l) n
  · rw [hh] at y1
    simp only [Bool.false_eq_true, if_false]
    clear hh hhas
    go_enter Tryz.func174, Tryz.ntmps174
    go_wp2_with fail
    rw [← hV]
    clear hV
    refine y1.out.mono ?_
    rintro _ w1 ⟨rfl, b1⟩
    have oR := H.out.2.2.2.1.past b1 H.out.2.2.2.1.inside
    have r0 := oR.at_ 0
    have r1 := oR.at_ 1
    have f0 := oR.open_ 0
    have f1 := oR.open_ 1
    have HX := Lib.hid (H.out.2.1.trans (b1.mono H.out.2.1.size))
    simp only [zeroVf, Value.cells, List.getElem?_cons_zero, List.getElem?_cons_succ] at r0 r1
    have oE := ((Own.set_ oR 0 (.string ⟨#[]⟩)).set_ 1 (.slice none 0 0))
    have e0 := oE.at_ 0
    have e1 := oE.at_ 1
    simp [zeroVf, Value.cells] at e0 e1
    have HE := Lib.hid (And.intro (VisTo.refl H.out.1 (((HX.out.setCell (p := ⟨w.heap.size, 0, none⟩) (Nat.le_refl _) (.string ⟨#[]⟩)).setCell (p := ⟨w.heap.size, 1, none⟩) (Nat.le_refl _) (.slice none 0 0)))) trivial)
    clear oR oE b1
    go_wp2_with fail
    exact bodyPost_ret (v := .tuple #[.agg #[.string ⟨#[]⟩, .slice none 0 0], .bool false]) (by simp [results, Tryz.results174, go_sem, e0, e1]) rfl ⟨rfl, HE.out.1⟩
  · have hat := hhas.out hh
    rw [hh] at y1
    simp only [if_true]
    obtain ⟨f, hf⟩ : ∃ f, l[p]? = some f := by
      unfold namesV at hat
      rw [List.getElem?_map] at hat
      cases hx : l[p]? with
      | none => rw [hx] at hat; cases hat
      | some f => exact ⟨f, rfl⟩
    have hlt := (List.getElem?_eq_some_iff.1 hf).1
    have HF := Lib.hid hf
    clear hh hhas hat hf
    go_enter Tryz.func174, Tryz.ntmps174
    go_wp2_with fail
    rw [← hV]
    clear hV
    refine y1.out.mono ?_
    rintro _ w1 ⟨rfl, b1⟩
    have hW := H.out.2.2.2.2.below b1
    have oR := H.out.2.2.2.1.past b1 H.out.2.2.2.1.inside
    have hs1 : w.heap.size < w1.heap.size := by have := b1.size; have := H.out.2.2.1; omega
    have HX := Lib.hid (And.intro (H.out.2.1.trans (b1.mono H.out.2.1.size)) (And.intro hW (And.intro oR hs1)))
    obtain ⟨g, rfl, c0, c1, hg⟩ := vf_at hW.vis.row HF.out
    have a0 : w1.cell? ⟨G, o, none⟩ = some (.slice (some ⟨g, 0, none⟩) l.length c) := by rw [hW.own.at_]; exact hW.c0
    clear hW oR b1 z0 z1 hs1
    obtain ⟨W, hW, bW, sW, oW⟩ := vfbox w1 f
    have VW := HX.out.2.1.below bW
    have a1 : W.cell? ⟨G, o, none⟩ = some (.slice (some ⟨g, 0, none⟩) l.length c) := by rw [VW.own.at_]; exact VW.c0
    have y2 := Lib.hid (delete_any base l.length c p (some ⟨g, 0, none⟩) _ W VW.vis.row hlt (vfs_one l))
    have HW := Lib.hid (And.intro bW (And.intro oW (And.intro VW hW)))
    have hp1 : IntKind.i64.wrap ((p : Int) + 1) = (p : Int) + 1 := by
      have := len_le_wt l
      have := H.out.1.wt
      rw [IntKind.wrap_i64]; omega
    clear bW sW oW VW
    go_upto_region 5 with fail
    rw [← hW]
    clear hW
    go_wp2_with fail
    refine y2.out.mono ?_
    rintro _ w2 ⟨rfl, hr, hgr⟩
    have o2 := take_own HW.out.2.2.1 hgr
    have s0 : w2.cell? ⟨G, o, none⟩ = some (.slice (some ⟨g, 0, none⟩) l.length c) := by rw [o2.at_]; exact HX.out.2.1.c0
    have s1 : w2.frozen? ⟨G, o, none⟩ = false := o2.open_ o
    rw [HW.out.2.2.2] at hgr
    have hmid := take_mid HF.out H.out.1 HX.out.1 HX.out.2.2.2 HX.out.2.2.1 hr hgr
    clear hr hgr o2 y2 c0 c1 a0 a1
    go_upto_region 6 with fail
    obtain ⟨W3, hW3⟩ : ∃ W3, W3 = w2.setCell ⟨G, o, none⟩ (.slice (some ⟨g, 0, none⟩) (l.length - 1) c) := ⟨_, rfl⟩
    rw [← hW3] at hmid ⊢
    clear hW3 s0 s1
    have MID := Lib.hid hmid
    obtain ⟨k3, o3, v3, f3, oR, o8, hb8, hs8⟩ := hmid
    have g1 := o3.at_ (o + 1)
    rw [List.getElem?_set_ne (by omega), H.out.1.c1] at g1
    have z3 := o3.open_ (o + 1)
    have x0 := o8.at_ 0
    have x1 := o8.at_ 1
    simp only [List.getElem?_cons_zero, List.getElem?_cons_succ, Vf.cells] at x0 x1
    have hwt := cutV_wt HF.out
    have hwl := H.out.1.wt
    have y3 := fun W (hW : Parts W base f) => Lib.hid (size_any base f W hW (by omega) (by unfold wtV at *; omega))
    have E5 := Lib.hid hwt.2
    have hle : szF (flV l) ≤ 1099511627776 := by unfold wtV at hwl; omega
    have HFP := Lib.hid f3
    have HO := Lib.hid o3
    have HR := Lib.hid (And.intro oR (And.intro o8 (And.intro hb8 hs8)))
    unfold Vf.val at y3
    generalize hS : szF (flV l) = S at *
    generalize (catB f.ps).size = T at *
    have hTS : T ≤ S := by have := E5.out; omega
    have hw : IntKind.i64.wrap ((S : Int) - (T : Int)) = (S : Int) - (T : Int) := by rw [IntKind.wrap_i64]; omega
    clear k3 v3 f3 o3 oR o8 hb8 hs8 hwt hwl hle hS
    go_wp2_with fail
    go_region_with (go_at_call 208; refine (y3 _ HFP.out.drew).out.mono ?_; rintro _ w4 ⟨rfl, b4⟩; have o4 := (own_drewK HO.out).past b4 (own_drewK HO.out).inside; have s4 : w4.cell? ⟨G, o + 1, none⟩ = some (.int .i64 (S : Int)) := (by rw [o4.at_]; exact (HO.out.at_ _).symm.trans g1); have s5 : w4.frozen? ⟨G, o + 1, none⟩ = false := o4.open_ (o + 1))
    all_goals
      have hin := H.out.1.inside
      have oR5 := ((own_drewK HR.out.1).past b4 (own_drewK HR.out.1).inside).other (p := ⟨G, o + 1, none⟩) (by show G ≠ w.heap.size; omega) (.int .i64 ((S : Int) - (T : Int)))
      have o85 := ((own_drewK HR.out.2.1).past b4 (own_drewK HR.out.2.1).inside).other (p := ⟨G, o + 1, none⟩) (by show G ≠ w1.heap.size; have := HR.out.2.2.1; omega) (.int .i64 ((S : Int) - (T : Int)))
      have HL := Lib.hid (take_last HF.out H.out.1 MID.out (below_undrew b4) (x := ((S : Int) - (T : Int))) (by have := E5.out; omega) (.string f.n) (.slice f.A f.ps.length f.c))
      generalize w4.setCell ⟨G, o + 1, none⟩ (.int .i64 ((S : Int) - (T : Int))) = W5 at *
      have p0 := o85.at_ 0
      have p1 := o85.at_ 1
      have q0 := oR5.at_ 0
      have q1 := oR5.at_ 1
      have r0 := oR5.open_ 0
      have r1 := oR5.open_ 1
      have e0 := HL.out.2.2.at_ 0
      have e1 := HL.out.2.2.at_ 1
      simp only [zeroVf, Value.cells, Vf.cells, List.getElem?_cons_zero, List.getElem?_cons_succ] at p0 p1 q0 q1 e0 e1
      clear oR5 o85 b4 o4 s4 s5 g1 z3 x0 x1
      go_wp2_with fail
      refine bodyPost_ret (v := .tuple #[f.val, .bool true]) (by simp [results, Tryz.results174, go_sem, e0, e1, Vf.val]) rfl ⟨f, HF.out, rfl, HL.out.1, HL.out.2.1, fun k hk => ⟨cut_apart H.out.1.vis HF.out k hk, ?_, ?_⟩⟩
      · intro e
        exact H.out.1.out (by rw [← e]; exact .inr ⟨f, List.mem_of_getElem? HF.out, hk⟩)
      · exact (H.out.1.vis.lt k (.inr ⟨f, List.mem_of_getElem? HF.out, hk⟩)).2
end Go.Proofs.YtllpfngmnccejaaGreat
namespace Go.Proofs.YtllpfngmnccejaaGreat
open Go Go.RowKit

def moreV (f : Vf) (A2 : Option Addr) (c2 : Nat) (d : ByteArray) : Vf := ⟨f.n, A2, c2, f.ps ++ [d]⟩
theorem flat_setK : ∀ (l : List Vf) (p : Nat) (f g : Vf), l[p]? = some f → g.n = f.n → (l.flatMap Vf.cells).set (p * 2 + 1) (.slice g.A g.ps.length g.c) = (l.set p g).flatMap Vf.cells
  | [], p, f, g, h, _ => by simp at h
  | x :: l, 0, f, g, h, hn => by
    obtain rfl : x = f := by simpa using h
    simp [Vf.cells, hn]
  | x :: l, p + 1, f, g, h, hn => by
    have ih := flat_setK l p f g (by simpa using h) hn
    rw [List.flatMap_cons, List.set_cons_succ, List.flatMap_cons, ← ih, show (p + 1) * 2 + 1 = x.cells.length + (p * 2 + 1) by show _ = 2 + _; omega, List.set_append_right _ _ (by omega)]
    congr 2
    omega
theorem set_fl (l : List Vf) (p : Nat) (g : Vf) : flV (l.set p g) = (flV l).set p g.fl := by unfold flV; rw [List.map_set]
theorem names_setV {l : List Vf} {p : Nat} {f g : Vf} (h : l[p]? = some f) (hn : g.n = f.n) : namesV (l.set p g) = namesV l := by
  unfold namesV
  rw [List.map_set]
  apply List.ext_getElem?
  intro i
  rw [List.getElem?_set]
  split
  · rename_i hi; subst hi
    rw [List.getElem?_map, h, hn]
    have := (List.getElem?_eq_some_iff.1 h).1
    simp [this]
  · rfl
theorem sum_set {l : List Nat} {p a b : Nat} (h : l[p]? = some a) : (l.set p b).sum + a = l.sum + b := by
  induction l generalizing p with
  | nil => simp at h
  | cons x l ih =>
    cases p with
    | zero => obtain rfl : x = a := by simpa using h
              simp; omega
    | succ p => have := ih (p := p) (by simpa using h); simp; omega
theorem more_wt {l : List Vf} {p c2 : Nat} {f : Vf} {A2 : Option Addr} {d : ByteArray} (h : l[p]? = some f) : wtV (l.set p (moreV f A2 c2 d)) = wtV l + 1 + d.size ∧ szF (flV (l.set p (moreV f A2 c2 d))) = szF (flV l) + d.size := by
  have e1 := sum_set (l := l.map (fun f => f.ps.length)) (p := p) (a := f.ps.length) (b := f.ps.length + 1) (by rw [List.getElem?_map, h]; rfl)
  have e2 := sum_set (l := (flV l).map (fun f => f.d.size)) (p := p) (a := (catB f.ps).size) (b := (catB f.ps).size + d.size) (by unfold flV; rw [List.getElem?_map, List.getElem?_map, h]; rfl)
  have e3 : (l.set p (moreV f A2 c2 d)).map (fun f => f.ps.length) = (l.map (fun f => f.ps.length)).set p (f.ps.length + 1) := by rw [List.map_set]; simp [moreV]
  have e4 : szF (flV (l.set p (moreV f A2 c2 d))) = (((flV l).map (fun f => f.d.size)).set p ((catB f.ps).size + d.size)).sum := by
    unfold szF
    rw [set_fl, List.map_set]
    have : (moreV f A2 c2 d).fl.d.size = (catB f.ps).size + d.size := by show (catB (f.ps ++ [d])).size = _; rw [catB_more, bsize_app]
    rw [this]
  have e5 : szF (flV (l.set p (moreV f A2 c2 d))) = szF (flV l) + d.size := by rw [e4]; unfold szF; omega
  refine ⟨?_, e5⟩
  unfold wtV
  rw [e3, e5, List.length_set]
  omega
/-- what extending comes to -/
theorem ext_has {l : List Vf} {n d : ByteArray} {f : Vf} {A2 : Option Addr} {c2 : Nat} (hs : SortedN (namesV l)) (hh : hasN (namesV l) n = true) (hf : l[posN (namesV l) n]? = some f) : f.n = n ∧ flV (l.set (posN (namesV l) n) (moreV f A2 c2 d)) = extF (flV l) n d := by
  have h1 := posN_has hs hh
  have hn : f.n = n := by
    unfold namesV at h1 hf
    rw [List.getElem?_map] at h1
    rw [hf] at h1
    exact Option.some.inj h1
  refine ⟨hn, ?_⟩
  rw [set_fl]
  unfold extF
  rw [has_fl, if_pos hh]
  have hp : posF (flV l) n = posN (namesV l) n := by unfold posF; rw [names_fl]
  have ho : oldF (flV l) n = f.fl := by
    unfold oldF
    rw [hp]
    unfold flV
    rw [List.getElem?_map, hf]; rfl
  rw [hp, ho]
  show List.set _ _ (Fl.mk f.n (catB (f.ps ++ [d]))) = _
  rw [catB_more, hn]; rfl
def newV (n : ByteArray) : Vf := ⟨n, none, 0, []⟩
theorem putV_at (l : List Vf) (f : Vf) : (putV l f)[posN (namesV l) f.n]? = some f := by
  have h2 := posN_le (namesV l) f.n
  have h3 : (namesV l).length = l.length := by simp [namesV]
  unfold putV
  rw [List.getElem?_append_right (by simp; omega)]
  have : posN (namesV l) f.n - (l.take (posN (namesV l) f.n)).length = 0 := by rw [List.length_take]; omega
  rw [this]; rfl
theorem ext_new {l : List Vf} {n d : ByteArray} {A2 : Option Addr} {c2 : Nat} (hh : hasN (namesV l) n = false) : flV ((putV l (newV n)).set (posN (namesV l) n) (moreV (newV n) A2 c2 d)) = extF (flV l) n d := by
  rw [set_fl, putV_fl]
  unfold extF
  rw [has_fl, hh]
  simp only [Bool.false_eq_true, if_false]
  have h2 := posN_le (namesV l) n
  have h3 : (namesV l).length = l.length := by simp [namesV]
  have hp : posF (flV l) n = posN (namesV l) n := by unfold posF; rw [names_fl]
  unfold putF
  dsimp only [newV, Vf.fl]
  rw [hp]
  have hl : ((flV l).take (posN (namesV l) n)).length = posN (namesV l) n := by rw [List.length_take]; unfold flV; simp; omega
  rw [List.set_append_right _ _ (by omega), hl, Nat.sub_self, List.set_cons_zero]
  have : catB (moreV { n := n, A := none, c := 0, ps := [] } A2 c2 d).ps = ⟨#[]⟩ ++ d := catB_more [] d
  rw [this]
  rfl
theorem parts_nil (w : World) (base : Nat) (n : ByteArray) : Parts w base (newV n) := World.ownsRow_nil _ _ _ _
theorem partbox (w : World) (d : ByteArray) : Lies 1 (fun s : ByteArray => [Value.string s]) (w.alloc (.cells #[.string d] 9)) (w.heap.size + 1) (some ⟨w.heap.size, 0, none⟩) [d] := fun _ => by
  refine ⟨w.heap.size, 0, rfl, by omega, fun i x hx j u hu => ?_⟩
  match i, hx with
  | 0, hx =>
    obtain rfl : d = x := by simpa using hx
    have := (Own.made w 9 [.string d]).at_ j
    rw [show 0 + 0 * 1 + j = j by omega]
    exact this.trans hu
theorem flat_str (ps : List ByteArray) : ps.flatMap (fun s : ByteArray => [Value.string s]) = ps.map Value.string := by
  induction ps with
  | nil => rfl
  | cons x l ih => rw [List.flatMap_cons, ih]; rfl
theorem infoStr : (Tryz.prog.info? 9).map (fun i => (i.zero, i.size, i.bytes)) = some (some (.string ⟨#[]⟩), 1, 16) := by kernel_rfl
/-- what is seen with a part more, in the world where it is stored -/
theorem more_vis {w w2 : World} {base g p c c2 : Nat} {A2 : Option Addr} {l : List Vf} {f : Vf} {d : ByteArray} (h : Vis w base (some ⟨g, 0, none⟩) c l) (hf : l[p]? = some f)
    (hk : KeptK w w2 (fun k => blk f.A = some k)) (hr : w2.ownsRow base 9 1 (.slice A2 (f.ps.length + 1) c2) (f.ps.length + 1) (f.ps.map Value.string ++ [.string d])) (hA : blk A2 = blk f.A ∨ ∃ k, blk A2 = some k ∧ w.heap.size ≤ k) :
    Vis (w2.setCell ⟨g, p * 2 + 1, none⟩ (.slice A2 (f.ps.length + 1) c2)) base (some ⟨g, 0, none⟩) c (l.set p (moreV f A2 c2 d)) ∧
      KeptK w (w2.setCell ⟨g, p * 2 + 1, none⟩ (.slice A2 (f.ps.length + 1) c2)) (fun k => blk f.A = some k ∨ k = g) ∧
      (∀ k, Fp (some ⟨g, 0, none⟩) (l.set p (moreV f A2 c2 d)) k → Fp (some ⟨g, 0, none⟩) l k ∨ w.heap.size ≤ k) := by
  have hlt := (List.getElem?_eq_some_iff.1 hf).1
  have hmem := List.mem_of_getElem? hf
  have hgl : g < w.heap.size := (h.lt g (.inl rfl)).2
  have hgf : blk f.A ≠ some g := fun e => h.row_apart f hmem g e rfl
  have r2 : w2.ownsRow base 210 2 (.slice (some ⟨g, 0, none⟩) l.length c) l.length (l.flatMap Vf.cells) := hk.row h.row (fun k e he => by
    rw [blk_own] at e; exact h.row_apart f hmem k he e)
  obtain ⟨r3, g3⟩ := r2.stored (p * 2 + 1) (.slice A2 (f.ps.length + 1) c2)
  have e3 : (l.flatMap Vf.cells).set (p * 2 + 1) (.slice A2 (f.ps.length + 1) c2) = (l.set p (moreV f A2 c2 d)).flatMap Vf.cells := by
    have := flat_setK l p f (moreV f A2 c2 d) hf rfl
    rw [← this]
    simp [moreV]
  rw [e3] at r3
  have k3 : KeptK w2 (w2.setCell ⟨g, p * 2 + 1, none⟩ (.slice A2 (f.ps.length + 1) c2)) (fun k => k = g) := (KeptK.refl w2 (fun k => k = g)).set_ (.inl rfl) _
  have kk : KeptK w (w2.setCell ⟨g, p * 2 + 1, none⟩ (.slice A2 (f.ps.length + 1) c2)) (fun k => blk f.A = some k ∨ k = g) := (hk.more (T := fun k => blk f.A = some k ∨ k = g) (fun k e => .inl e)).trans k3 (fun k _ e => .inr e)
  have hnew : ∀ k, blk A2 = some k → blk f.A = some k ∨ w.heap.size ≤ k := fun k e => by
    rcases hA with h1 | ⟨q, h1, h2⟩
    · exact .inl (by rw [← h1]; exact e)
    · rw [h1] at e; have := Option.some.inj e; exact .inr (by omega)
  have pn : Parts (w2.setCell ⟨g, p * 2 + 1, none⟩ (.slice A2 (f.ps.length + 1) c2)) base (moreV f A2 c2 d) := by
    unfold Parts moreV
    have hl : (f.ps ++ [d]).length = f.ps.length + 1 := by simp
    dsimp only
    rw [hl, List.map_append, List.map_cons, List.map_nil]
    refine k3.row hr (fun k e he => ?_)
    rw [blk_own] at e
    rcases hnew k e with h1 | h1
    · exact hgf (by rw [← he]; exact h1)
    · omega
  have hold : ∀ q x, l[q]? = some x → q ≠ p → Parts (w2.setCell ⟨g, p * 2 + 1, none⟩ (.slice A2 (f.ps.length + 1) c2)) base x ∧ ∀ k, blk x.A = some k → blk f.A ≠ some k := by
    intro q x hx hq
    have hap : ∀ k, blk x.A = some k → blk f.A ≠ some k := by
      intro k e1 e2
      have ha := List.pairwise_iff_getElem.1 h.apart
      have hql := (List.getElem?_eq_some_iff.1 hx).1
      have ex := (List.getElem?_eq_some_iff.1 hx).2
      have ef := (List.getElem?_eq_some_iff.1 hf).2
      rcases Nat.lt_or_gt_of_ne hq with hlt2 | hlt2
      · exact ha q p hql hlt hlt2 k (by rw [ex]; exact e1) (by rw [ef]; exact e2)
      · exact ha p q hlt hql hlt2 k (by rw [ef]; exact e2) (by rw [ex]; exact e1)
    refine ⟨kk.row (h.parts x (List.mem_of_getElem? hx)) (fun k e he => ?_), hap⟩
    rw [blk_own] at e
    rcases he with he | he
    · exact hap k e he
    · subst he; exact h.row_apart x (List.mem_of_getElem? hx) k e rfl
  have hin : ∀ x ∈ l.set p (moreV f A2 c2 d), x = moreV f A2 c2 d ∨ ∃ q, q ≠ p ∧ l[q]? = some x := by
    intro x hx
    obtain ⟨q, hq⟩ := List.getElem?_of_mem hx
    rw [List.getElem?_set] at hq
    split at hq
    · exact .inl (Option.some.inj hq).symm
    · rename_i hne; exact .inr ⟨q, fun e => hne e.symm, hq⟩
  refine ⟨⟨by rw [List.length_set]; exact r3, ?_, ?_, ?_⟩, kk, ?_⟩
  · intro x hx
    rcases hin x hx with rfl | ⟨q, hq, hx2⟩
    · exact pn
    · exact (hold q x hx2 hq).1
  · rw [List.pairwise_iff_getElem]
    intro i j hi hj hij k e1 e2
    rw [List.length_set] at hi hj
    rw [List.getElem_set] at e1 e2
    have ha := List.pairwise_iff_getElem.1 h.apart i j hi hj hij
    split at e1
    · rename_i hpi
      rw [if_neg (by omega)] at e2
      rcases hnew k e1 with h1 | h1
      · exact (hold j _ (List.getElem?_eq_getElem hj) (by omega)).2 k e2 h1
      · have := (h.lt k (.inr ⟨_, List.getElem_mem hj, e2⟩)).2; omega
    · split at e2
      · rename_i hpj
        rcases hnew k e2 with h1 | h1
        · exact (hold i _ (List.getElem?_eq_getElem hi) (by omega)).2 k e1 h1
        · have := (h.lt k (.inr ⟨_, List.getElem_mem hi, e1⟩)).2; omega
      · exact ha k e1 e2
  · intro x hx k e1 e2
    have hk2 : g = k := Option.some.inj e2
    rcases hin x hx with rfl | ⟨q, hq, hx2⟩
    · rcases hnew k e1 with h1 | h1
      · exact hgf (by rw [hk2]; exact h1)
      · omega
    · exact h.row_apart x (List.mem_of_getElem? hx2) k e1 e2
  · rintro k (e | ⟨x, hx, e⟩)
    · exact .inl (.inl e)
    · rcases hin x hx with rfl | ⟨q, hq, hx2⟩
      · rcases hnew k e with h1 | h1
        · exact .inl (.inr ⟨f, hmem, h1⟩)
        · exact .inr h1
      · exact .inl (.inr ⟨x, List.mem_of_getElem? hx2, e⟩)
end Go.Proofs.YtllpfngmnccejaaGreat
namespace Go.Proofs.YtllpfngmnccejaaGreat
open Go Go.RowKit

/-- where a file stands that is to get a part more -/
def ExtMid (w : World) (base G o : Nat) (t : TypeId) (cs : List Value) (A : Option Addr) (l : List Vf) (n d : ByteArray) (p : Nat) (W : World) (g c1 : Nat) (l1 : List Vf) (f : Vf) : Prop :=
  VisTo w W base G o t cs (Fp A l) (some ⟨g, 0, none⟩) c1 l1 ∧ l1[p]? = some f ∧ f.n = n ∧ (∀ A2 c2, flV (l1.set p (moreV f A2 c2 d)) = extF (flV l) n d) ∧ wtV l1 ≤ wtV l + 1
theorem wt_new (l : List Vf) (n : ByteArray) : wtV (putV l (newV n)) = wtV l + 1 := by rw [putV_wt]; rfl
theorem row_slice {w : World} {base n size : Nat} {e : TypeId} {v : Value} {xs : List Value} (h : w.ownsRow base e size v n xs) : ∃ A c, v = .slice A n c := by
  rcases h.2 with ⟨rfl, rfl⟩ | ⟨g, cap, cur, rfl, _⟩
  · exact ⟨_, _, rfl⟩
  · exact ⟨_, _, rfl⟩
theorem more_mid {w W w2 : World} {base G o p g c : Nat} {t : TypeId} {cs : List Value} {l : List Vf} {f : Vf} (h : VisAt w base G o t cs (some ⟨g, 0, none⟩) c l) (hf : l[p]? = some f) (bW : Below w.heap.size w W) (hg : W.grownBy w2 (Value.slice f.A f.ps.length f.c).ownBlock) :
    w2.cell? ⟨G, o, none⟩ = some (.slice (some ⟨g, 0, none⟩) l.length c) ∧ w2.cell? ⟨g, p * 2 + 1, none⟩ = some (.slice f.A f.ps.length f.c) ∧ w2.frozen? ⟨g, p * 2 + 1, none⟩ = false ∧ KeptK w w2 (fun k => blk f.A = some k) ∧ Own w2 G t cs := by
  have hmem := List.mem_of_getElem? hf
  rw [blk_own] at hg
  have kk : KeptK w w2 (fun k => blk f.A = some k) := (KeptK.of_below bW (Nat.le_refl _) (fun k => blk f.A = some k)).trans (KeptK.of_grown hg (fun _ e => e)) (fun _ _ e => e)
  have oG := kk.own h.own (fun e => h.out (.inr ⟨f, hmem, e⟩))
  have r2 := kk.row h.vis.row (fun k e he => by rw [blk_own] at e; exact h.vis.row_apart f hmem k he e)
  obtain ⟨g', hg', _, c1, _⟩ := vf_at r2 hf
  obtain rfl : g = g' := by injection hg' with e; injection e
  exact ⟨by rw [oG.at_]; exact h.c0, c1, r2.frozenAt _, kk, oG⟩
def ExtMid2 (base G o : Nat) (t : TypeId) (cs : List Value) (g c1 : Nat) (l1 : List Vf) (f : Vf) (p : Nat) (d : ByteArray) (wc wx : World) (A2 : Option Addr) (c2 : Nat) : Prop :=
  Vis wx base (some ⟨g, 0, none⟩) c1 (l1.set p (moreV f A2 c2 d)) ∧ KeptK wc wx (fun k => blk f.A = some k ∨ k = g) ∧ (∀ k, Fp (some ⟨g, 0, none⟩) (l1.set p (moreV f A2 c2 d)) k → Fp (some ⟨g, 0, none⟩) l1 k ∨ wc.heap.size ≤ k) ∧ Own wx G t (setV cs o (some ⟨g, 0, none⟩) c1 l1)
theorem ext_mid2 {w w2 : World} {base G o p g c c2 : Nat} {t : TypeId} {cs : List Value} {A2 : Option Addr} {l : List Vf} {f : Vf} {d : ByteArray} (h : VisAt w base G o t (setV cs o (some ⟨g, 0, none⟩) c l) (some ⟨g, 0, none⟩) c l) (hf : l[p]? = some f)
    (m4 : KeptK w w2 (fun k => blk f.A = some k)) (m5 : Own w2 G t (setV cs o (some ⟨g, 0, none⟩) c l))
    (ho2 : w2.ownsRow base 9 1 (.slice A2 (f.ps.length + [d].length) c2) (f.ps.length + [d].length) (f.ps.map Value.string ++ [d].flatMap (fun s => [Value.string s])))
    (hv2 : (Value.slice A2 (f.ps.length + [d].length) c2).ownBlock = (Value.slice f.A f.ps.length f.c).ownBlock ∨ (Value.slice A2 (f.ps.length + [d].length) c2).ownBlock = some (w.alloc (.cells #[.string d] 9)).drew.heap.size) :
    ExtMid2 base G o t cs g c l f p d w (w2.setCell ⟨g, p * 2 + 1, none⟩ (.slice A2 (f.ps.length + 1) c2)) A2 c2 := by
  rw [blk_own] at hv2
  rw [blk_own] at hv2
  obtain ⟨v3, k3, p3⟩ := more_vis (c2 := c2) h.vis hf m4 ho2 (by
    rcases hv2 with e | e
    · exact .inl e
    · refine .inr ⟨_, e, ?_⟩
      show w.heap.size ≤ (w.alloc _).heap.size
      simp)
  refine ⟨v3, k3, p3, m5.other (p := ⟨g, p * 2 + 1, none⟩) ?_ _⟩
  intro e
  exact h.out (.inl (congrArg some e))
theorem ext_last {w wc wx : World} {base G o p g c1 c2 : Nat} {t : TypeId} {cs : List Value} {F : Nat → Prop} {A2 : Option Addr} {l1 : List Vf} {f : Vf} {d : ByteArray} (k1 : VisTo w wc base G o t cs F (some ⟨g, 0, none⟩) c1 l1) (hf : l1[p]? = some f) (hw : wtV l1 + 1 + d.size ≤ 1099511627776)
    (v3 : Vis wx base (some ⟨g, 0, none⟩) c1 (l1.set p (moreV f A2 c2 d))) (k3 : KeptK wc wx (fun k => blk f.A = some k ∨ k = g)) (p3 : ∀ k, Fp (some ⟨g, 0, none⟩) (l1.set p (moreV f A2 c2 d)) k → Fp (some ⟨g, 0, none⟩) l1 k ∨ wc.heap.size ≤ k) (o3 : Own wx G t (setV cs o (some ⟨g, 0, none⟩) c1 l1))
    {x : Int} (hx : x = (szF (flV (l1.set p (moreV f A2 c2 d))) : Int)) : VisTo w (wx.setCell ⟨G, o + 1, none⟩ (.int .i64 x)) base G o t cs F (some ⟨g, 0, none⟩) c1 (l1.set p (moreV f A2 c2 d)) := by
  subst hx
  have hmem := List.mem_of_getElem? hf
  have hG : ¬ Fp (some ⟨g, 0, none⟩) (l1.set p (moreV f A2 c2 d)) G := fun e => by
    rcases p3 G e with e | e
    · exact k1.at_.out e
    · have := k1.at_.inside; omega
  have kk : ∀ u, KeptK wx (wx.setCell ⟨G, o + 1, none⟩ u) (fun k => k = G) := fun u => (KeptK.refl wx (fun k => k = G)).set_ (.inl rfl) u
  have hfp1 : ∀ k, (blk f.A = some k ∨ k = g) → Fp (some ⟨g, 0, none⟩) l1 k := fun k e => by
    rcases e with e | e
    · exact .inr ⟨f, hmem, e⟩
    · exact .inl (by rw [e]; rfl)
  have hfp2 : ∀ k, Fp (some ⟨g, 0, none⟩) l1 k → F k ∨ w.heap.size ≤ k := k1.fp
  refine ⟨⟨?_, ?_, ?_, v3.kept (kk _) (fun k hk e => hG (by rw [← e]; exact hk)), hG, ?_, by have := more_wt (A2 := A2) (c2 := c2) (d := d) hf; omega, ?_⟩, ?_, ?_⟩
  · have := o3.set_ (o + 1) (.int .i64 (szF (flV (l1.set p (moreV f A2 c2 d))) : Int))
    have e : (setV cs o (some ⟨g, 0, none⟩) c1 l1).set (o + 1) (.int .i64 (szF (flV (l1.set p (moreV f A2 c2 d))) : Int)) = setV cs o (some ⟨g, 0, none⟩) c1 (l1.set p (moreV f A2 c2 d)) := by
      unfold setV
      rw [List.set_set, List.length_set]
    rw [← e]; exact this
  · have := k1.at_.c0
    have h0 : ∃ u, cs[o]? = some u := by
      have hl := (List.getElem?_eq_some_iff.1 this).1
      unfold setV at hl
      simp at hl
      exact ⟨_, List.getElem?_eq_getElem hl⟩
    obtain ⟨u, hu⟩ := h0
    exact setV_0 hu
  · have := k1.at_.c1
    have h0 : ∃ u, cs[o + 1]? = some u := by
      have hl := (List.getElem?_eq_some_iff.1 this).1
      unfold setV at hl
      simp at hl
      exact ⟨_, List.getElem?_eq_getElem hl⟩
    obtain ⟨u, hu⟩ := h0
    exact setV_1 hu
  · rw [names_setV (g := moreV f A2 c2 d) hf rfl]; exact k1.at_.sorted
  · exact Nat.le_trans k1.at_.le (Nat.le_trans k3.size (kk (.int .i64 (szF (flV (l1.set p (moreV f A2 c2 d))) : Int))).size)
  · have k4 := (k3.more (T := fun k => k = G ∨ (blk f.A = some k ∨ k = g)) (fun k e => .inr e)).trans (kk (.int .i64 (szF (flV (l1.set p (moreV f A2 c2 d))) : Int))) (fun k _ e => .inl e)
    refine k1.kept.trans k4 (fun k hk e => ?_)
    rcases e with e | e
    · exact .inl e
    · rcases hfp2 k (hfp1 k e) with h1 | h1
      · exact .inr h1
      · omega
  · intro k hk
    rcases p3 k hk with e | e
    · exact hfp2 k e
    · exact .inr (Nat.le_trans k1.kept.size e)
set_option maxRecDepth 100000 in
set_option maxHeartbeats 1600000 in
theorem extend_any (base G o : Nat) (t : TypeId) (cs : List Value) (A : Option Addr) (c : Nat) (l : List Vf) (n d : ByteArray) (w : World) (h : VisAt w base G o t cs A c l) (hw : wtV l + 2 + d.size ≤ 1099511627776) :
    Calls Tryz.prog 171 #[.pointer (some ⟨G, o, none⟩), .string n, .string d] w fun e w' => e = .returned (.tuple #[]) ∧ ∃ A' c' l', VisTo w w' base G o t cs (Fp A l) A' c' l' ∧ flV l' = extF (flV l) n d ∧ wtV l' ≤ wtV l + 2 + d.size := by
  have hlw := len_le_wt l
  have hwl := h.wt
  have y1 := Lib.hid (find_any G o base t cs A c l n w h.own h.c0 h.vis.row h.sorted (by omega))
  have H := Lib.hid (And.intro h hw)
  have hhas := Lib.hid (fun hh => posN_has (n := n) h.sorted hh)
  obtain ⟨p, hp⟩ : ∃ p, p = posN (namesV l) n := ⟨_, rfl⟩
  have HP := Lib.hid hp
  have hpl : p ≤ l.length := by rw [hp]; have := posN_le (namesV l) n; simpa [namesV] using this
  rw [← hp] at y1 hhas
  obtain ⟨b, hb⟩ : ∃ b, b = hasN (namesV l) n := ⟨_, rfl⟩
  have HB := Lib.hid hb
  rw [← hb] at y1 hhas
  have y2 := fun W (hV : VisAt W base G o t cs A c l) (hb : b = false) => Lib.hid (put_any base G o t cs A c l (newV n) W hV (parts_nil _ _ _) (fun k e => by cases e) (by show hasN (namesV l) n = false; rw [← HB.out, hb]) (by rw [wt_new]; omega))
  unfold Vf.val newV at y2
  clear h hw hwl hlw hp hb
  go_enter Tryz.func171, Tryz.ntmps171
  go_wp2_with fail
  refine y1.out.mono ?_
  rintro _ w1 ⟨rfl, b1⟩
  have HW := Lib.hid (And.intro b1 (H.out.1.below b1))
  clear b1 y1
  go_upto_if 15 with fail
  go_cut [6] (fun s6 wx => s6 = .int .i64 (p : Int) ∧ ∃ g c1 l1 f, ExtMid w base G o t cs A l n d p wx g c1 l1 f)
  case first =>
    cases b
    · go_wp2_with fail
      refine (y2 _ HW.out.2 (by first | trivial | rfl)).out.mono ?_
      rintro _ w2 ⟨rfl, A1, c1, k1⟩
      go_wp2_with fail
      go_meet
      have hat : (putV l (newV n))[p]? = some (newV n) := by rw [HP.out]; exact putV_at l (newV n)
      have k2 := (k1.after HW.out.1).wider (F' := Fp A l) (fun k e => by rcases e with e | e; exact e; cases e)
      obtain ⟨g, hg, _⟩ := vf_at k2.at_.vis.row hat
      subst hg
      exact ⟨rfl, g, c1, _, newV n, k2, hat, rfl, fun A2 c2 => by rw [HP.out]; exact ext_new HB.out.symm, by have := wt_new l n; unfold newV at this; omega⟩
    · go_wp2_with fail
      go_meet
      have hat := hhas.out (by first | trivial | rfl)
      obtain ⟨f, hf⟩ : ∃ f, l[p]? = some f := by
        unfold namesV at hat
        rw [List.getElem?_map] at hat
        cases hx : l[p]? with
        | none => rw [hx] at hat; cases hat
        | some f => exact ⟨f, rfl⟩
      have k2 := VisTo.refl H.out.1 HW.out.1
      obtain ⟨g, hg, _⟩ := vf_at H.out.1.vis.row hf
      subst hg
      have he := fun A2 c2 => ext_has (A2 := A2) (c2 := c2) (d := d) H.out.1.sorted HB.out.symm (by rw [← HP.out]; exact hf)
      exact ⟨rfl, g, c, l, f, k2, hf, (he none 0).1, fun A2 c2 => by rw [HP.out]; exact (he A2 c2).2, by omega⟩
  case rest =>
    obtain ⟨rfl, g, c1, l1, f, hmid⟩ := hcut
    have MID := Lib.hid hmid
    obtain ⟨k1, hf, hfn, _, hwt⟩ := hmid
    have HV := Lib.hid k1.at_
    obtain ⟨g', hg', x0, x1, hgl⟩ := vf_at k1.at_.vis.row hf
    obtain rfl : g = g' := by injection hg' with e; injection e
    have a0 : wc.cell? ⟨G, o, none⟩ = some (.slice (some ⟨g, 0, none⟩) l1.length c1) := by rw [k1.at_.own.at_]; exact k1.at_.c0
    have a1 : wc.cell? ⟨G, o + 1, none⟩ = some (.int .i64 (szF (flV l1) : Int)) := by rw [k1.at_.own.at_]; exact k1.at_.c1
    have hGl := k1.at_.inside
    have z0 : wc.frozen? ⟨G, o + 1, none⟩ = false := k1.at_.own.open_ (o + 1)
    obtain ⟨i0, hi, hz0, hz1, hz2⟩ := info_parts infoStr
    have hU := Tryz.underlying208
    have hpo := Lib.hid (k1.at_.vis.parts f (List.mem_of_getElem? hf))
    have hps : f.ps.length ≤ 1099511627776 := by have := parts_le_wt (List.mem_of_getElem? hf); have := k1.at_.wt; omega
    have hbl := k1.at_.le
    have bW : Below wc.heap.size wc (wc.alloc (.cells #[.string d] 9)).drew := Below.drew ((Below.refl _ _).alloc (Nat.le_refl _) _)
    have a0' : (wc.alloc (.cells #[.string d] 9)).cell? ⟨G, o, none⟩ = some (.slice (some ⟨g, 0, none⟩) l1.length c1) := (bW.cell (p := ⟨G, o, none⟩) hGl).trans a0
    have x1' : (wc.alloc (.cells #[.string d] 9)).cell? ⟨g, p * 2 + 1, none⟩ = some (.slice f.A f.ps.length f.c) := (bW.cell (p := ⟨g, p * 2 + 1, none⟩) hgl).trans x1
    have hlt := (List.getElem?_eq_some_iff.1 hf).1
    have HM := Lib.hid (fun w2 hg => more_mid k1.at_ hf bW (w2 := w2) hg)
    clear k1 hfn hwt hg' bW hf
    go_upto_region 3 with fail
    go_cut [6] (fun s6 wx => s6 = .int .i64 (p : Int) ∧ ∃ A2 c2, ExtMid2 base G o t cs g c1 l1 f p d wc wx A2 c2)
    case first =>
      go_region_law (refine step_append_lies (size := 1) (cells := fun s : ByteArray => [Value.string s]) (l := [d]) (B := wc.heap.size + 1) _ rfl (.tmp 32) (.tmp 34) 208 9 rfl i0 _ 16 hU hi hz0 hz1 hz2 rfl (by decide) (fun _ => rfl) (fun x u hu => by simp at hu; rw [hu]; rfl) base (.slice f.A f.ps.length f.c) f.ps.length _ rfl (hpo.out.alloc _).drew 1 wc.heap.size 0 (by simp [Act.eval, Act.put]) (partbox _ d) (by unfold maxLen; simp; omega) (by simp; omega) (by simp; omega) ?_; intro v2 w2 ho2 hb2 hv2 hg2; obtain ⟨A2, c2, rfl⟩ := row_slice ho2; obtain ⟨m1, m2, m3, m4, m5⟩ := HM.out w2 hg2)
      all_goals
        go_wp2_with fail
        go_meet
        exact ⟨rfl, A2, c2, ext_mid2 MID.out.1.at_ MID.out.2.1 m4 m5 ho2 hv2⟩
    case rest =>
      obtain ⟨rfl, A2, c2, v3, k3, p3, o3⟩ := hcut
      have e1 := (o3.at_ (o + 1)).trans MID.out.1.at_.c1
      have z1 := o3.open_ (o + 1)
      have hwt := more_wt (A2 := A2) (c2 := c2) (d := d) MID.out.2.1
      have hwl := MID.out.2.2.2.2
      have E5 := Lib.hid hwt.2
      have hle : szF (flV l1) + d.size ≤ 1099511627776 := by have := H.out.2; unfold wtV at hwt hwl this; omega
      have HL := Lib.hid (fun x hx => ext_last (x := x) MID.out.1 MID.out.2.1 (by have := H.out.2; omega) v3 k3 p3 o3 hx)
      generalize szF (flV l1) = S at *
      generalize hT : d.size = T at *
      have hw : IntKind.i64.wrap ((S : Int) + (T : Int)) = (S : Int) + (T : Int) := by rw [IntKind.wrap_i64]; omega
      have HE := Lib.hid (And.intro (MID.out.2.2.2.1 A2 c2) (by have := H.out.2; omega : wtV (l1.set p (moreV f A2 c2 d)) ≤ wtV l + 2 + T))
      clear v3 k3 p3 o3 a0 a1 a0' x0 x1 x1' z0 hwt hwl hle
      go_wp2_with fail
      refine bodyPost_end (results_none rfl _ _ _) rfl ⟨rfl, some ⟨g, 0, none⟩, c1, l1.set p (moreV f A2 c2 d), HL.out _ ?_, HE.out.1, by rw [hT]; exact HE.out.2⟩
      rw [E5.out]; omega
end Go.Proofs.YtllpfngmnccejaaGreat
namespace Go.Proofs.YtllpfngmnccejaaGreat
open Go Go.RowKit

theorem Parts.past_ {w w' : World} {base : Nat} {f : Vf} (h : Parts w base f) (hb : Below w.heap.size w w') : Parts w' base f := own_below h hb
theorem VisTo.step {w w1 w2 : World} {base G o : Nat} {t : TypeId} {cs : List Value} {F S : Nat → Prop} {A1 : Option Addr} {c1 : Nat} {l1 : List Vf} (h : VisTo w w1 base G o t cs F A1 c1 l1) (k : KeptK w1 w2 S) (h1 : ¬ S G) (h2 : ∀ k, Fp A1 l1 k → ¬ S k) (h3 : ∀ k, S k → w.heap.size ≤ k) : VisTo w w2 base G o t cs F A1 c1 l1 :=
  ⟨⟨k.own h.at_.own h1, h.at_.c0, h.at_.c1, h.at_.vis.kept k h2, h.at_.out, h.at_.sorted, h.at_.wt, Nat.le_trans h.at_.le k.size⟩, h.kept.trans k (fun b hb hs => by have := h3 b hs; omega), h.fp⟩
theorem takeV_fp {A : Option Addr} {l : List Vf} {n : ByteArray} {k : Nat} (h : Fp A (takeV l n) k) : Fp A l k := by
  unfold takeV at h
  split at h
  · exact cut_fp h
  · exact h
theorem takeV_has {l : List Vf} {n : ByteArray} (hs : SortedN (namesV l)) : hasN (namesV (takeV l n)) n = false := by
  rw [← has_fl, takeV_fl]
  exact has_take (sorted_fl.2 hs)
theorem takeV_wt_le (l : List Vf) (n : ByteArray) (hs : SortedN (namesV l)) : wtV (takeV l n) ≤ wtV l := by
  unfold takeV
  split
  · rename_i h
    have hat := posN_has hs h
    obtain ⟨f, hf⟩ : ∃ f, l[posN (namesV l) n]? = some f := by
      unfold namesV at hat ⊢
      rw [List.getElem?_map] at hat
      cases hx : l[posN (l.map Vf.n) n]? with
      | none => rw [hx] at hat; cases hat
      | some f => exact ⟨f, rfl⟩
    have := cutV_wt hf
    omega
  · omega
/-- what took says of the world alone -/
theorem took_to {w w' : World} {base G o : Nat} {t : TypeId} {cs : List Value} {A : Option Addr} {c : Nat} {l : List Vf} {n : ByteArray} {e : Ending} (h : Took w w' base G o t cs A c l n e) :
    VisTo w w' base G o t cs (Fp A l) A c (takeV l n) ∧ ∃ v, e = .returned (.tuple #[v, .bool (hasN (namesV l) n)]) := by
  unfold Took at h
  split at h
  · rename_i hh
    obtain ⟨f, hf, rfl, hv, _⟩ := h
    exact ⟨hv, f.val, by rw [hh]⟩
  · rename_i hh
    obtain ⟨rfl, hv⟩ := h
    exact ⟨hv, zeroVf, by simp [hh]⟩
theorem ren_fl {l : List Vf} {n t : ByteArray} {f : Vf} (hh : hasN (namesV l) n = true) (hf : l[posN (namesV l) n]? = some f) : flV (putV (takeV (takeV l n) t) ⟨t, f.A, f.c, f.ps⟩) = renF (flV l) n t := by
  rw [putV_fl, takeV_fl, takeV_fl]
  unfold renF
  rw [has_fl, if_pos hh]
  have hp : posF (flV l) n = posN (namesV l) n := by unfold posF; rw [names_fl]
  have ho : oldF (flV l) n = f.fl := by
    unfold oldF
    rw [hp]
    unfold flV
    rw [List.getElem?_map, hf]; rfl
  rw [ho]; rfl
theorem ren_mid {w w1 V w2 : World} {base G o : Nat} {t : TypeId} {cs : List Value} {A : Option Addr} {c : Nat} {l : List Vf} {n : ByteArray} {f : Vf} (h0 : VisAt w base G o t cs A c l) (hv : VisTo w V base G o t cs (Fp A l) A c (takeV l n)) (hs : V.heap.size = w1.heap.size + 1) (oV : Own V w1.heap.size 210 f.cells) (hp : Parts V base f)
    (hap : ∀ k, blk f.A = some k → ¬ Fp A (takeV l n) k ∧ k ≠ G ∧ k < w.heap.size) (hsz : w.heap.size ≤ w1.heap.size) (m : ByteArray) (k2 : VisTo V w2 base G o t (setV cs o A c (takeV l n)) (Fp A (takeV l n)) A c (takeV (takeV l n) m)) :
    VisTo w (w2.setCell ⟨w1.heap.size, 0, none⟩ (.string m)) base G o t cs (Fp A l) A c (takeV (takeV l n) m) ∧ Parts (w2.setCell ⟨w1.heap.size, 0, none⟩ (.string m)) base ⟨m, f.A, f.c, f.ps⟩ ∧
      (∀ k, blk (Vf.mk m f.A f.c f.ps).A = some k → ¬ Fp A (takeV (takeV l n) m) k ∧ k ≠ G) ∧ (Own w2 w1.heap.size 210 f.cells ∧ Own (w2.setCell ⟨w1.heap.size, 0, none⟩ (.string m)) w1.heap.size 210 (f.cells.set 0 (.string m))) := by
  have hG := h0.inside
  have hfl : ∀ k, Fp A l k → k < w.heap.size := fun k e => (h0.vis.lt k e).2
  have hb : ¬ (w1.heap.size = G ∨ Fp A (takeV l n) w1.heap.size) := fun e => by
    rcases e with e | e
    · omega
    · have := hfl _ (takeV_fp e); omega
  have oB := k2.kept.own oV hb
  have kB : KeptK w2 (w2.setCell ⟨w1.heap.size, 0, none⟩ (.string m)) (fun k => k = w1.heap.size) := (KeptK.refl w2 (fun k => k = w1.heap.size)).set_ (.inl rfl) _
  have hk := hv.trans k2 (fun k e => .inl (takeV_fp e))
  have p2 : Parts w2 base f := k2.kept.row hp (fun k e he => by
    rw [blk_own] at e
    rcases he with he | he
    · exact (hap k e).2.1 he
    · exact (hap k e).1 he)
  refine ⟨hk.step kB (by omega) (fun k e he => ?_) (fun k e => by omega), kB.row p2 (fun k e he => ?_), fun k e => ⟨fun hx => (hap k e).1 (takeV_fp hx), (hap k e).2.1⟩, oB, oB.set_ 0 _⟩
  · have := hfl _ (takeV_fp (takeV_fp e)); omega
  · rw [blk_own] at e
    have := (hap k e).2.2; omega
set_option maxRecDepth 100000 in
set_option maxHeartbeats 1600000 in
theorem rename_any (base G o : Nat) (t : TypeId) (cs : List Value) (A : Option Addr) (c : Nat) (l : List Vf) (n m : ByteArray) (w : World) (h : VisAt w base G o t cs A c l) :
    Calls Tryz.prog 173 #[.pointer (some ⟨G, o, none⟩), .string n, .string m] w fun e w' => e = .returned (.tuple #[]) ∧ ∃ A' c' l', VisTo w w' base G o t cs (Fp A l) A' c' l' ∧ flV l' = renF (flV l) n m ∧ wtV l' ≤ wtV l := by
  have y1 := Lib.hid (take_anyK base G o t cs A c l n w h)
  have H := Lib.hid h
  clear h
  go_enter Tryz.func173, Tryz.ntmps173
  go_wp2_with fail
  refine y1.out.mono ?_
  rintro e w1 hT
  cases hh : hasN (namesV l) n
  · unfold Took at hT
    rw [hh] at hT
    simp only [Bool.false_eq_true, if_false] at hT
    obtain ⟨rfl, hv⟩ := hT
    have ht : takeV l n = l := by unfold takeV; rw [hh]; rfl
    rw [ht] at hv
    have HX := Lib.hid (And.intro (hv.then_ ((Below.refl _ _).alloc (Nat.le_refl _) (.cells #[.string ⟨#[]⟩, .slice none 0 0] 210))) (by unfold renF; rw [has_fl, hh]; rfl : flV l = renF (flV l) n m))
    clear hv ht y1 hh
    unfold zeroVf
    go_wp2_with fail
    exact bodyPost_ret (results_none rfl _ _ _) rfl ⟨rfl, A, c, l, HX.out.1, HX.out.2, Nat.le_refl _⟩
  · unfold Took at hT
    rw [if_pos hh] at hT
    obtain ⟨f, hf, rfl, hv, hp, hap⟩ := hT
    obtain ⟨V, hV, hVb, hVs, oV⟩ := vfbox w1 f
    have hv2 := hv.then_ hVb
    have y2 := Lib.hid (take_anyK base G o t (setV cs o A c (takeV l n)) A c (takeV l n) m V hv2.at_)
    have HX := Lib.hid (And.intro hv2 (And.intro hVs (And.intro oV (And.intro (hp.past_ hVb) (And.intro hap (And.intro hh (And.intro hf hv.kept.size)))))))
    unfold Vf.val
    clear hv hp hap hVb hVs oV hv2 y1 hh hf
    go_upto_region 2 with fail
    rw [← hV]
    clear hV
    go_wp2_with fail
    refine y2.out.mono ?_
    rintro e w2 hT2
    obtain ⟨k2, v, rfl⟩ := took_to hT2
    obtain ⟨hw3, hp3, hap3, o3⟩ := ren_mid H.out HX.out.1 HX.out.2.1 HX.out.2.2.1 HX.out.2.2.2.1 HX.out.2.2.2.2.1 HX.out.2.2.2.2.2.2.2 m k2
    have x0 := o3.1.at_ 0
    have x1 := o3.1.at_ 1
    have z0 := o3.1.open_ 0
    have e0 := o3.2.at_ 0
    have e1 := o3.2.at_ 1
    simp only [Vf.cells, List.getElem?_cons_zero, List.getElem?_cons_succ, List.set_cons_zero] at x0 x1 e0 e1
    have hs1 := takeV_wt_le (takeV l n) m HX.out.1.at_.sorted
    have hwt := cutV_wt HX.out.2.2.2.2.2.2.1
    have hcut : takeV l n = cutV l (posN (namesV l) n) := by unfold takeV; rw [if_pos HX.out.2.2.2.2.2.1]
    have hpw : wtV (putV (takeV (takeV l n) m) ⟨m, f.A, f.c, f.ps⟩) ≤ wtV l := by
      rw [putV_wt]
      rw [hcut] at hs1 ⊢
      dsimp only
      omega
    have y3 := Lib.hid (put_any base G o t (setV cs o A c (takeV (takeV l n) m)) A c (takeV (takeV l n) m) ⟨m, f.A, f.c, f.ps⟩ _ hw3.at_ hp3 hap3 (takeV_has HX.out.1.at_.sorted) (by have := H.out.wt; omega))
    have HR := Lib.hid (And.intro hw3 (And.intro (ren_fl (t := m) HX.out.2.2.2.2.2.1 HX.out.2.2.2.2.2.2.1) hpw))
    unfold Vf.val at y3
    clear hT2 k2 hw3 hp3 hap3 o3 hs1 hwt hcut hpw y2
    go_wp2_with fail
    refine y3.out.mono ?_
    rintro _ w4 ⟨rfl, A', c', k4⟩
    have k5 := HR.out.1.trans k4 (fun k e => by
      rcases e with e | e
      · exact .inl (takeV_fp (takeV_fp e))
      · exact .inl (.inr ⟨f, List.mem_of_getElem? HX.out.2.2.2.2.2.2.1, e⟩))
    have HK := Lib.hid k5
    clear k4 k5
    go_wp2_with fail
    exact bodyPost_end (results_none rfl _ _ _) rfl ⟨rfl, A', c', _, HK.out, HR.out.2.1, HR.out.2.2⟩
end Go.Proofs.YtllpfngmnccejaaGreat
namespace Go.Proofs.YtllpfngmnccejaaGreat
open Go Go.RowKit

def rightN (n : ByteArray) : Bool := decide (1 ≤ n.size) && decide (n.size ≤ 32)
def noB (s : ByteArray) : Bool := decide (s.size = 0)
def rightW (w : Wr) : Bool := rightN w.n && (if w.k = 1 then noB w.t else if w.k = 2 then rightN w.t && noB w.d else if w.k = 3 then noB w.t && noB w.d else false)
def ascN : List ByteArray → Bool
  | [] => true
  | x :: r => (match r with | [] => true | y :: _ => decide (cmpN x y < 0)) && ascN r
def rightFs (fs : List Fl) : Bool := decide (fs.length ≤ 256) && (fs.all (fun f => rightN f.n) && ascN (namesF fs))
def okW : List Fl → List Wr → Bool
  | _, [] => true
  | l, w :: ws => rightW w && (decide ((appF l w).length ≤ 256) && okW (appF l w) ws)
def rightWs (fs : List Fl) (ws : List Wr) : Bool := decide (ws.length ≤ 4096) && okW (baseF fs) ws
/-- a disk -/
structure Dk where
  files : List Fl
  waits : List Wr
  room : Int
  down : Bool
  fuse : Int
def Dk.zero : Dk := ⟨[], [], 0, false, 0⟩
def goodD (d : Dk) : Bool := decide (0 ≤ d.room) && (rightFs d.files && rightWs d.files d.waits)
def chkD (d : Dk) : Int := if goodD d then 0 else 8
def seen (d : Dk) : List Fl := lookF d.files d.waits
def lessN (n : Int) : Int := if 0 < n then n - 1 else n
def writeD (d : Dk) (l : List Fl) (w : Wr) : Dk × List Fl × Int :=
  if d.down then (d, l, 7) else if rightW w = false then (d, l, 4) else if w.k ≠ 1 ∧ hasF l w.n = false then (d, l, 5) else
  if 4096 ≤ d.waits.length ∨ 256 < (appF l w).length ∨ d.room < (szF (appF l w) : Int) then (d, appF l w, 9) else
  if d.fuse = 0 then (⟨d.files, if w.k = 1 then d.waits ++ [w] else d.waits, d.room, true, d.fuse⟩, appF l w, 7)
  else (⟨d.files, d.waits ++ [w], d.room, d.down, lessN d.fuse⟩, appF l w, 0)
def doS (d : Dk) (l : List Fl) : List Wr → Dk × Int
  | [] => (d, 0)
  | w :: ws => if (writeD d l w).2.2 = 0 then doS (writeD d l w).1 (writeD d l w).2.1 ws else ((writeD d l w).1, (writeD d l w).2.2)
def doD (d : Dk) (ws : List Wr) : Dk × Int := if goodD d then doS d (seen d) ws else (.zero, 8)
def seeD (d : Dk) : List Fl × Int := if goodD d then (if d.down then ([], 7) else (seen d, 0)) else ([], 8)
def readF (l : List Fl) (n : ByteArray) : ByteArray × Int := match getF l n with | some x => (x, 0) | none => (⟨#[]⟩, 5)
def readD (d : Dk) (n : ByteArray) : ByteArray × Int := if goodD d then (if d.down then (⟨#[]⟩, 7) else readF (seen d) n) else (⟨#[]⟩, 8)
def syncD (d : Dk) : Dk × Int :=
  if goodD d then (if d.down then (d, 7) else if d.fuse = 0 then (⟨d.files, d.waits, d.room, true, d.fuse⟩, 7) else (⟨seen d, [], d.room, d.down, lessN d.fuse⟩, 0)) else (.zero, 8)
def keepN (keep : Int) (n : Nat) : Nat := min keep.toNat n
def tornF (l : List Fl) (w : Option Wr) (tear : Int) : List Fl := match w with | some w => if w.k = 1 ∧ 1 ≤ tear then extF l w.n (w.d.extract 0 (min tear.toNat w.d.size)) else l | none => l
def leftD (d : Dk) (keep tear : Int) : List Fl := tornF (lookF d.files (d.waits.take (keepN keep d.waits.length))) d.waits[keepN keep d.waits.length]? tear
def crashD (d : Dk) (keep tear : Int) : Dk × Int := if goodD d then (⟨leftD d keep tear, [], d.room, false, -1⟩, 0) else (.zero, 8)

theorem asc_sorted : ∀ {ns : List ByteArray}, ascN ns = true ↔ SortedN ns
  | [] => by simp [ascN, SortedN]
  | [x] => by simp [ascN, SortedN]
  | x :: y :: r => by
    have ih := asc_sorted (ns := y :: r)
    unfold ascN
    rw [Bool.and_eq_true, ih, decide_eq_true_eq]
    unfold SortedN
    rw [List.pairwise_cons (a := x)]
    constructor
    · rintro ⟨h1, h2⟩
      refine ⟨fun z hz => ?_, h2⟩
      rcases List.mem_cons.1 hz with rfl | hz
      · exact h1
      · exact cmpN_lt h1 ((List.pairwise_cons.1 h2).1 z hz)
    · rintro ⟨h1, h2⟩
      exact ⟨h1 y (by simp), h2⟩
theorem rightFs_iff {fs : List Fl} : rightFs fs = true ↔ fs.length ≤ 256 ∧ (∀ f ∈ fs, rightN f.n = true) ∧ SortedF fs := by
  unfold rightFs SortedF
  rw [Bool.and_eq_true, Bool.and_eq_true, asc_sorted]
  simp
theorem good_iff {d : Dk} : goodD d = true ↔ 0 ≤ d.room ∧ (d.files.length ≤ 256 ∧ (∀ f ∈ d.files, rightN f.n = true) ∧ SortedF d.files) ∧ d.waits.length ≤ 4096 ∧ okW d.files d.waits = true := by
  unfold goodD rightWs
  rw [Bool.and_eq_true, Bool.and_eq_true, Bool.and_eq_true, rightFs_iff]
  constructor
  · rintro ⟨h1, ⟨h2, h3, h4⟩, h5, h6⟩
    rw [base_sorted h4] at h6
    exact ⟨by simpa using h1, ⟨h2, h3, h4⟩, by simpa using h5, h6⟩
  · rintro ⟨h1, ⟨h2, h3, h4⟩, h5, h6⟩
    rw [base_sorted h4]
    exact ⟨by simpa using h1, ⟨h2, h3, h4⟩, by simpa using h5, h6⟩
theorem seen_good {d : Dk} (h : goodD d = true) : seen d = d.waits.foldl appF d.files := by
  unfold seen lookF; rw [base_sorted (good_iff.1 h).2.1.2.2]
theorem seen_sorted {d : Dk} (h : goodD d = true) : SortedF (seen d) := by rw [seen_good h]; exact sorted_look _ (good_iff.1 h).2.1.2.2
theorem okW_app : ∀ {l : List Fl} {a b : List Wr}, okW l (a ++ b) = (okW l a && okW (a.foldl appF l) b)
  | l, [], b => by simp [okW]
  | l, w :: a, b => by
    have e : ∀ (l : List Fl) (w : Wr) (ws : List Wr), okW l (w :: ws) = (rightW w && (decide ((appF l w).length ≤ 256) && okW (appF l w) ws)) := fun _ _ _ => rfl
    rw [List.cons_append, e, okW_app, e, List.foldl_cons]
    simp only [Bool.and_assoc]
theorem okW_more {l : List Fl} {ws : List Wr} {w : Wr} (h : okW l ws = true) (hw : rightW w = true) (hn : (appF (ws.foldl appF l) w).length ≤ 256) : okW l (ws ++ [w]) = true := by
  rw [okW_app, h]
  simp [okW, hw, hn]
theorem okW_cons {l : List Fl} {w : Wr} {ws : List Wr} (h : okW l (w :: ws) = true) : rightW w = true ∧ (appF l w).length ≤ 256 ∧ okW (appF l w) ws = true := by
  unfold okW at h
  rw [Bool.and_eq_true, Bool.and_eq_true] at h
  exact ⟨h.1, by simpa using h.2.1, h.2.2⟩
theorem okW_len : ∀ (ws : List Wr) {l : List Fl}, l.length ≤ 256 → okW l ws = true → (ws.foldl appF l).length ≤ 256
  | [], _, h, _ => h
  | w :: ws, l, _, h => okW_len ws (okW_cons h).2.1 (okW_cons h).2.2
def Named (l : List Fl) : Prop := ∀ f ∈ l, rightN f.n = true
theorem named_of {l : List Fl} : Named l ↔ ∀ n ∈ namesF l, rightN n = true := by unfold Named namesF; simp
theorem named_put {l : List Fl} {f : Fl} (h : Named l) (hf : rightN f.n = true) : Named (putF l f) := by
  intro x hx
  unfold putF at hx
  rcases List.mem_append.1 hx with hx | hx
  · exact h x (List.mem_of_mem_take hx)
  · rcases List.mem_cons.1 hx with rfl | hx
    · exact hf
    · exact h x (List.mem_of_mem_drop hx)
theorem named_take {l : List Fl} {n : ByteArray} (h : Named l) : Named (takeF l n) := by
  intro x hx
  unfold takeF at hx
  split at hx
  · rcases List.mem_append.1 hx with hx | hx
    · exact h x (List.mem_of_mem_take hx)
    · exact h x (List.mem_of_mem_drop hx)
  · exact h x hx
theorem named_ext {l : List Fl} {n d : ByteArray} (hn : rightN n = true) (h : Named l) : Named (extF l n d) := by
  unfold extF
  split
  · intro x hx
    rcases List.mem_or_eq_of_mem_set hx with hx | rfl
    · exact h x hx
    · exact hn
  · exact named_put h hn
theorem named_app {l : List Fl} {w : Wr} (hw : rightW w = true) (h : Named l) : Named (appF l w) := by
  unfold rightW at hw
  rw [Bool.and_eq_true] at hw
  unfold appF
  split
  · exact named_ext hw.1 h
  · rename_i h1
    split
    · rename_i h2
      have h3 : rightN w.t = true := by
        have := hw.2
        rw [if_neg h1, if_pos h2, Bool.and_eq_true] at this
        exact this.1
      unfold renF
      split
      · exact named_put (named_take (named_take h)) h3
      · exact h
    · split
      · exact named_take h
      · exact h
theorem named_look : ∀ (ws : List Wr) {l : List Fl}, Named l → okW l ws = true → Named (ws.foldl appF l)
  | [], _, h, _ => h
  | _ :: ws, _, h, k => named_look ws (named_app (okW_cons k).1 h) (okW_cons k).2.2
/-- what a write leaves -/
theorem write_good {d : Dk} {l : List Fl} {w : Wr} (h : goodD d = true) (hl : l = seen d) :
    goodD (writeD d l w).1 = true ∧ ((writeD d l w).2.2 = 0 → (writeD d l w).2.1 = seen (writeD d l w).1 ∧ (writeD d l w).1.down = false ∧ d.down = false) := by
  have hg := good_iff.1 h
  have hs := seen_good h
  have key : ∀ (r : Bool) (x : Int), rightW w = true → d.waits.length < 4096 → (appF l w).length ≤ 256 → goodD ⟨d.files, d.waits ++ [w], d.room, r, x⟩ = true := by
    intro r x h1 h2 h3
    rw [good_iff]
    refine ⟨hg.1, hg.2.1, by simp; omega, okW_more hg.2.2.2 h1 ?_⟩
    rw [← hs, ← hl]; exact h3
  have hseen : ∀ (r : Bool) (x : Int), appF l w = seen ⟨d.files, d.waits ++ [w], d.room, r, x⟩ := by
    intro r x
    unfold seen lookF
    dsimp only
    rw [List.foldl_append, hl]; rfl
  have hsame : ∀ (r : Bool) (x : Int), goodD ⟨d.files, d.waits, d.room, r, x⟩ = true := fun r x => good_iff.2 hg
  unfold writeD
  by_cases h1 : d.down = true
  · rw [if_pos h1]; exact ⟨h, fun h => by simp at h⟩
  rw [if_neg h1]
  by_cases h2 : rightW w = false
  · rw [if_pos h2]; exact ⟨h, fun h => by simp at h⟩
  rw [if_neg h2]
  by_cases h3 : w.k ≠ 1 ∧ hasF l w.n = false
  · rw [if_pos h3]; exact ⟨h, fun h => by simp at h⟩
  rw [if_neg h3]
  by_cases h4 : 4096 ≤ d.waits.length ∨ 256 < (appF l w).length ∨ d.room < (szF (appF l w) : Int)
  · rw [if_pos h4]; exact ⟨h, fun h => by simp at h⟩
  rw [if_neg h4]
  have h2' : rightW w = true := by simpa using h2
  by_cases h5 : d.fuse = 0
  · rw [if_pos h5]
    refine ⟨?_, fun h => by simp at h⟩
    by_cases h6 : w.k = 1
    · rw [if_pos h6]; exact key _ _ h2' (by omega) (by omega)
    · rw [if_neg h6]; exact hsame _ _
  · rw [if_neg h5]
    exact ⟨key _ _ h2' (by omega) (by omega), fun _ => ⟨hseen _ _, by simpa using h1, by simpa using h1⟩⟩
theorem do_good : ∀ (ws : List Wr) {d : Dk} {l : List Fl}, goodD d = true → l = seen d →
    goodD (doS d l ws).1 = true ∧ ∀ more, doS d l (ws ++ more) = if (doS d l ws).2 = 0 then doS (doS d l ws).1 (seen (doS d l ws).1) more else doS d l ws
  | [], d, l, h, hl => ⟨h, fun more => by simp [doS, hl]⟩
  | w :: ws, d, l, h, hl => by
    obtain ⟨h1, h2⟩ := write_good (w := w) h hl
    simp only [doS, List.cons_append]
    by_cases hz : (writeD d l w).2.2 = 0
    · simp only [if_pos hz]
      exact do_good ws h1 (h2 hz).1
    · simp only [if_neg hz]
      exact ⟨h1, fun more => by simp⟩
/-- writes done together are done as one by one -/
theorem do_parts (d : Dk) (a b : List Wr) : doD d (a ++ b) = if (doD d a).2 = 0 then doD (doD d a).1 b else doD d a := by
  unfold doD
  by_cases h : goodD d = true
  · simp only [if_pos h]
    obtain ⟨h1, h2⟩ := do_good a h rfl
    rw [h2 b]
    split
    · rename_i hz; simp only [h1, if_true]
    · rfl
  · simp only [if_neg h]
    rfl
/-- a file called otherwise -/
theorem swap_read {d : Dk} {a b : ByteArray} (hw : (doD d [⟨2, a, b, ⟨#[]⟩⟩]).2 = 0) :
    (readD d a).2 = 0 ∧ readD (doD d [⟨2, a, b, ⟨#[]⟩⟩]).1 b = readD d a ∧ ((readD (doD d [⟨2, a, b, ⟨#[]⟩⟩]).1 a).2 = 5 ↔ a ≠ b) := by
  unfold doD at hw ⊢
  by_cases h : goodD d = true
  · simp only [if_pos h] at hw ⊢
    simp only [doS] at hw ⊢
    obtain ⟨h1, h2⟩ := write_good (w := ⟨2, a, b, ⟨#[]⟩⟩) h rfl
    by_cases hz : (writeD d (seen d) ⟨2, a, b, ⟨#[]⟩⟩).2.2 = 0
    · obtain ⟨e1, e2, e0⟩ := h2 hz
      simp only [if_pos hz]
      have hne : hasF (seen d) a = true := by
        cases hx : hasF (seen d) a
        · exfalso
          unfold writeD at hz
          split at hz
          · simp at hz
          · split at hz
            · simp at hz
            · rw [if_pos ⟨by simp, hx⟩] at hz; simp at hz
        · rfl
      have e3 : seen (writeD d (seen d) ⟨2, a, b, ⟨#[]⟩⟩).1 = renF (seen d) a b := by
        rw [← e1]
        unfold writeD at hz ⊢
        split at hz
        · simp at hz
        · rename_i q1
          rw [if_neg q1]
          split at hz
          · simp at hz
          · rename_i q2
            rw [if_neg q2]
            split at hz
            · simp at hz
            · rename_i q3
              rw [if_neg q3]
              split
              · rfl
              · split <;> rfl
      have hs := seen_sorted h
      have g1 := get_ren (t := b) hs hne
      unfold readD
      rw [if_pos h1, if_pos h1, if_pos h]
      simp only [e2, Bool.false_eq_true, if_false, e3, e0, readF, g1]
      rw [get_old hs hne]
      refine ⟨rfl, by simp, ?_⟩
      by_cases hab : a = b
      · subst hab; simp
      · simp [hab]
    · simp only [if_neg hz] at hw
      exact absurd hw hz
  · simp only [if_neg h] at hw
    simp at hw
end Go.Proofs.YtllpfngmnccejaaGreat
namespace Go.Proofs.YtllpfngmnccejaaGreat
open Go Go.RowKit

def Wr.cells (w : Wr) : List Value := [.int .u8 w.k, .string w.n, .string w.t, .string w.d]
def Wr.val (w : Wr) : Value := .agg #[.int .u8 w.k, .string w.n, .string w.t, .string w.d]
def Fl.cells (f : Fl) : List Value := [.string f.n, .string f.d]
def Fl.val (f : Fl) : Value := .agg #[.string f.n, .string f.d]
theorem wr_one (x : Wr) : ∀ u ∈ x.cells, u.oneCell' = true := by
  intro u hu; simp [Wr.cells] at hu; rcases hu with rfl | rfl | rfl | rfl <;> rfl
theorem fl_one (x : Fl) : ∀ u ∈ x.cells, u.oneCell' = true := by
  intro u hu; simp [Fl.cells] at hu; rcases hu with rfl | rfl <;> rfl
theorem wrbox (w : World) (x : Wr) : ∃ W, W = w.alloc (.cells #[.int .u8 x.k, .string x.n, .string x.t, .string x.d] 95) ∧ Below w.heap.size w W ∧ W.heap.size = w.heap.size + 1 ∧ Own W w.heap.size 95 x.cells :=
  ⟨_, rfl, (Below.refl _ _).alloc (Nat.le_refl _) _, by simp, Own.made w _ _⟩
/-- from one who sees to another one -/
def Sees (w w' : World) (base G o : Nat) (t : TypeId) (cs : List Value) (A : Option Addr) (l : List Vf) (g : List Fl → List Fl) (b : Nat) : Prop :=
  ∃ A' c' l', VisTo w w' base G o t cs (Fp A l) A' c' l' ∧ flV l' = g (flV l) ∧ wtV l' ≤ b
set_option maxRecDepth 100000 in
set_option maxHeartbeats 1600000 in
theorem apply_any (base G o : Nat) (t : TypeId) (cs : List Value) (A : Option Addr) (c : Nat) (l : List Vf) (x : Wr) (w : World) (h : VisAt w base G o t cs A c l) (hw : wtV l + 2 + x.d.size ≤ 1099511627776) :
    Calls Tryz.prog 144 #[.pointer (some ⟨G, o, none⟩), x.val] w fun e w' => e = .returned (.tuple #[]) ∧ Sees w w' base G o t cs A l (fun m => appF m x) (wtV l + 2 + x.d.size) := by
  obtain ⟨V, hV, hVb, hVs, oV⟩ := wrbox w x
  have hV1 := h.below hVb
  have y1 := Lib.hid (extend_any base G o t cs A c l x.n x.d V hV1 hw)
  have y2 := Lib.hid (rename_any base G o t cs A c l x.n x.t V hV1)
  have y3 := Lib.hid (take_anyK base G o t cs A c l x.n V hV1)
  have H := Lib.hid (And.intro h (And.intro hVb (takeV_wt_le l x.n h.sorted)))
  have d0 := oV.at_ 0
  have d1 := oV.at_ 1
  have d2 := oV.at_ 2
  have d3 := oV.at_ 3
  simp only [Wr.cells, List.getElem?_cons_zero, List.getElem?_cons_succ] at d0 d1 d2 d3
  unfold Wr.val
  clear h hVb hVs oV hV1 hw
  by_cases k1 : x.k = 1
  · have e1 : Hid ((fun m => appF m x) = fun m => extF m x.n x.d) := Lib.hid (by funext m; unfold appF; rw [if_pos k1])
    rw [k1] at d0 hV ⊢
    clear k1
    go_enter Tryz.func144, Tryz.ntmps144
    go_upto_region 1 with fail
    rw [← hV]
    clear hV
    go_wp2_with fail
    refine y1.out.mono ?_
    rintro _ w1 ⟨rfl, A', c', l', hv, hf, hwt⟩
    have HX := Lib.hid (And.intro (hv.after H.out.2.1) (And.intro hf hwt))
    clear hv hf hwt
    go_wp2_with fail
    refine bodyPost_end (results_none rfl _ _ _) rfl ⟨rfl, A', c', l', HX.out.1, ?_, HX.out.2.2⟩
    rw [e1.out]; exact HX.out.2.1
  by_cases k2 : x.k = 2
  · have e1 : Hid ((fun m => appF m x) = fun m => renF m x.n x.t) := Lib.hid (by funext m; unfold appF; rw [if_neg k1, if_pos k2])
    rw [k2] at d0 hV ⊢
    clear k1 k2
    go_enter Tryz.func144, Tryz.ntmps144
    go_upto_region 1 with fail
    rw [← hV]
    clear hV
    go_wp2_with fail
    refine y2.out.mono ?_
    rintro _ w1 ⟨rfl, A', c', l', hv, hf, hwt⟩
    have HX := Lib.hid (And.intro (hv.after H.out.2.1) (And.intro hf hwt))
    clear hv hf hwt
    go_wp2_with fail
    refine bodyPost_end (results_none rfl _ _ _) rfl ⟨rfl, A', c', l', HX.out.1, ?_, by have := HX.out.2.2; omega⟩
    rw [e1.out]; exact HX.out.2.1
  by_cases k3 : x.k = 3
  · have e1 : Hid ((fun m => appF m x) = fun m => takeF m x.n) := Lib.hid (by funext m; unfold appF; rw [if_neg k1, if_neg k2, if_pos k3])
    rw [k3] at d0 hV ⊢
    clear k1 k2 k3
    go_enter Tryz.func144, Tryz.ntmps144
    go_upto_region 1 with fail
    rw [← hV]
    clear hV
    go_wp2_with fail
    refine y3.out.mono ?_
    rintro e w1 hT
    obtain ⟨hv, v, rfl⟩ := took_to hT
    have HX := Lib.hid (hv.after H.out.2.1)
    clear hv hT
    go_wp2_with fail
    refine bodyPost_end (results_none rfl _ _ _) rfl ⟨rfl, A, c, _, HX.out, ?_, by have := H.out.2.2; omega⟩
    rw [e1.out]; exact takeV_fl _ _
  · have e1 : Hid ((fun m => appF m x) = fun m => m) := Lib.hid (by funext m; unfold appF; rw [if_neg k1, if_neg k2, if_neg k3])
    have t1 : (x.k == 1) = false := beq_eq_false_iff_ne.2 k1
    have t2 : (x.k == 2) = false := beq_eq_false_iff_ne.2 k2
    have t3 : (x.k == 3) = false := beq_eq_false_iff_ne.2 k3
    have HX := Lib.hid (VisTo.refl H.out.1 H.out.2.1)
    clear k1 k2 k3
    go_enter Tryz.func144, Tryz.ntmps144
    go_upto_region 1 with fail
    rw [← hV]
    clear hV
    go_wp2_with fail
    refine bodyPost_end (results_none rfl _ _ _) rfl ⟨rfl, A, c, l, HX.out, ?_, by omega⟩
    rw [e1.out]
end Go.Proofs.YtllpfngmnccejaaGreat
namespace Go.Proofs.YtllpfngmnccejaaGreat
open Go Go.RowKit

theorem flbox (w : World) (x : Fl) : ∃ W, W = w.alloc (.cells #[.string x.n, .string x.d] 199) ∧ Below w.heap.size w W ∧ W.heap.size = w.heap.size + 1 ∧ Own W w.heap.size 199 x.cells :=
  ⟨_, rfl, (Below.refl _ _).alloc (Nat.le_refl _) _, by simp, Own.made w _ _⟩
def wtF (fs : List Fl) : Nat := (fs.map (fun f => 2 + f.d.size)).sum
def wtW (ws : List Wr) : Nat := (ws.map (fun x => 2 + x.d.size)).sum
theorem wtF_take {fs : List Fl} {k : Nat} {f : Fl} (h : fs[k]? = some f) : wtF (fs.take (k + 1)) = wtF (fs.take k) + 2 + f.d.size := by
  unfold wtF; rw [List.take_add_one, h]; simp; omega
theorem wtW_take {ws : List Wr} {k : Nat} {f : Wr} (h : ws[k]? = some f) : wtW (ws.take (k + 1)) = wtW (ws.take k) + 2 + f.d.size := by
  unfold wtW; rw [List.take_add_one, h]; simp; omega
theorem wtF_le (fs : List Fl) (k : Nat) : wtF (fs.take k) ≤ wtF fs := by
  unfold wtF
  have : fs.map (fun f => 2 + f.d.size) = (fs.take k).map (fun f => 2 + f.d.size) ++ (fs.drop k).map (fun f => 2 + f.d.size) := by rw [← List.map_append, List.take_append_drop]
  rw [this, List.sum_append]; omega
theorem wtW_le (ws : List Wr) (k : Nat) : wtW (ws.take k) ≤ wtW ws := by
  unfold wtW
  have : ws.map (fun f => 2 + f.d.size) = (ws.take k).map (fun f => 2 + f.d.size) ++ (ws.drop k).map (fun f => 2 + f.d.size) := by rw [← List.map_append, List.take_append_drop]
  rw [this, List.sum_append]; omega
theorem len_le_wtF (fs : List Fl) : fs.length ≤ wtF fs := by
  unfold wtF; induction fs with
  | nil => simp
  | cons x l ih => simp; omega
theorem len_le_wtW (fs : List Wr) : fs.length ≤ wtW fs := by
  unfold wtW; induction fs with
  | nil => simp
  | cons x l ih => simp; omega
theorem base_take {fs : List Fl} {k : Nat} {f : Fl} (h : fs[k]? = some f) : baseF (fs.take (k + 1)) = extF (baseF (fs.take k)) f.n f.d := by
  unfold baseF; rw [List.take_add_one, h]; simp
theorem look_take {fs : List Fl} {ws : List Wr} {k : Nat} {x : Wr} (h : ws[k]? = some x) : lookF fs (ws.take (k + 1)) = appF (lookF fs (ws.take k)) x := by
  unfold lookF; rw [List.take_add_one, h]; simp
theorem Vis.lower {w : World} {base b : Nat} {A : Option Addr} {c : Nat} {l : List Vf} (h : Vis w base A c l) (hb : b ≤ base) : Vis w b A c l := by
  have low : ∀ {e : TypeId} {size n : Nat} {v : Value} {xs : List Value}, w.ownsRow base e size v n xs → w.ownsRow b e size v n xs := by
    rintro e size n v xs ⟨h1, h2 | ⟨g, cap, cur, h3, h4, h5⟩⟩
    · exact ⟨h1, .inl h2⟩
    · exact ⟨h1, .inr ⟨g, cap, cur, h3, by omega, h5⟩⟩
  exact ⟨low h.row, fun f hf => low (h.parts f hf), h.apart, h.row_apart⟩
theorem VisTo.below {B : Nat} {w V wr : World} {base G o : Nat} {t : TypeId} {cs : List Value} {A : Option Addr} {c : Nat} {l : List Vf} {F : Nat → Prop} (h : VisTo V wr base G o t cs F A c l) (hb : Below B w V) (hG : B ≤ G) (hF : ∀ k, F k → B ≤ k) (hB : B ≤ V.heap.size) : Below B w wr :=
  hb.trans ⟨h.kept.os, h.kept.tape, h.kept.output, h.kept.size, fun k hk => h.kept.block k (by omega) (fun e => by rcases e with e | e; omega; have := hF k e; omega)⟩
def cs0 : List Value := [.slice none 0 0, .int .i64 0]
/-- nothing is seen yet -/
theorem vis_start (w : World) (base : Nat) (hb : base ≤ w.heap.size) : VisAt (w.alloc (.cells #[.slice none 0 0, .int .i64 0] 151)) base w.heap.size 0 151 cs0 none 0 [] :=
  ⟨Own.made w _ _, rfl, rfl, ⟨World.ownsRow_nil _ _ _ _, fun _ h => (by cases h), List.Pairwise.nil, fun _ h => (by cases h)⟩, (fun h => by rcases h with h | ⟨_, h, _⟩ <;> cases h), List.Pairwise.nil, by decide, by simp; omega⟩
def LookInv (V w : World) (G : Nat) (wr : World) (m : List Fl) (b : Nat) : Prop :=
  ∃ A c l, VisTo V wr (w.heap.size + 2) G 0 151 cs0 (Fp none []) A c l ∧ flV l = m ∧ wtV l ≤ b
def Looked (w w' : World) (e : Ending) (m : List Fl) (b : Nat) : Prop :=
  ∃ A c l, e = .returned (.agg #[.slice A l.length c, .int .i64 (szF (flV l) : Int)]) ∧ Vis w' w.heap.size A c l ∧ flV l = m ∧ SortedN (namesV l) ∧ wtV l ≤ b ∧ Below w.heap.size w w'
theorem inv_below {V w wr : World} {G b : Nat} {m : List Fl} (h : LookInv V w G wr m b) (hV : Below w.heap.size w V) (hG : w.heap.size ≤ G) (hs : V.heap.size = w.heap.size + 2) : Below w.heap.size w wr := by
  obtain ⟨A, c, l, hv, _⟩ := h
  exact hv.below hV hG (fun k e => by rcases e with e | ⟨_, e, _⟩ <;> cases e) (by omega)
theorem inv_next {V w wr V1 w2 : World} {G b' : Nat} {m : List Fl} {g : List Fl → List Fl} {A : Option Addr} {c : Nat} {l : List Vf} (h : VisTo V wr (w.heap.size + 2) G 0 151 cs0 (Fp none []) A c l) (hm : flV l = m) (hb : Below wr.heap.size wr V1)
    (k : Sees V1 w2 (w.heap.size + 2) G 0 151 (setV cs0 0 A c l) A l g b') : LookInv V w G w2 (g m) b' := by
  obtain ⟨A', c', l', hv, hf, hw⟩ := k
  exact ⟨A', c', l', h.trans (hv.after hb) h.fp, by rw [hf, hm], hw⟩
theorem look_start (w : World) : ∃ V, V = (w.alloc (.cells #[.slice none 0 0, .int .i64 0] 151)).alloc (.cells #[.slice none 0 0, .int .i64 0] 151) ∧ Below w.heap.size w V ∧ V.heap.size = w.heap.size + 2 ∧
    LookInv V w (w.heap.size + 1) V [] 0 ∧ Own V w.heap.size 151 cs0 := by
  refine ⟨_, rfl, ((Below.refl _ _).alloc (Nat.le_refl _) _).alloc (by simp) _, by simp, ⟨none, 0, [], ?_, rfl, by decide⟩, (Own.made w _ _).more _⟩
  have h := vis_start (w.alloc (.cells #[.slice none 0 0, .int .i64 0] 151)) (w.heap.size + 1) (by simp)
  have hs : (w.alloc (.cells #[.slice none 0 0, .int .i64 0] 151)).heap.size = w.heap.size + 1 := by simp
  rw [hs] at h
  have h2 : VisAt ((w.alloc (.cells #[.slice none 0 0, .int .i64 0] 151)).alloc (.cells #[.slice none 0 0, .int .i64 0] 151)) (w.heap.size + 2) (w.heap.size + 1) 0 151 cs0 none 0 [] :=
    ⟨h.own, h.c0, h.c1, ⟨World.ownsRow_nil _ _ _ _, fun _ h => (by cases h), List.Pairwise.nil, fun _ h => (by cases h)⟩, h.out, h.sorted, h.wt, by simp⟩
  exact VisTo.refl h2 (Below.refl _ _)
set_option maxRecDepth 100000 in
set_option maxHeartbeats 1600000 in
theorem look_any (A B : Option Addr) (ca cb : Nat) (fs : List Fl) (ws : List Wr) (w : World) (hf : Lies 2 Fl.cells w w.heap.size A fs) (hws : Lies 4 Wr.cells w w.heap.size B ws) (hb : wtF fs + wtW ws ≤ 1099511627776) :
    Calls Tryz.prog 139 #[.slice A fs.length ca, .slice B ws.length cb] w fun e w' => Looked w w' e (lookF fs ws) (wtF fs + wtW ws) := by
  obtain ⟨V, hV, hVb, hVs, hI, oR⟩ := look_start w
  have H := Lib.hid (And.intro hf (And.intro hws (And.intro hb (And.intro hVb (And.intro hVs oR)))))
  have HI := Lib.hid hI
  have hl1 : fs.length ≤ 1099511627776 := by have := len_le_wtF fs; omega
  have hl2 : ws.length ≤ 1099511627776 := by have := len_le_wtW ws; omega
  clear hf hws hb hVb hVs hI oR
  go_enter Tryz.func139, Tryz.ntmps139
  go_upto_region 2 with fail
  rw [← hV]
  clear hV
  go_wp2_with fail
  go_loopw [13] (fun i wr => ∃ k : Nat, i = .int .i64 (k : Int) ∧ k ≤ fs.length ∧ LookInv V w (w.heap.size + 1) wr (baseF (fs.take k)) (wtF (fs.take k))) (fun i _ => fs.length - (intOf i).toNat)
  case atStart => exact ⟨0, rfl, by omega, HI.out⟩
  case round =>
    obtain ⟨k, rfl, hk, hinv⟩ := hrel
    by_cases hlt : k < fs.length
    · have hx : fs[k]? = some fs[k] := List.getElem?_eq_getElem hlt
      obtain ⟨b, o, rfl, hB, hxs⟩ := H.out.1 (by omega)
      have hbw := inv_below hinv H.out.2.2.2.1 (by omega) H.out.2.2.2.2.1
      have x0 := (hbw.cell (p := ⟨b, o + k * 2 + 0, none⟩) hB).trans (hxs k _ hx 0 _ rfl)
      have x1 := (hbw.cell (p := ⟨b, o + k * 2 + 1, none⟩) hB).trans (hxs k _ hx 1 _ rfl)
      have hbt := base_take hx
      have hwk := wtF_take hx
      have hle := wtF_le fs (k + 1)
      generalize fs[k] = f at *
      obtain ⟨W, hW, bW, sW, oW⟩ := flbox wr f
      obtain ⟨A', c', l', hv, hfl, hwl⟩ := hinv
      have d0 := oW.at_ 0
      have d1 := oW.at_ 1
      simp only [Fl.cells, List.getElem?_cons_zero, List.getElem?_cons_succ, Nat.add_zero] at d0 d1 x0 x1
      have y := Lib.hid (extend_any _ _ 0 _ _ A' c' l' f.n f.d W (hv.at_.below bW) (by have := H.out.2.2.1; omega))
      have HX := Lib.hid (And.intro hv (And.intro hfl (And.intro bW (And.intro hbt (And.intro hwk hwl)))))
      clear hv hfl hwl bW sW oW hbt hwk hle hx hxs hbw HI
      go_upto_region 5 with fail
      rw [← hW]
      clear hW
      go_wp2_with fail
      refine y.out.mono ?_
      rintro _ w2 ⟨rfl, hs⟩
      have hs2 := inv_next (g := fun m => extF m f.n f.d) (b' := wtV l' + 2 + f.d.size) HX.out.1 HX.out.2.1 HX.out.2.2.1 hs
      have HS := Lib.hid hs2
      clear hs hs2 y x0 x1 d0 d1
      go_wp2_with fail
      go_roundw
      case rel =>
        refine ⟨k + 1, by go_num, by omega, ?_⟩
        rw [HX.out.2.2.2.1]
        obtain ⟨a1, a2, a3, a4, a5, a6⟩ := HS.out
        exact ⟨a1, a2, a3, a4, a5, by have := HX.out.2.2.2.2; omega⟩
      case measure => simp [intOf]; omega
    · have hk2 : k = fs.length := by omega
      subst hk2
      rw [List.take_length] at hinv
      have HJ := Lib.hid hinv
      clear hinv HI
      go_wp2_with fail
      go_loopw [25] (fun i wr => ∃ k : Nat, i = .int .i64 (k : Int) ∧ k ≤ ws.length ∧ LookInv V w (w.heap.size + 1) wr (lookF fs (ws.take k)) (wtF fs + wtW (ws.take k))) (fun i _ => ws.length - (intOf i).toNat)
      case atStart => exact ⟨0, rfl, by omega, by
        obtain ⟨a1, a2, a3, a4, a5, a6⟩ := HJ.out
        exact ⟨a1, a2, a3, a4, a5, by omega⟩⟩
      case round =>
        obtain ⟨k, rfl, hk, hinv⟩ := hrel
        by_cases hlt : k < ws.length
        · have hx : ws[k]? = some ws[k] := List.getElem?_eq_getElem hlt
          obtain ⟨b, o, rfl, hB, hxs⟩ := H.out.2.1 (by omega)
          have hbw := inv_below hinv H.out.2.2.2.1 (by omega) H.out.2.2.2.2.1
          have x0 := (hbw.cell (p := ⟨b, o + k * 4 + 0, none⟩) hB).trans (hxs k _ hx 0 _ rfl)
          have x1 := (hbw.cell (p := ⟨b, o + k * 4 + 1, none⟩) hB).trans (hxs k _ hx 1 _ rfl)
          have x2 := (hbw.cell (p := ⟨b, o + k * 4 + 2, none⟩) hB).trans (hxs k _ hx 2 _ rfl)
          have x3 := (hbw.cell (p := ⟨b, o + k * 4 + 3, none⟩) hB).trans (hxs k _ hx 3 _ rfl)
          have hbt := look_take (fs := fs) hx
          have hwk := wtW_take hx
          have hle := wtW_le ws (k + 1)
          generalize ws[k] = f at *
          obtain ⟨W, hW, bW, sW, oW⟩ := wrbox wr f
          obtain ⟨A', c', l', hv, hfl, hwl⟩ := hinv
          have d0 := oW.at_ 0
          have d1 := oW.at_ 1
          have d2 := oW.at_ 2
          have d3 := oW.at_ 3
          simp only [Wr.cells, List.getElem?_cons_zero, List.getElem?_cons_succ, Nat.add_zero] at d0 d1 d2 d3 x0 x1 x2 x3
          have y := Lib.hid (apply_any _ _ 0 _ _ A' c' l' f W (hv.at_.below bW) (by have := H.out.2.2.1; omega))
          unfold Wr.val at y
          have HX := Lib.hid (And.intro hv (And.intro hfl (And.intro bW (And.intro hbt (And.intro hwk hwl)))))
          clear hv hfl hwl bW sW oW hbt hwk hle hx hxs hbw HJ
          go_upto_region 10 with fail
          rw [← hW]
          clear hW
          go_wp2_with fail
          refine y.out.mono ?_
          rintro _ w2 ⟨rfl, hs⟩
          have hs2 := inv_next (g := fun m => appF m f) (b' := wtV l' + 2 + f.d.size) HX.out.1 HX.out.2.1 HX.out.2.2.1 hs
          have HS := Lib.hid hs2
          clear hs hs2 y x0 x1 x2 x3 d0 d1 d2 d3
          go_wp2_with fail
          go_roundw
          case rel =>
            refine ⟨k + 1, by go_num, by omega, ?_⟩
            rw [HX.out.2.2.2.1]
            obtain ⟨a1, a2, a3, a4, a5, a6⟩ := HS.out
            exact ⟨a1, a2, a3, a4, a5, by have := HX.out.2.2.2.2; omega⟩
          case measure => simp [intOf]; omega
        · have hk3 : k = ws.length := by omega
          subst hk3
          rw [List.take_length] at hinv
          have hbw := inv_below hinv H.out.2.2.2.1 (by omega) H.out.2.2.2.2.1
          obtain ⟨A', c', l', hv, hfl, hwl⟩ := hinv
          have x0 : wr.cell? ⟨w.heap.size + 1, 0, none⟩ = some (.slice A' l'.length c') := by rw [hv.at_.own.at_]; exact hv.at_.c0
          have x1 : wr.cell? ⟨w.heap.size + 1, 1, none⟩ = some (.int .i64 (szF (flV l') : Int)) := by rw [hv.at_.own.at_]; exact hv.at_.c1
          have hR := hv.kept.own H.out.2.2.2.2.2 (fun e => by rcases e with e | e | ⟨_, e, _⟩; omega; cases e; cases e)
          have r0 := hR.at_ 0
          have r1 := hR.at_ 1
          have f0 := hR.open_ 0
          have f1 := hR.open_ 1
          have oE := ((hR.set_ 0 (.slice A' l'.length c')).set_ 1 (.int .i64 (szF (flV l') : Int)))
          have e0 := oE.at_ 0
          have e1 := oE.at_ 1
          simp only [cs0, List.getElem?_cons_zero, List.getElem?_cons_succ, List.set_cons_zero, List.set_cons_succ] at r0 r1 e0 e1
          have kR : KeptK wr ((wr.setCell ⟨w.heap.size, 0, none⟩ (.slice A' l'.length c')).setCell ⟨w.heap.size, 1, none⟩ (.int .i64 (szF (flV l') : Int))) (fun k => k = w.heap.size) :=
            ((KeptK.refl wr (fun k => k = w.heap.size)).set_ (.inl rfl) _).set_ (.inl rfl) _
          have HX := Lib.hid (And.intro ((hv.at_.vis.kept kR (fun k e he => by have := (hv.at_.vis.lt k e).1; omega)).lower (b := w.heap.size) (by omega)) (And.intro hfl (And.intro hv.at_.sorted (And.intro hwl ((hbw.setCell (p := ⟨w.heap.size, 0, none⟩) (Nat.le_refl _) (.slice A' l'.length c')).setCell (p := ⟨w.heap.size, 1, none⟩) (Nat.le_refl _) (.int .i64 (szF (flV l') : Int)))))))
          clear hv hfl hwl hbw hR oE kR HJ
          go_wp2_with fail
          exact bodyPost_ret (v := .agg #[.slice A' l'.length c', .int .i64 (szF (flV l') : Int)]) (by simp [results, Tryz.results139, go_sem, e0, e1]) rfl ⟨A', c', l', rfl, HX.out.1, HX.out.2.1, HX.out.2.2.1, HX.out.2.2.2.1, HX.out.2.2.2.2⟩
end Go.Proofs.YtllpfngmnccejaaGreat
namespace Go.Proofs.YtllpfngmnccejaaGreat
open Go Go.RowKit

theorem infoFl : (Tryz.prog.info? 199).map (fun i => (i.zero, i.size, i.bytes)) = some (some (.agg #[.string ⟨#[]⟩, .string ⟨#[]⟩]), 2, 32) := by kernel_rfl
theorem fl_made (w : World) (x : Fl) : Lies 2 Fl.cells (w.alloc (.cells #[.string x.n, .string x.d] 199)) (w.heap.size + 1) (some ⟨w.heap.size, 0, none⟩) [x] := fun _ => by
  refine ⟨w.heap.size, 0, rfl, by omega, fun i y hy j u hu => ?_⟩
  match i, hy with
  | 0, hy =>
    obtain rfl : x = y := by simpa using hy
    have := (Own.made w 199 x.cells).at_ j
    rw [show 0 + 0 * 2 + j = j by omega]
    exact this.trans hu
set_option maxRecDepth 100000 in
set_option maxHeartbeats 1600000 in
theorem read_any (base G o : Nat) (t : TypeId) (cs : List Value) (A : Option Addr) (c : Nat) (l : List Vf) (n : ByteArray) (w : World) (h : VisAt w base G o t cs A c l) :
    Calls Tryz.prog 95 #[.pointer (some ⟨G, o, none⟩), .string n] w fun e w' => e = .returned (.tuple #[.string (readF (flV l) n).1, .int .i64 (readF (flV l) n).2]) ∧ Below w.heap.size w w' := by
  have hlw := len_le_wt l
  have hwl := h.wt
  have y1 := Lib.hid (find_any G o base t cs A c l n w h.own h.c0 h.vis.row h.sorted (by omega))
  have H := Lib.hid h
  cases hh : hasN (namesV l) n
  · have hg : getF (flV l) n = none := get_none.2 (by rw [has_fl]; exact hh)
    have HG := Lib.hid (by unfold readF; rw [hg] : readF (flV l) n = (⟨#[]⟩, 5))
    rw [HG.out]
    dsimp only
    rw [hh] at y1
    clear h hlw hwl hh hg
    go_enter Tryz.func95, Tryz.ntmps95
    go_wp2_with fail
    refine y1.out.mono ?_
    rintro _ w1 ⟨rfl, b1⟩
    go_wp2_with fail
    go_ret2
    exact ⟨rfl, b1⟩
  · have hat := posN_has h.sorted hh
    obtain ⟨f, hf⟩ : ∃ f, l[posN (namesV l) n]? = some f := by
      unfold namesV at hat ⊢
      rw [List.getElem?_map] at hat
      cases hx : l[posN (l.map Vf.n) n]? with
      | none => rw [hx] at hat; cases hat
      | some f => exact ⟨f, rfl⟩
    have hs := sorted_fl.2 h.sorted
    have hg : getF (flV l) n = some (catB f.ps) := by
      rw [get_old hs (by rw [has_fl]; exact hh)]
      have hp : posF (flV l) n = posN (namesV l) n := by unfold posF; rw [names_fl]
      unfold oldF
      rw [hp]
      unfold flV
      rw [List.getElem?_map, hf]; rfl
    have HG := Lib.hid (by unfold readF; rw [hg] : readF (flV l) n = (catB f.ps, 0))
    rw [HG.out]
    dsimp only
    rw [hh] at y1
    have hlt := (List.getElem?_eq_some_iff.1 hf).1
    obtain ⟨p, hp⟩ : ∃ p, p = posN (namesV l) n := ⟨_, rfl⟩
    rw [← hp] at y1 hf hlt
    have hpw := parts_le_wt (List.mem_of_getElem? hf)
    have hsw := size_le_wt (List.mem_of_getElem? hf)
    have y := fun W' (hp : Parts W' base f) => Lib.hid (data_any base f W' hp (by omega) (by unfold wtV at hwl; omega))
    have HF := Lib.hid hf
    unfold Vf.val at y
    clear h hlw hwl hh hg hat hs hp hpw hsw hf
    go_enter Tryz.func95, Tryz.ntmps95
    go_wp2_with fail
    refine y1.out.mono ?_
    rintro _ w1 ⟨rfl, b1⟩
    have VW := H.out.below b1
    obtain ⟨g, rfl, x0, x1, hg⟩ := vf_at VW.vis.row HF.out
    have a0 : w1.cell? ⟨G, o, none⟩ = some (.slice (some ⟨g, 0, none⟩) l.length c) := by rw [VW.own.at_]; exact VW.c0
    have HP := Lib.hid (And.intro (VW.vis.parts _ (List.mem_of_getElem? HF.out)) b1)
    clear VW b1 y1
    go_wp2_with fail
    refine (y _ HP.out.1).out.mono ?_
    rintro _ w2 ⟨rfl, b2⟩
    go_wp2_with fail
    go_ret2
    exact ⟨rfl, HP.out.2.trans (b2.mono HP.out.2.size)⟩
end Go.Proofs.YtllpfngmnccejaaGreat
