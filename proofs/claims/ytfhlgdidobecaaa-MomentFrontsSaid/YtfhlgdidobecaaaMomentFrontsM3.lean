/- Part 3 of the texts on which MomentFronts rests: facts and contracts. -/
import Derived.Test.YtfhlgdidobecaaaMomentFrontsM2
import Derived.Deep.Onto
namespace Go.Proofs.Ytfhlgdidobecaaa
open Go Go.RowKit

/-- the operations of the region: T the slice's type, 'so' its slot, 'sa' the place's, op5 what makes the new one -/
abbrev insOps (T TI T5 : TypeId) (d0 d1 d2 d3 d4 d5 d6 d7 d8 d9 d10 d11 so sa : Tmp) (op5 : Op) (p0 p1 p2 p3 p4 p5 p6 p7 p8 p9 p10 p11 p12 : String) : List Oper :=
  [{ dst := some d0, op := .buildSlice T 0 #[], type := T, pos := p0, after := #[], guard := none },
   { dst := some d1, op := .move (.tmp so), type := T, pos := p1, after := #[], guard := none },
   { dst := some d2, op := .move (.tmp sa), type := TI, pos := p2, after := #[], guard := none },
   { dst := some d3, op := .slice T (.tmp d1) none (some (.tmp d2)) none, type := T, pos := p3, after := #[{ on := 1, ground := .data }, { on := 2, ground := .data }], guard := none },
   { dst := some d4, op := .call { callee := .builtin .append, args := #[.tmp d0, .tmp d3], argTypes := #[T, T] }, type := T, pos := p4, after := #[{ on := 0, ground := .data }, { on := 3, ground := .data }], guard := none },
   { dst := some d5, op := op5, type := T5, pos := p5, after := #[], guard := none },
   { dst := some d6, op := .buildSlice T 1 #[(0, .tmp d5)], type := T, pos := p6, after := #[{ on := 5, ground := .data }], guard := none },
   { dst := some d7, op := .call { callee := .builtin .append, args := #[.tmp d4, .tmp d6], argTypes := #[T, T] }, type := T, pos := p7, after := #[{ on := 4, ground := .data }, { on := 6, ground := .data }, { on := 4, ground := .chain }], guard := none },
   { dst := some d8, op := .move (.tmp so), type := T, pos := p8, after := #[], guard := none },
   { dst := some d9, op := .move (.tmp sa), type := TI, pos := p9, after := #[], guard := none },
   { dst := some d10, op := .slice T (.tmp d8) (some (.tmp d9)) none none, type := T, pos := p10, after := #[{ on := 8, ground := .data }, { on := 9, ground := .data }], guard := none },
   { dst := some d11, op := .call { callee := .builtin .append, args := #[.tmp d7, .tmp d10], argTypes := #[T, T] }, type := T, pos := p11, after := #[{ on := 7, ground := .data }, { on := 10, ground := .data }, { on := 7, ground := .chain }], guard := none },
   { dst := some so, op := .assign (.tmp d11), type := T, pos := p12, after := #[{ on := 11, ground := .data }, { on := 11, ground := .chain }, { on := 0, ground := .phase }, { on := 1, ground := .phase }, { on := 2, ground := .phase }, { on := 3, ground := .phase }, { on := 4, ground := .phase }, { on := 5, ground := .phase }, { on := 6, ground := .phase }, { on := 7, ground := .phase }, { on := 8, ground := .phase }, { on := 9, ground := .phase }, { on := 10, ground := .phase }, { on := 11, ground := .phase }], guard := none }]
section
variable {P : Program} {α : Type} {size : Nat} {cells : α → List Value}
/-- what holds while they come up -/
structure InsG (V : World) (e : TypeId) (size : Nat) (cells : α → List Value) (l : List α) (x : α) (i : Nat) (O I S1 S2 X : Value) (x0 x1 x2 x3 x4 x5 x6 x7 x8 x9 x10 x11 x12 : Option Value) (w : World) : Prop where
  below : Below V.heap.size V w
  m1 : ∀ v, x1 = some v → v = O
  m2 : ∀ v, x2 = some v → v = I
  s3 : ∀ v, x3 = some v → v = S1
  k5 : ∀ v, x5 = some v → v = X
  m8 : ∀ v, x8 = some v → v = O
  m9 : ∀ v, x9 = some v → v = I
  s10 : ∀ v, x10 = some v → v = S2
  r0 : ∀ v, x0 = some v → x4 = none → w.ownsRow V.heap.size e size v 0 []
  r4 : ∀ v, x4 = some v → x7 = none → w.ownsRow V.heap.size e size v i ((l.take i).flatMap cells)
  b6 : ∀ v, x6 = some v → x7 = none → ∃ g, v = .slice (some ⟨g, 0, none⟩) 1 1 ∧ Own w g e (cells x) ∧ ∀ v0, x0 = some v0 → x4 = none → v0.ownBlock ≠ some g
  r7 : ∀ v, x7 = some v → x11 = none → w.ownsRow V.heap.size e size v (i + 1) ((l.take i ++ [x]).flatMap cells)
  r11 : ∀ v, x11 = some v → w.ownsRow V.heap.size e size v (l.length + 1) ((l.take i ++ x :: l.drop i).flatMap cells)
  a12 : ∀ v, x12 = some v → x11 = some v
theorem step_value {P : Program} {Q : Exit → Act → World → Prop} {ops : Array Oper} {o : Oper} {a : Act} {K : Act → World → Prop} {w w' : World} {v : Value} {E : Prop} (hg : o.guard = none) (hr : (execOp a.eval o).run P w = .ok (.value v) w') (h : K (a.put o.dst v) w') :
    if Region.wanted o (yielded ops a.tmps) = true then Oper.wp P o a w K Q else E := by
  have hw : Region.wanted o (yielded ops a.tmps) = true := by simp [Region.wanted, hg]
  rw [if_pos hw]
  unfold Oper.wp
  rw [hr]
  exact h
theorem nodup_at {β : Type} {l : List β} (h : l.Nodup) {i j : Nat} {x : β} (hi : l[i]? = some x) (hj : l[j]? = some x) : i = j := by
  obtain ⟨h1, e1⟩ := List.getElem?_eq_some_iff.1 hi
  obtain ⟨h2, e2⟩ := List.getElem?_eq_some_iff.1 hj
  exact (List.getElem_inj h).1 (e1.trans e2.symm)
theorem slots_mem {l : List Oper} {vals : List (Option Value)} {t : Tmp} {v : Value} (h : (some t, some v) ∈ slotsR l vals) : ∃ j : Nat, (l.map Oper.dst)[j]? = some (some t) ∧ vals[j]? = some (some v) := by
  obtain ⟨j, hj⟩ := List.mem_iff_getElem?.1 h
  unfold slotsR at hj
  rw [List.getElem?_zip_eq_some] at hj
  exact ⟨j, hj.1, hj.2⟩
theorem step_app {Q : Exit → Act → World → Prop} (w : World) {ops : Array Oper} {o : Oper} {a : Act} {K : Act → World → Prop} {E : Prop} (hgd : o.guard = none) (s x : Operand) (t e : TypeId)
    (ho : o.op = .call { callee := .builtin .append, args := #[s, x], argTypes := #[t, t] })
    (i0 : TypeInfo) (z : Value) (bytes : Nat) (ht : P.underlying t = some (.slice e)) (hi : P.info? e = some i0) (hz0 : i0.zero = some z) (hz1 : i0.size = size) (hz2 : i0.bytes = bytes) (hzs : z.cells.size = size) (hpos : 0 < size) (hcl : ∀ x, (cells x).length = size) (hone : ∀ x, ∀ u ∈ cells x, u.oneCell' = true)
    (base : Nat) (v : Value) (n : Nat) (xs : List Value) (hs : a.eval s = v) (hown : w.ownsRow base e size v n xs)
    (B : Nat) (A : Option Addr) (c : Nat) (l : List α) (k : Nat) (hk : l.length = k) (hx : a.eval x = .slice A k c) (hl : Lies size cells w B A l) (h63 : n + k ≤ maxLen) (hn : (n + k) * bytes ≤ 140737488355328) (hbase : base ≤ w.heap.size)
    (h : ∀ v' w', w'.ownsRow base e size v' (n + k) (xs ++ l.flatMap cells) → Below base w w' → w.grownBy w' v.ownBlock → K (a.put o.dst v') w') :
    if Region.wanted o (yielded ops a.tmps) = true then Oper.wp P o a w K Q else E := by
  subst hk
  obtain ⟨v', w', hrun, ho', hb, hg⟩ : ∃ v' w', (Builtin.append_ #[t, t] o.type #[v, .slice A l.length c]).run P w = .ok v' w' ∧ w'.ownsRow base e size v' (n + l.length) (xs ++ l.flatMap cells) ∧ Below base w w' ∧ w.grownBy w' v.ownBlock := by
    cases A with
    | none =>
      have h0 : l = [] := by
        cases l with
        | nil => rfl
        | cons x l => obtain ⟨_, _, e, _⟩ := hl (by simp); cases e
      subst h0
      exact ⟨v, w, run_append_none w base _ _ _ i0 size ht hi v n xs hown c, by simpa using hown, Below.refl _ _, ⟨rfl, rfl, rfl, Nat.le_refl _, fun _ _ _ => rfl⟩⟩
    | some ad =>
      have hnews : ∀ j u, (l.flatMap cells)[j]? = some u → w.cell? (ad.add j) = some u := by
        intro j u hu
        obtain ⟨i, r, y, rfl, hi, hr⟩ := flat_back hpos hcl l j u hu
        have hp : 0 < l.length := by have := (List.getElem?_eq_some_iff.1 hi).1; omega
        obtain ⟨b, o, e, _, hc⟩ := hl hp
        obtain rfl : ad = ⟨b, o, none⟩ := by injection e
        have ea : (⟨b, o, none⟩ : Addr).add (i * size + r) = ⟨b, o + i * size + r, none⟩ := by unfold Addr.add; split <;> simp_all <;> omega
        rw [ea]
        exact hc i y hi r u hr
      obtain ⟨v', w', hr, h2, h3, _, _⟩ := run_append_own_at (P := P) w base t o.type e i0 _ size bytes ht hi hz0 hz1 hz2 hzs hpos v n xs hown ad l.length c (l.flatMap cells) (flat_size hcl l) hnews
        (fun u hu => by obtain ⟨y, _, hy⟩ := List.mem_flatMap.1 hu; exact hone y u hy) h63 hn hbase
      exact ⟨v', w', hr, h2, (Below.refl base w).grown h3 hbase (fun k hk => (hown.lt k hk).1), h3⟩
  refine step_value (v := v') (w' := w') hgd ?_ (h v' w' ho' hb hg)
  unfold execOp
  simp only [ho, resolve, invoke, builtin, Sem.run_bind, Sem.run_pure, Result.andThen_ok, List.map_toArray, List.map_cons, List.map_nil, hs, hx, hrun]
set_option maxRecDepth 100000 in
set_option maxHeartbeats 3200000 in
/-- **the three appends**, in whatever order: the new row lies in memory of its own -/
theorem wp_ins {id : Nat} {Q : Exit → Act → World → Prop} {a : Act} {V : World} (hm : P.follows .mixedOrders = true) {T TI T5 e : TypeId} {d0 d1 d2 d3 d4 d5 d6 d7 d8 d9 d10 d11 so sa : Tmp} {op5 : Op} {p0 p1 p2 p3 p4 p5 p6 p7 p8 p9 p10 p11 p12 : String}
    (hd : [d0, d1, d2, d3, d4, d5, d6, d7, d8, d9, d10, d11, so].Nodup) (hda : sa ∉ [d0, d1, d2, d3, d4, d5, d6, d7, d8, d9, d10, d11, so]) (nt : Nat) (hnt : a.tmps.size = nt) (hsz : ∀ d ∈ [d0, d1, d2, d3, d4, d5, d6, d7, d8, d9, d10, d11, so], d < nt)
    (i0 : TypeInfo) (z : Value) (bytes : Nat) (ht : P.underlying T = some (.slice e)) (hi : P.info? e = some i0) (hz0 : i0.zero = some z) (hz1 : i0.size = size) (hz2 : i0.bytes = bytes) (hzs : z.cells.size = size) (hpos : 0 < size) (hcl : ∀ x, (cells x).length = size) (hone : ∀ x, ∀ u ∈ cells x, u.oneCell' = true)
    (l : List α) (x : α) (i : Nat) (A : Option Addr) (c n : Nat) (hln : l.length = n) (hil : i ≤ n) (hnc : n ≤ c) (hbig : n + 1 ≤ maxLen) (hby : (n + 1) * bytes ≤ 140737488355328)
    (ho : a.eval (.tmp so) = .slice A n c) (hat : a.eval (.tmp sa) = .int .i64 (i : Int)) (hl : Lies size cells V V.heap.size A l)
    (X : Value) (h5 : ∀ (a' : Act) (w' : World) (t5 : TypeId), (∀ t, t ∉ [d0, d1, d2, d3, d4, d5, d6, d7, d8, d9, d10, d11, so] → a'.eval (.tmp t) = a.eval (.tmp t)) → Below V.heap.size V w' → (execOp a'.eval { dst := some d5, op := op5, type := T5, pos := p5, after := #[], guard := none }).run P w' = .ok (.value X) w')
    (hb0 : ∀ w' : World, (Instr.buildSlice T 0 #[]).run P w' = .ok (.slice (some ⟨w'.heap.size, 0, none⟩) 0 0) (w'.alloc (.cells #[] e)))
    (hb1 : ∀ w' : World, (Instr.buildSlice T 1 #[(0, X)]).run P w' = .ok (.slice (some ⟨w'.heap.size, 0, none⟩) 1 1) (w'.alloc (.cells (cells x).toArray e)))
    (hend : ∀ (v0 v1 v2 v3 v4 v5 v6 v7 v8 v9 v10 v11 : Value) (w' : World), Below V.heap.size V w' → w'.ownsRow V.heap.size e size v11 (n + 1) ((l.take i ++ x :: l.drop i).flatMap cells) →
      Q .normal (((((((((((((a.put (some d0) v0).put (some d1) v1).put (some d2) v2).put (some d3) v3).put (some d4) v4).put (some d5) v5).put (some d6) v6).put (some d7) v7).put (some d8) v8).put (some d9) v9).put (some d10) v10).put (some d11) v11).put (some so) v11) w') :
    (Code.region id (insOps T TI T5 d0 d1 d2 d3 d4 d5 d6 d7 d8 d9 d10 d11 so sa op5 p0 p1 p2 p3 p4 p5 p6 p7 p8 p9 p10 p11 p12).toArray true).wp P Q a V := by
  subst hln hnt
  have hdst : (insOps T TI T5 d0 d1 d2 d3 d4 d5 d6 d7 d8 d9 d10 d11 so sa op5 p0 p1 p2 p3 p4 p5 p6 p7 p8 p9 p10 p11 p12).map Oper.dst = [d0, d1, d2, d3, d4, d5, d6, d7, d8, d9, d10, d11, so].map some := rfl
  have hdn : ((insOps T TI T5 d0 d1 d2 d3 d4 d5 d6 d7 d8 d9 d10 d11 so sa op5 p0 p1 p2 p3 p4 p5 p6 p7 p8 p9 p10 p11 p12).map Oper.dst).Nodup := by
    rw [hdst]
    exact List.Pairwise.map some (fun a b h e => h (Option.some.inj e)) hd
  obtain ⟨L, hL⟩ : ∃ L, insOps T TI T5 d0 d1 d2 d3 d4 d5 d6 d7 d8 d9 d10 d11 so sa op5 p0 p1 p2 p3 p4 p5 p6 p7 p8 p9 p10 p11 p12 = L := ⟨_, rfl⟩
  obtain ⟨S1, hS1⟩ : ∃ S1, sliced A 0 i c size = S1 := ⟨_, rfl⟩
  obtain ⟨S2, hS2⟩ : ∃ S2, sliced A i l.length c size = S2 := ⟨_, rfl⟩
  have hL1 : ∃ A1, S1 = .slice A1 i c ∧ Lies size cells V V.heap.size A1 (l.take i) := by
    refine ⟨_, hS1.symm, fun hp => ?_⟩
    rw [List.length_take] at hp
    obtain ⟨b, o, rfl, hB, hc⟩ := hl (by omega)
    refine ⟨b, o, ?_, hB, fun k y hk => hc k y ?_⟩
    · rw [if_neg (by omega)]
      simp [Addr.add]
    · rw [List.getElem?_take] at hk
      split at hk
      · exact hk
      · cases hk
  have hL2 : ∃ A2, S2 = .slice A2 (l.length - i) (c - i) ∧ Lies size cells V V.heap.size A2 (l.drop i) := by
    refine ⟨_, hS2.symm, fun hp => ?_⟩
    rw [List.length_drop] at hp
    obtain ⟨b, o, rfl, hB, hc⟩ := hl (by omega)
    refine ⟨b, o + i * size, ?_, hB, fun k y hk j u hu => ?_⟩
    · rw [if_neg (by omega)]
      unfold Addr.add
      simp only [Option.map_some, Option.some.injEq]
      split <;> simp_all
    · rw [List.getElem?_drop] at hk
      have := hc (i + k) y hk j u hu
      rw [Nat.add_mul] at this
      rw [← this]
      congr 2
      omega
  have hte : P.underlying T = some (.slice (P.elem T)) := by rw [ht]; simp [Program.elem, ht]
  have hel : P.elem T = e := by simp [Program.elem, ht]
  have hsof : ∀ w' : World, (sizeOf (P.elem T)).run P w' = .ok size w' := fun w' => by rw [hel]; simp [sizeOf, typeInfo, hi, hz1]
  refine wp_region_steps hm (by kernel_rfl) (by rw [show List.filterMap _root_.id ((insOps T TI T5 d0 d1 d2 d3 d4 d5 d6 d7 d8 d9 d10 d11 so sa op5 p0 p1 p2 p3 p4 p5 p6 p7 p8 p9 p10 p11 p12).map Oper.dst) = [d0, d1, d2, d3, d4, d5, d6, d7, d8, d9, d10, d11, so] from rfl]; exact hd)
    (fun vals w' => ∃ x0 x1 x2 x3 x4 x5 x6 x7 x8 x9 x10 x11 x12 : Option Value, vals = [x0, x1, x2, x3, x4, x5, x6, x7, x8, x9, x10, x11, x12] ∧ InsG V e size cells l x i (.slice A l.length c) (.int .i64 (i : Int)) S1 S2 X x0 x1 x2 x3 x4 x5 x6 x7 x8 x9 x10 x11 x12 w') ?h0 ?hs ?he
  case h0 => exact ⟨none, none, none, none, none, none, none, none, none, none, none, none, none, rfl, ⟨(Below.refl _ _).drew, (fun _ hv => by cases hv), (fun _ hv => by cases hv), (fun _ hv => by cases hv), (fun _ hv => by cases hv), (fun _ hv => by cases hv), (fun _ hv => by cases hv), (fun _ hv => by cases hv), (fun _ hv _ => by cases hv), (fun _ hv _ => by cases hv), (fun _ hv _ => by cases hv), (fun _ hv _ => by cases hv), (fun _ hv => by cases hv), (fun _ hv => by cases hv)⟩⟩
  case he =>
    rintro vs w' hvs ⟨x0, x1, x2, x3, x4, x5, x6, x7, x8, x9, x10, x11, x12, hx, h⟩
    match vs, hvs, hx with
    | [v0, v1, v2, v3, v4, v5, v6, v7, v8, v9, v10, v11, v12], _, hx =>
      simp only [List.map_cons, List.map_nil, List.cons.injEq, and_true] at hx
      obtain ⟨rfl, rfl, rfl, rfl, rfl, rfl, rfl, rfl, rfl, rfl, rfl, rfl, rfl⟩ := hx
      obtain rfl : v11 = v12 := Option.some.inj (h.a12 _ rfl)
      exact hend v0 v1 v2 v3 v4 v5 v6 v7 v8 v9 v10 v11 w' h.below (h.r11 _ rfl)
  case hs =>
    rintro j o vals w' hoj hc hn hdep ⟨x0, x1, x2, x3, x4, x5, x6, x7, x8, x9, x10, x11, x12, rfl, h⟩ K hK
    have hE : ∀ (k : Nat) (t : Tmp) (v : Value), ([d0, d1, d2, d3, d4, d5, d6, d7, d8, d9, d10, d11, so])[k]? = some t → ([x0, x1, x2, x3, x4, x5, x6, x7, x8, x9, x10, x11, x12])[k]? = some (some v) → (putsR (slotsR (insOps T TI T5 d0 d1 d2 d3 d4 d5 d6 d7 d8 d9 d10 d11 so sa op5 p0 p1 p2 p3 p4 p5 p6 p7 p8 p9 p10 p11 p12) [x0, x1, x2, x3, x4, x5, x6, x7, x8, x9, x10, x11, x12]) a).eval (.tmp t) = v := fun k t v hk hv => by
      refine putsR_hit _ a k t v (by rw [slotsR_fst rfl]; exact apartR_of (by rw [show List.filterMap _root_.id ((insOps T TI T5 d0 d1 d2 d3 d4 d5 d6 d7 d8 d9 d10 d11 so sa op5 p0 p1 p2 p3 p4 p5 p6 p7 p8 p9 p10 p11 p12).map Oper.dst) = [d0, d1, d2, d3, d4, d5, d6, d7, d8, d9, d10, d11, so] from rfl]; exact hd)) ?_ (hsz t (List.mem_of_getElem? hk))
      unfold slotsR
      rw [List.getElem?_zip_eq_some, hdst, List.getElem?_map, hk]
      exact ⟨rfl, hv⟩
    have hM : ∀ t : Tmp, (∀ (k : Nat) (v : Value), ([d0, d1, d2, d3, d4, d5, d6, d7, d8, d9, d10, d11, so])[k]? = some t → ([x0, x1, x2, x3, x4, x5, x6, x7, x8, x9, x10, x11, x12])[k]? ≠ some (some v)) → (putsR (slotsR (insOps T TI T5 d0 d1 d2 d3 d4 d5 d6 d7 d8 d9 d10 d11 so sa op5 p0 p1 p2 p3 p4 p5 p6 p7 p8 p9 p10 p11 p12) [x0, x1, x2, x3, x4, x5, x6, x7, x8, x9, x10, x11, x12]) a).eval (.tmp t) = a.eval (.tmp t) := fun t ht => by
      refine putsR_miss _ a t fun v hm => ?_
      obtain ⟨k, h1, h2⟩ := slots_mem hm
      rw [hdst, List.getElem?_map] at h1
      obtain ⟨t', ht', e⟩ := Option.map_eq_some_iff.1 h1
      cases e
      exact ht k v ht' h2
    have hother : ∀ t, t ∉ [d0, d1, d2, d3, d4, d5, d6, d7, d8, d9, d10, d11, so] → (putsR (slotsR (insOps T TI T5 d0 d1 d2 d3 d4 d5 d6 d7 d8 d9 d10 d11 so sa op5 p0 p1 p2 p3 p4 p5 p6 p7 p8 p9 p10 p11 p12) [x0, x1, x2, x3, x4, x5, x6, x7, x8, x9, x10, x11, x12]) a).eval (.tmp t) = a.eval (.tmp t) := fun t ht => hM t fun k v hk => absurd (List.mem_of_getElem? hk) ht
    have hI : (putsR (slotsR (insOps T TI T5 d0 d1 d2 d3 d4 d5 d6 d7 d8 d9 d10 d11 so sa op5 p0 p1 p2 p3 p4 p5 p6 p7 p8 p9 p10 p11 p12) [x0, x1, x2, x3, x4, x5, x6, x7, x8, x9, x10, x11, x12]) a).eval (.tmp sa) = .int .i64 (i : Int) := (hother sa hda).trans hat
    have hO : x12 = none → (putsR (slotsR (insOps T TI T5 d0 d1 d2 d3 d4 d5 d6 d7 d8 d9 d10 d11 so sa op5 p0 p1 p2 p3 p4 p5 p6 p7 p8 p9 p10 p11 p12) [x0, x1, x2, x3, x4, x5, x6, x7, x8, x9, x10, x11, x12]) a).eval (.tmp so) = .slice A l.length c := fun h12 => (hM so fun k v hk hv => by
      have : k = 12 := nodup_at hd hk rfl
      subst this
      rw [h12] at hv
      cases hv).trans ho
    have cl : ∀ (p q : Nat) (oo : Oper) (gr : Ground) (v : Value), (insOps T TI T5 d0 d1 d2 d3 d4 d5 d6 d7 d8 d9 d10 d11 so sa op5 p0 p1 p2 p3 p4 p5 p6 p7 p8 p9 p10 p11 p12)[p]? = some oo → ({ on := q, ground := gr } : Edge) ∈ oo.after → Region.binds .any { on := q, ground := gr } = true → ([x0, x1, x2, x3, x4, x5, x6, x7, x8, x9, x10, x11, x12])[p]? = some (some v) → ∃ u, ([x0, x1, x2, x3, x4, x5, x6, x7, x8, x9, x10, x11, x12])[q]? = some (some u) := fun p q oo gr v h1 h2 h3 h4 => hc.closed p oo v h1 h4 _ h2 h3
    have c4a : ∀ v, x4 = some v → ∃ u, x0 = some u := fun v hv => by obtain ⟨u, hu⟩ := cl 4 0 _ .data v rfl (by simp) rfl (by rw [hv]; rfl); exact ⟨u, Option.some.inj hu⟩
    have c4b : ∀ v, x4 = some v → ∃ u, x3 = some u := fun v hv => by obtain ⟨u, hu⟩ := cl 4 3 _ .data v rfl (by simp) rfl (by rw [hv]; rfl); exact ⟨u, Option.some.inj hu⟩
    have c7a : ∀ v, x7 = some v → ∃ u, x4 = some u := fun v hv => by obtain ⟨u, hu⟩ := cl 7 4 _ .data v rfl (by simp) rfl (by rw [hv]; rfl); exact ⟨u, Option.some.inj hu⟩
    have c7b : ∀ v, x7 = some v → ∃ u, x6 = some u := fun v hv => by obtain ⟨u, hu⟩ := cl 7 6 _ .data v rfl (by simp) rfl (by rw [hv]; rfl); exact ⟨u, Option.some.inj hu⟩
    have c11a : ∀ v, x11 = some v → ∃ u, x7 = some u := fun v hv => by obtain ⟨u, hu⟩ := cl 11 7 _ .data v rfl (by simp) rfl (by rw [hv]; rfl); exact ⟨u, Option.some.inj hu⟩
    have c12a : ∀ v, x12 = some v → ∃ u, x11 = some u := fun v hv => by obtain ⟨u, hu⟩ := cl 12 11 _ .data v rfl (by simp) rfl (by rw [hv]; rfl); exact ⟨u, Option.some.inj hu⟩
    have c12b : ∀ v, x12 = some v → ∃ u, x1 = some u := fun v hv => by obtain ⟨u, hu⟩ := cl 12 1 _ .phase v rfl (by simp) rfl (by rw [hv]; rfl); exact ⟨u, Option.some.inj hu⟩
    have c12c : ∀ v, x12 = some v → ∃ u, x8 = some u := fun v hv => by obtain ⟨u, hu⟩ := cl 12 8 _ .phase v rfl (by simp) rfl (by rw [hv]; rfl); exact ⟨u, Option.some.inj hu⟩
    have none_of : ∀ {p q : Option Value}, (∀ v, p = some v → ∃ u, q = some u) → q = none → p = none := fun {p q} hpq hq => by
      cases hp : p with
      | none => rfl
      | some v => obtain ⟨u, hu⟩ := hpq v hp; rw [hq] at hu; cases hu
    have dd : ∀ (q : Nat) (gr : Ground) (oo : Oper), o = oo → ({ on := q, ground := gr } : Edge) ∈ oo.after → Region.binds .any { on := q, ground := gr } = true → ∃ u, ([x0, x1, x2, x3, x4, x5, x6, x7, x8, x9, x10, x11, x12])[q]? = some (some u) := fun q gr oo h1 h2 h3 => hdep _ (h1 ▸ h2) h3
    have hv : ∀ (k : Nat) (t : Tmp) (v : Value), ([d0, d1, d2, d3, d4, d5, d6, d7, d8, d9, d10, d11, so])[k]? = some t → ([x0, x1, x2, x3, x4, x5, x6, x7, x8, x9, x10, x11, x12])[k]? = some (some v) → (putsR (slotsR (insOps T TI T5 d0 d1 d2 d3 d4 d5 d6 d7 d8 d9 d10 d11 so sa op5 p0 p1 p2 p3 p4 p5 p6 p7 p8 p9 p10 p11 p12) [x0, x1, x2, x3, x4, x5, x6, x7, x8, x9, x10, x11, x12]) a).eval (.tmp t) = v := hE
    have hjl : j < 13 := by have := (List.getElem?_eq_some_iff.1 hoj).1; exact this
    have hVw := h.below.size
    generalize putsR (slotsR (insOps T TI T5 d0 d1 d2 d3 d4 d5 d6 d7 d8 d9 d10 d11 so sa op5 p0 p1 p2 p3 p4 p5 p6 p7 p8 p9 p10 p11 p12) [x0, x1, x2, x3, x4, x5, x6, x7, x8, x9, x10, x11, x12]) a = a' at *
    clear cl hE hM hc
    obtain rfl | rfl | rfl | rfl | rfl | rfl | rfl | rfl | rfl | rfl | rfl | rfl | rfl : j = 0 ∨ j = 1 ∨ j = 2 ∨ j = 3 ∨ j = 4 ∨ j = 5 ∨ j = 6 ∨ j = 7 ∨ j = 8 ∨ j = 9 ∨ j = 10 ∨ j = 11 ∨ j = 12 := by omega
    · have eo := Option.some.inj hoj
      subst eo
      obtain rfl : x0 = none := Option.some.inj hn
      obtain rfl : x4 = none := none_of c4a rfl
      obtain rfl : x7 = none := none_of c7a rfl
      obtain rfl : x11 = none := none_of c11a rfl
      refine step_value (v := .slice (some ⟨w'.heap.size, 0, none⟩) 0 0) (w' := w'.alloc (.cells #[] e)) rfl ?_ (hK _ _ ⟨some (.slice (some ⟨w'.heap.size, 0, none⟩) 0 0), x1, x2, x3, none, x5, x6, none, x8, x9, x10, none, x12, rfl, ⟨h.below.alloc hVw _, h.m1, h.m2, h.s3, h.k5, h.m8, h.m9, h.s10, (fun _ hv _ => by cases hv; exact World.ownsRow_made w' #[] 0 hVw (Nat.zero_le _) (by simp)), (fun _ hv _ => by cases hv), (fun v hv h7 => by obtain ⟨g, e1, e2, e3⟩ := h.b6 v hv h7; exact ⟨g, e1, e2.more _, fun v0 hv0 _ hg => by cases hv0; have := e2.inside; simp only [Value.ownBlock, Option.some.injEq] at hg; omega⟩), (fun _ hv _ => by cases hv), (fun _ hv => by cases hv), h.a12⟩⟩)
      · unfold execOp
        simp only [List.map_toArray, List.map_nil, Sem.run_bind, hb0, Result.andThen_ok, Sem.run_pure]
    · have eo := Option.some.inj hoj
      subst eo
      obtain rfl : x1 = none := Option.some.inj hn
      obtain rfl : x12 = none := none_of c12b rfl
      refine step_value (v := .slice A l.length c) (w' := w') rfl ?_ (hK _ _ ⟨x0, some (.slice A l.length c), x2, x3, x4, x5, x6, x7, x8, x9, x10, x11, none, rfl, ⟨h.below, (fun _ hv => by cases hv; rfl), h.m2, h.s3, h.k5, h.m8, h.m9, h.s10, h.r0, h.r4, h.b6, h.r7, h.r11, h.a12⟩⟩)
      · show Result.ok (Next.value (a'.eval (.tmp so))) w' = _
        rw [hO rfl]
    · have eo := Option.some.inj hoj
      subst eo
      obtain rfl : x2 = none := Option.some.inj hn
      refine step_value (v := .int .i64 (i : Int)) (w' := w') rfl ?_ (hK _ _ ⟨x0, x1, some (.int .i64 (i : Int)), x3, x4, x5, x6, x7, x8, x9, x10, x11, x12, rfl, ⟨h.below, h.m1, (fun _ hv => by cases hv; rfl), h.s3, h.k5, h.m8, h.m9, h.s10, h.r0, h.r4, h.b6, h.r7, h.r11, h.a12⟩⟩)
      · show Result.ok (Next.value (a'.eval (.tmp sa))) w' = _
        rw [hI]
    · have eo := Option.some.inj hoj
      subst eo
      obtain rfl : x3 = none := Option.some.inj hn
      obtain ⟨u1, hu1⟩ := dd 1 .data _ rfl (by simp) rfl
      obtain ⟨u2, hu2⟩ := dd 2 .data _ rfl (by simp) rfl
      have e1 := hv 1 d1 u1 rfl hu1
      have e2 := hv 2 d2 u2 rfl hu2
      rw [h.m1 u1 (Option.some.inj hu1)] at e1
      rw [h.m2 u2 (Option.some.inj hu2)] at e2
      refine step_value (v := S1) (w' := w') rfl ?_ (hK _ _ ⟨x0, x1, x2, some (S1), x4, x5, x6, x7, x8, x9, x10, x11, x12, rfl, ⟨h.below, h.m1, h.m2, (fun _ hv => by cases hv; rfl), h.k5, h.m8, h.m9, h.s10, h.r0, h.r4, h.b6, h.r7, h.r11, h.a12⟩⟩)
      · have r1 : (Instr.sliceAt T (.slice A l.length c) none (some (.int .i64 (i : Int))) none).run P w' = .ok S1 w' := by
          rw [run_sliceAt_slice w' T _ _ _ _ hte, run_slice_h w' T A l.length c hte .i64 (i : Int) (by omega) (by omega), hsof, Result.andThen_ok, Int.toNat_natCast, hS1]
        unfold execOp
        simp only [Option.map_some, Option.map_none, e1, e2, Sem.run_bind, r1, Result.andThen_ok, Sem.run_pure]
    · have eo := Option.some.inj hoj
      obtain rfl : x4 = none := Option.some.inj hn
      obtain rfl : x7 = none := none_of c7a rfl
      obtain rfl : x11 = none := none_of c11a rfl
      obtain ⟨v0, hu0⟩ := dd 0 .data _ eo.symm (by simp) rfl
      obtain ⟨u3, hu3⟩ := dd 3 .data _ eo.symm (by simp) rfl
      have e0 := hv 0 d0 v0 rfl hu0
      have e3 := hv 3 d3 u3 rfl hu3
      obtain rfl : x0 = some v0 := Option.some.inj hu0
      obtain ⟨A1, hA1, hl1⟩ := hL1
      rw [h.s3 u3 (Option.some.inj hu3), hA1] at e3
      subst eo
      refine step_app w' rfl (.tmp d0) (.tmp d3) T e rfl i0 z bytes ht hi hz0 hz1 hz2 hzs hpos hcl hone V.heap.size v0 0 [] e0 (h.r0 v0 rfl rfl) V.heap.size A1 c (l.take i) i (by rw [List.length_take]; omega) e3 (hl1.past h.below (Nat.le_refl _)) (by omega) (by rw [Nat.zero_add]; exact Nat.le_trans (Nat.mul_le_mul_right _ (by omega)) hby) hVw ?_
      intro v' w'' ho' hb' hg'
      rw [Nat.zero_add, List.nil_append] at ho'
      exact hK _ _ ⟨some v0, x1, x2, x3, some v', x5, x6, none, x8, x9, x10, none, x12, rfl, ⟨h.below.trans hb', h.m1, h.m2, h.s3, h.k5, h.m8, h.m9, h.s10, (fun _ _ h4 => by cases h4), (fun _ hv _ => by cases hv; exact ho'), (fun v hv h7 => by obtain ⟨g, e1, e2, e4⟩ := h.b6 v hv h7; exact ⟨g, e1, (hg'.block g e2.inside (fun hh => e4 v0 rfl rfl hh.symm)).trans e2, fun _ _ h4 => by cases h4⟩), (fun _ hv _ => by cases hv), (fun _ hv => by cases hv), h.a12⟩⟩
    · have eo := Option.some.inj hoj
      subst eo
      obtain rfl : x5 = none := Option.some.inj hn
      refine step_value (v := X) (w' := w') rfl ?_ (hK _ _ ⟨x0, x1, x2, x3, x4, some (X), x6, x7, x8, x9, x10, x11, x12, rfl, ⟨h.below, h.m1, h.m2, h.s3, (fun _ hv => by cases hv; rfl), h.m8, h.m9, h.s10, h.r0, h.r4, h.b6, h.r7, h.r11, h.a12⟩⟩)
      · exact h5 a' w' T5 hother h.below
    · have eo := Option.some.inj hoj
      obtain rfl : x6 = none := Option.some.inj hn
      obtain rfl : x7 = none := none_of c7b rfl
      obtain rfl : x11 = none := none_of c11a rfl
      obtain ⟨u5, hu5⟩ := dd 5 .data _ eo.symm (by simp) rfl
      have e5 := hv 5 d5 u5 rfl hu5
      rw [h.k5 u5 (Option.some.inj hu5)] at e5
      subst eo
      have hal : Below w'.heap.size w' (w'.alloc (.cells (cells x).toArray e)) := (Below.refl _ _).alloc (Nat.le_refl _) _
      refine step_value (v := .slice (some ⟨w'.heap.size, 0, none⟩) 1 1) (w' := w'.alloc (.cells (cells x).toArray e)) rfl ?_ (hK _ _ ⟨x0, x1, x2, x3, x4, x5, some (.slice (some ⟨w'.heap.size, 0, none⟩) 1 1), none, x8, x9, x10, none, x12, rfl, ⟨h.below.alloc hVw _, h.m1, h.m2, h.s3, h.k5, h.m8, h.m9, h.s10, (fun v hv h4 => own_below (h.r0 v hv h4) hal), (fun v hv h7 => own_below (h.r4 v hv h7) hal), (fun v hv h7 => by cases hv; exact ⟨_, rfl, Own.made w' e (cells x), fun v0 hv0 h4 hg => by have := ((h.r0 v0 hv0 h4).lt _ hg).2; omega⟩), (fun _ hv _ => by cases hv), (fun _ hv => by cases hv), h.a12⟩⟩)
      · unfold execOp
        simp only [List.map_toArray, List.map_cons, List.map_nil, e5, Sem.run_bind, hb1, Result.andThen_ok, Sem.run_pure]
    · have eo := Option.some.inj hoj
      obtain rfl : x7 = none := Option.some.inj hn
      obtain rfl : x11 = none := none_of c11a rfl
      obtain ⟨v4, hu4⟩ := dd 4 .data _ eo.symm (by simp) rfl
      obtain ⟨v6, hu6⟩ := dd 6 .data _ eo.symm (by simp) rfl
      have e4 := hv 4 d4 v4 rfl hu4
      have e6 := hv 6 d6 v6 rfl hu6
      obtain rfl : x4 = some v4 := Option.some.inj hu4
      obtain rfl : x6 = some v6 := Option.some.inj hu6
      obtain ⟨g, rfl, hog, _⟩ := h.b6 v6 rfl rfl
      subst eo
      have hlx : Lies size cells w' (g + 1) (some ⟨g, 0, none⟩) [x] := fun _ => by
        refine ⟨g, 0, rfl, by omega, fun k y hk j u hu => ?_⟩
        match k, hk with
        | 0, hk =>
          obtain rfl : x = y := by simpa using hk
          rw [show (0 : Nat) + 0 * size + j = j by omega, hog.at_ j]
          exact hu
      refine step_app w' rfl (.tmp d4) (.tmp d6) T e rfl i0 z bytes ht hi hz0 hz1 hz2 hzs hpos hcl hone V.heap.size v4 i _ e4 (h.r4 v4 rfl rfl) (g + 1) (some ⟨g, 0, none⟩) 1 [x] 1 rfl e6 hlx (by omega) (Nat.le_trans (Nat.mul_le_mul_right _ (by omega)) hby) hVw ?_
      intro v' w'' ho' hb' hg'
      rw [← List.flatMap_append] at ho'
      exact hK _ _ ⟨x0, x1, x2, x3, some v4, x5, some (.slice (some ⟨g, 0, none⟩) 1 1), some v', x8, x9, x10, none, x12, rfl, ⟨h.below.trans hb', h.m1, h.m2, h.s3, h.k5, h.m8, h.m9, h.s10, (fun _ _ h4 => by cases h4), (fun _ _ h7 => by cases h7), (fun _ _ h7 => by cases h7), (fun _ hv _ => by cases hv; exact ho'), (fun _ hv => by cases hv), h.a12⟩⟩
    · have eo := Option.some.inj hoj
      subst eo
      obtain rfl : x8 = none := Option.some.inj hn
      obtain rfl : x12 = none := none_of c12c rfl
      refine step_value (v := .slice A l.length c) (w' := w') rfl ?_ (hK _ _ ⟨x0, x1, x2, x3, x4, x5, x6, x7, some (.slice A l.length c), x9, x10, x11, none, rfl, ⟨h.below, h.m1, h.m2, h.s3, h.k5, (fun _ hv => by cases hv; rfl), h.m9, h.s10, h.r0, h.r4, h.b6, h.r7, h.r11, h.a12⟩⟩)
      · show Result.ok (Next.value (a'.eval (.tmp so))) w' = _
        rw [hO rfl]
    · have eo := Option.some.inj hoj
      subst eo
      obtain rfl : x9 = none := Option.some.inj hn
      refine step_value (v := .int .i64 (i : Int)) (w' := w') rfl ?_ (hK _ _ ⟨x0, x1, x2, x3, x4, x5, x6, x7, x8, some (.int .i64 (i : Int)), x10, x11, x12, rfl, ⟨h.below, h.m1, h.m2, h.s3, h.k5, h.m8, (fun _ hv => by cases hv; rfl), h.s10, h.r0, h.r4, h.b6, h.r7, h.r11, h.a12⟩⟩)
      · show Result.ok (Next.value (a'.eval (.tmp sa))) w' = _
        rw [hI]
    · have eo := Option.some.inj hoj
      subst eo
      obtain rfl : x10 = none := Option.some.inj hn
      obtain ⟨u8, hu8⟩ := dd 8 .data _ rfl (by simp) rfl
      obtain ⟨u9, hu9⟩ := dd 9 .data _ rfl (by simp) rfl
      have e8 := hv 8 d8 u8 rfl hu8
      have e9 := hv 9 d9 u9 rfl hu9
      rw [h.m8 u8 (Option.some.inj hu8)] at e8
      rw [h.m9 u9 (Option.some.inj hu9)] at e9
      refine step_value (v := S2) (w' := w') rfl ?_ (hK _ _ ⟨x0, x1, x2, x3, x4, x5, x6, x7, x8, x9, some (S2), x11, x12, rfl, ⟨h.below, h.m1, h.m2, h.s3, h.k5, h.m8, h.m9, (fun _ hv => by cases hv; rfl), h.r0, h.r4, h.b6, h.r7, h.r11, h.a12⟩⟩)
      · have r1 : (Instr.sliceAt T (.slice A l.length c) (some (.int .i64 (i : Int))) none none).run P w' = .ok S2 w' := by
          rw [run_sliceAt_slice w' T _ _ _ _ hte, run_slice_l w' T A l.length c hte .i64 (i : Int) (by omega) (by omega), hsof, Result.andThen_ok, Int.toNat_natCast, hS2]
        unfold execOp
        simp only [Option.map_some, Option.map_none, e8, e9, Sem.run_bind, r1, Result.andThen_ok, Sem.run_pure]
    · have eo := Option.some.inj hoj
      obtain rfl : x11 = none := Option.some.inj hn
      obtain rfl : x12 = none := none_of c12a rfl
      obtain ⟨v7, hu7⟩ := dd 7 .data _ eo.symm (by simp) rfl
      obtain ⟨u10, hu10⟩ := dd 10 .data _ eo.symm (by simp) rfl
      have e7 := hv 7 d7 v7 rfl hu7
      have e10 := hv 10 d10 u10 rfl hu10
      obtain rfl : x7 = some v7 := Option.some.inj hu7
      obtain ⟨A2, hA2, hl2⟩ := hL2
      rw [h.s10 u10 (Option.some.inj hu10), hA2] at e10
      subst eo
      refine step_app w' rfl (.tmp d7) (.tmp d10) T e rfl i0 z bytes ht hi hz0 hz1 hz2 hzs hpos hcl hone V.heap.size v7 (i + 1) _ e7 (h.r7 v7 rfl rfl) V.heap.size A2 (c - i) (l.drop i) (l.length - i) (by rw [List.length_drop]) e10 (hl2.past h.below (Nat.le_refl _)) (by omega) (Nat.le_trans (Nat.mul_le_mul_right _ (by omega)) hby) hVw ?_
      intro v' w'' ho' hb' hg'
      rw [← List.flatMap_append, List.append_assoc, show i + 1 + (l.length - i) = l.length + 1 by omega] at ho'
      exact hK _ _ ⟨x0, x1, x2, x3, x4, x5, x6, some v7, x8, x9, x10, some v', none, rfl, ⟨h.below.trans hb', h.m1, h.m2, h.s3, h.k5, h.m8, h.m9, h.s10, (fun v hv h4 => by obtain ⟨u, hu⟩ := c7a v7 rfl; rw [h4] at hu; cases hu), (fun _ _ h7 => by cases h7), (fun _ _ h7 => by cases h7), (fun _ _ h11 => by cases h11), (fun _ hv => by cases hv; exact ho'), (fun _ hv => by cases hv)⟩⟩
    · have eo := Option.some.inj hoj
      obtain rfl : x12 = none := Option.some.inj hn
      obtain ⟨v11, hu11⟩ := dd 11 .data _ eo.symm (by simp) rfl
      have e11 := hv 11 d11 v11 rfl hu11
      obtain rfl : x11 = some v11 := Option.some.inj hu11
      subst eo
      refine step_value (v := v11) (w' := w') rfl ?_ (hK _ _ ⟨x0, x1, x2, x3, x4, x5, x6, x7, x8, x9, x10, some v11, some v11, rfl, ⟨h.below, h.m1, h.m2, h.s3, h.k5, h.m8, h.m9, h.s10, h.r0, h.r4, h.b6, h.r7, h.r11, (fun _ hv => by cases hv; rfl)⟩⟩)
      · show Result.ok (Next.value (a'.eval (.tmp d11))) w' = _
        rw [e11]
end
theorem load_own {P : Program} {w : World} {g : Nat} {t ty : TypeId} {l : List Value} {d : TypeDesc} (h : Own w g t l) (hu : P.underlying ty = some d) (hd : (match d with | .struct _ | .array _ _ => true | _ => false) = true) (hi : (P.info? ty).map (·.size) = some l.length) :
    (Instr.loadAt ty (.pointer (some ⟨g, 0, none⟩))).run P w = .ok (.agg l.toArray) w := by
  simp only [Instr.loadAt, Instr.sureAddr, Sem.run_bind, Sem.run_pure, Result.andThen_ok]
  exact run_loadVar_row w g t ty l.toArray (0, 0) d h hu hd (by simpa using hi)
/-- the new one is read from a variable -/
theorem load_op {P : Program} {a a' : Act} {V w' : World} {g sb : Nat} {tx ty T5 : TypeId} {l : List Value} {d : TypeDesc} {d5 : Tmp} {p5 : String} (hs : a'.eval (.tmp sb) = a.eval (.tmp sb)) (ha : a.eval (.tmp sb) = .pointer (some ⟨g, 0, none⟩)) (h : Own V g tx l) (hb : Below V.heap.size V w')
    (hu : P.underlying ty = some d) (hd : (match d with | .struct _ | .array _ _ => true | _ => false) = true) (hi : (P.info? ty).map (·.size) = some l.length) :
    (execOp a'.eval { dst := some d5, op := .load ty (.tmp sb), type := T5, pos := p5, after := #[], guard := none }).run P w' = .ok (.value (.agg l.toArray)) w' := by
  unfold execOp
  simp only [hs, ha, Sem.run_bind, load_own (h.past hb h.inside) hu hd hi, Result.andThen_ok, Sem.run_pure]
end Go.Proofs.Ytfhlgdidobecaaa
namespace Go.Proofs.Ytfhlgdidobecaaa
open Go Go.RowKit Go.Sort Go.Lib

theorem bsT0 (w' : World) : (Instr.buildSlice 22 0 #[]).run Try.prog w' = .ok (.slice (some ⟨w'.heap.size, 0, none⟩) 0 0) (w'.alloc (.cells #[] 26)) := by kernel_rfl
theorem bsT1 (t : Tm) (w' : World) : (Instr.buildSlice 22 1 #[(0, .agg t.cells.toArray)]).run Try.prog w' = .ok (.slice (some ⟨w'.heap.size, 0, none⟩) 1 1) (w'.alloc (.cells t.cells.toArray 26)) := by kernel_rfl
theorem tm_len3 (t : Tm) : t.cells.length = 3 := rfl
theorem row_form {w : World} {base n : Nat} {e : TypeId} {size : Nat} {v : Value} {xs : List Value} (h : w.ownsRow base e size v n xs) : ∃ A c, v = .slice A n c := by
  rcases h.2 with ⟨rfl, h0⟩ | ⟨g, cc, cur, rfl, _⟩
  · exact ⟨none, 0, by rw [h0]⟩
  · exact ⟨_, _, rfl⟩
theorem base_ok {B : Nat} {a b : World} (h : Below B a b) (hB : B ≤ a.heap.size) : B ≤ b.heap.size := Nat.le_trans hB h.size
theorem past_tm {V : World} {b o : Nat} {t : Tm} (h : TmAt V b o t) (hb : b < V.heap.size) :
    (∀ p : Past V, p.w.cell? ⟨b, o, none⟩ = some (.int .u64 (t.e : Int))) ∧ (∀ p : Past V, p.w.cell? ⟨b, o + 1, none⟩ = some (.int .u64 (t.a : Int))) ∧ (∀ p : Past V, p.w.cell? ⟨b, o + 2, none⟩ = some (.int .u64 (t.b : Int))) :=
  ⟨fun p => (h.past p.h hb).1, fun p => (h.past p.h hb).2.1, fun p => (h.past p.h hb).2.2⟩
set_option maxRecDepth 100000 in
set_option maxHeartbeats 6400000 in
theorem refFront_any (A : Option Addr) (c : Nat) (l : List Tm) (w : World) (hl : Times w w.heap.size A l) (hn : l.length * 24 ≤ 140737488351232) :
    Calls Try.prog 10 #[.slice A l.length c] w fun e w' => ∃ v, e = .returned v ∧ w'.ownsRow w.heap.size 26 3 v (frontL l).length ((frontL l).flatMap Tm.cells) ∧ Below w.heap.size w w' := by
  obtain ⟨i0, hi, hz0, hz1, hz2⟩ := info_parts infoTm
  have HI := Lib.hid (And.intro Try.underlying22 (And.intro hi (And.intro hz0 (And.intro hz1 hz2))))
  clear hi hz0 hz1 hz2
  have hrf := Lib.hid (refTo_front l)
  have Hl := Lib.hid hl
  have hahead := fun s t W => Lib.hid (refAhead_any s t W)
  have hcmp := fun s t W => Lib.hid (refCompare_any s t W)
  unfold Tm.val at hahead hcmp
  clear hl
  go_enter Try.func10, Try.ntmps10
  go_wp2_with fail
  go_loopw [3, 14] (fun v i wr => ∃ k : Nat, i = .int .i64 (k : Int) ∧ k ≤ l.length ∧ wr.ownsRow w.heap.size 26 3 v (refTo l k).length ((refTo l k).flatMap Tm.cells) ∧ Below w.heap.size w wr)
    (fun _ i _ => l.length - (intOf i).toNat)
  case atStart => exact ⟨0, rfl, by omega, World.ownsRow_nil _ _ _ _, Below.refl _ _⟩
  case round =>
    obtain ⟨k, rfl, hk, hown, hb⟩ := hrel
    have hrl := refTo_len l k hk
    by_cases hlt : k < l.length
    · have hx : l[k]? = some l[k] := List.getElem?_eq_getElem hlt
      obtain ⟨b, o, rfl, hB, hcell⟩ := Hl.out (by omega)
      obtain ⟨c0, c1, c2⟩ := (hcell k _ hx).past hb hB
      have hsn := refTo_snoc hx
      generalize l[k] = t at *
      obtain ⟨nf, hnf⟩ : ∃ n, (refTo l k).length = n := ⟨_, rfl⟩
      rw [hnf] at hown hrl
      obtain ⟨A3, cc3, rfl⟩ := row_form hown
      have HH := Lib.hid (And.intro hb (And.intro hown (And.intro hsn hnf)))
      have HC := Lib.hid hcell
      clear hb hown hsn hnf hx hcell
      obtain ⟨wo, rfl⟩ : ∃ wo : World, wo = wr := ⟨_, rfl⟩
      go_wp2_with fail
      go_loopw [6, 20] (fun y i w2 => ∃ m : Nat, i = .int .i64 (m : Int) ∧ m ≤ l.length ∧ y = .bool (!blocked (l.take m) t) ∧ Own w2 wo.heap.size 26 t.cells ∧ Below wo.heap.size wo w2)
        (fun _ i _ => l.length - (intOf i).toNat)
      case atStart => exact ⟨0, rfl, by omega, rfl, Own.made wo 26 t.cells, (Below.refl _ _).alloc (Nat.le_refl _) _⟩
      case round =>
        obtain ⟨m, rfl, hm, rfl, ht, hb2⟩ := hrel
        by_cases hltm : m < l.length
        · have hy : l[m]? = some l[m] := List.getElem?_eq_getElem hltm
          obtain ⟨d0, d1, d2⟩ := (HC.out m _ hy).past (HH.out.1.trans (hb2.mono HH.out.1.size)) hB
          have hbs := blocked_snoc (t := t) hy
          generalize l[m] = u at *
          have e0 := ht.at_ 0
          have e1 := ht.at_ 1
          have e2 := ht.at_ 2
          have hg := ht.inside
          simp only [Tm.cells, List.getElem?_cons_zero, List.getElem?_cons_succ] at e0 e1 e2
          have hne := neq_time u t
          have hgd := fun (x1 y1 : Operand) (xs ys : Array Value) (w : World) => grd_time .neq x1 y1 xs ys w
          unfold Tm.val at hne
          have hA := fun W => hahead u t W
          have HM := Lib.hid (And.intro hb2 (And.intro ht hbs))
          generalize blocked (l.take m) t = p at *
          clear hb2 ht hbs hy
          cases hq : eqT u t
          · cases hle : u.le t
            · rw [hle] at hA
              rw [hq] at hne
              have HQ := Lib.hid (And.intro hq hle)
              clear hq hle
              go_wp2_with fail
              refine (hA _).out.mono ?_
              rintro e w3 ⟨rfl, b3⟩
              have B3 := Lib.hid b3
              clear b3
              go_wp2_with fail
              go_roundw
              case rel =>
                obtain ⟨hb2, ht, hbs⟩ := HM.out
                refine ⟨m + 1, by go_num, by omega, by rw [hbs, HQ.out.1, HQ.out.2]; simp, (ht.more _).past B3.out (by simp; omega), (hb2.alloc hb2.size _).trans (B3.out.mono (by have := hb2.size; simp; omega))⟩
              case measure => simp [intOf]; omega
            · rw [hle] at hA
              rw [hq] at hne
              have HQ := Lib.hid (And.intro hq hle)
              clear hq hle
              go_wp2_with fail
              refine (hA _).out.mono ?_
              rintro e w3 ⟨rfl, b3⟩
              have B3 := Lib.hid b3
              clear b3
              go_wp2_with fail
              go_roundw
              case rel =>
                obtain ⟨hb2, ht, hbs⟩ := HM.out
                refine ⟨m + 1, by go_num, by omega, by rw [hbs, HQ.out.1, HQ.out.2]; simp, (ht.more _).past B3.out (by simp; omega), (hb2.alloc hb2.size _).trans (B3.out.mono (by have := hb2.size; simp; omega))⟩
              case measure => simp [intOf]; omega
          · rw [hq] at hne
            have HQ := Lib.hid hq
            clear hq hA
            go_wp2_with fail
            go_roundw
            case rel =>
              obtain ⟨hb2, ht, hbs⟩ := HM.out
              refine ⟨m + 1, by go_num, by omega, by rw [hbs, HQ.out]; simp, ht.more _, hb2.alloc hb2.size _⟩
            case measure => simp [intOf]; omega
        · have hm2 : m = l.length := by omega
          subst hm2
          rw [List.take_length]
          obtain ⟨hb, hown, hsn, hnf⟩ := HH.out
          obtain ⟨A4, c4, he4, -, -, hF⟩ := times_of_own hnf.symm hown
          simp only [Value.slice.injEq] at he4
          obtain ⟨rfl, -, -⟩ := he4
          have hrs : refStep l (refTo l k) t = if (blocked l t || holdsT (refTo l k) t) = true then refTo l k else putIn (refTo l k) t := rfl
          have HM := Lib.hid (And.intro hb2 (And.intro ht hrs))
          have HF := Lib.hid hF
          generalize blocked l t = p at *
          clear hb hown hsn hF ht hb2 hrs hnf
          go_wp2_with fail
          go_loopw [6, 35] (fun y i w3 => ∃ j : Nat, i = .int .i64 (j : Int) ∧ j ≤ nf ∧ y = .bool (!(p || holdsT ((refTo l k).take j) t)) ∧ Own w3 wo.heap.size 26 t.cells ∧ Below wo.heap.size wo w3)
            (fun _ i _ => nf - (intOf i).toNat)
          case atStart => exact ⟨0, rfl, by omega, by simp [holdsT], HM.out.2.1, HM.out.1⟩
          case round =>
            obtain ⟨j, rfl, hj, rfl, ht, hb2⟩ := hrel
            by_cases hltj : j < nf
            · have hnf := HH.out.2.2.2
              obtain ⟨u, hy⟩ : ∃ u, (refTo l k)[j]? = some u := ⟨_, List.getElem?_eq_getElem (by omega)⟩
              obtain ⟨b', o', rfl, hB', hcell'⟩ := HF.out (by omega)
              obtain ⟨d0, d1, d2⟩ := (hcell' j _ hy).past hb2 hB'
              have hbs := holdsT_snoc (t := t) hy
              have e0 := ht.at_ 0
              have e1 := ht.at_ 1
              have e2 := ht.at_ 2
              have hg := ht.inside
              simp only [Tm.cells, List.getElem?_cons_zero, List.getElem?_cons_succ] at e0 e1 e2
              have hne := eql_time u t
              have hgd := fun (x1 y1 : Operand) (xs ys : Array Value) (w : World) => grd_time .eql x1 y1 xs ys w
              unfold Tm.val at hne
              have HL := Lib.hid (And.intro hb2 (And.intro ht hbs))
              generalize holdsT ((refTo l k).take j) t = q at *
              clear hb2 ht hbs hy hnf hcell'
              cases hq : eqT u t
              · rw [hq] at hne
                have HQ := Lib.hid hq
                clear hq
                go_wp2_with fail
                go_roundw
                case rel =>
                  obtain ⟨hb2, ht, hbs⟩ := HL.out
                  refine ⟨j + 1, by go_num, by omega, by rw [hbs, HQ.out]; simp, ht.more _, hb2.alloc hb2.size _⟩
                case measure => simp [intOf]; omega
              · rw [hq] at hne
                have HQ := Lib.hid hq
                clear hq
                go_wp2_with fail
                go_roundw
                case rel =>
                  obtain ⟨hb2, ht, hbs⟩ := HL.out
                  refine ⟨j + 1, by go_num, by omega, by rw [hbs, HQ.out]; simp, ht.more _, hb2.alloc hb2.size _⟩
                case measure => simp [intOf]; omega
            · have hj2 : j = nf := by omega
              subst hj2
              have hFl : (refTo l k).take j = refTo l k := List.take_of_length_le (by rw [HH.out.2.2.2]; exact Nat.le_refl _)
              rw [hFl]
              have HL := Lib.hid (And.intro hb2 ht)
              cases hq : p || holdsT (refTo l k) t
              · have HQ := Lib.hid hq
                rw [Bool.not_false]
                have e0 := ht.at_ 0
                have e1 := ht.at_ 1
                have e2 := ht.at_ 2
                have hg := ht.inside
                simp only [Tm.cells, List.getElem?_cons_zero, List.getElem?_cons_succ] at e0 e1 e2
                clear hq hb2 ht hFl
                go_wp2_with fail
                go_loopw [11] (fun i w4 => ∃ m : Nat, i = .int .i64 (m : Int) ∧ m ≤ j ∧ (∀ (i : Nat) (y : Tm), i < m → (refTo l k)[i]? = some y → before t y = true) ∧ Own w4 wo.heap.size 26 t.cells ∧ Below wo.heap.size wo w4)
                  (fun i _ => j - (intOf i).toNat)
                case atStart => exact ⟨0, rfl, by omega, fun i y hi _ => absurd hi (by omega), HL.out.2, HL.out.1⟩
                case round =>
                  obtain ⟨m, rfl, hm4, hbef, ht, hb2⟩ := hrel
                  have e0 := ht.at_ 0
                  have e1 := ht.at_ 1
                  have e2 := ht.at_ 2
                  have hg := ht.inside
                  simp only [Tm.cells, List.getElem?_cons_zero, List.getElem?_cons_succ] at e0 e1 e2
                  by_cases hltm4 : m < j
                  · have hnf := HH.out.2.2.2
                    obtain ⟨u, hy⟩ : ∃ u, (refTo l k)[m]? = some u := ⟨_, List.getElem?_eq_getElem (by omega)⟩
                    obtain ⟨b', o', rfl, hB', hcell'⟩ := HF.out (by omega)
                    have hB4 : b' < wr.heap.size := by have := hb2.size; omega
                    have hdu := past_tm ((hcell' m _ hy).past hb2 hB') hB4
                    obtain ⟨d0, d1, d2⟩ := hdu
                    obtain ⟨g0, g1, g2⟩ := past_cells ht
                    have hcall := fun P : Past wr => hcmp u t P.w
                    have q0 : (0 : Int) ≤ (m : Int) := by omega
                    have q1 : (m : Int) < (j : Int) := by omega
                    have t1 : decide (m < j) = true := by simpa using hltm4
                    have HD := Lib.hid (And.intro hbef (And.intro ht (And.intro hb2 hy)))
                    clear hbef ht hb2 hy hnf hcell' e0 e1 e2
                    by_cases hz : u.cmp t < 0
                    · have HZ := Lib.hid hz
                      have t2 : decide (u.cmp t < 0) = true := by simpa using hz
                      generalize u.cmp t = r at hcall t2
                      clear hz
                      go_wp2_with fail
                      refine wp_region_past wr (by kernel_rfl) (by kernel_rfl) (Below.refl _ _) ?_
                      repeat (quiet_step ((go_at_call 36; exact calls_past (hcall _).out)))
                      refine wpQuiet_nil ?_
                      intro _ hw'
                      obtain ⟨⟨wz, hbz⟩, hw''⟩ := hw'
                      dsimp only at hw''
                      obtain rfl := hw''
                      have H1 := Lib.hid hbz
                      clear hbz
                      go_wp2_with fail
                      go_roundw
                      case rel =>
                        obtain ⟨hbef, ht, hb2, hy⟩ := HD.out
                        refine ⟨m + 1, by go_num, by omega, fun i y hi hy' => ?_, ht.past H1.out ht.inside, hb2.trans (H1.out.mono hb2.size)⟩
                        by_cases him : i = m
                        · subst him
                          rw [hy] at hy'
                          injection hy' with hy'
                          subst hy'
                          exact decide_eq_true HZ.out
                        · exact hbef i y (by omega) hy'
                      case measure => simp [intOf]; omega
                    · have HZ := Lib.hid hz
                      have t2 : decide (u.cmp t < 0) = false := by simpa using hz
                      generalize u.cmp t = r at hcall t2
                      clear hz
                      go_wp2_with fail
                      refine wp_region_past wr (by kernel_rfl) (by kernel_rfl) (Below.refl _ _) ?_
                      repeat (quiet_step ((go_at_call 36; exact calls_past (hcall _).out)))
                      refine wpQuiet_nil ?_
                      intro V hw'
                      obtain ⟨⟨wz, hbz⟩, hw''⟩ := hw'
                      dsimp only at hw''
                      obtain rfl := hw''
                      have H1 := Lib.hid hbz
                      clear hbz
                      go_wp2_with fail
                      have HE : putIn (refTo l k) t = (refTo l k).take m ++ t :: (refTo l k).drop m := place_at (by rw [HH.out.2.2.2]; exact hm4) HD.out.1 (fun y hy' => by
                        have hy := HD.out.2.2.2
                        rw [hy] at hy'
                        injection hy' with hy'
                        subst hy'
                        exact decide_eq_false (by have := HZ.out; omega))
                      have HE := Lib.hid HE
                      have HW := Lib.hid (And.intro (HD.out.2.1.past H1.out HD.out.2.1.inside) (HD.out.2.2.1.trans (H1.out.mono HD.out.2.2.1.size)))
                      clear d0 d1 d2 g0 g1 g2 hcall HD HZ H1
                      obtain ⟨ht5, hb5⟩ := HW.out
                      have q3 : (m : Int) ≤ (j : Int) := by omega
                      have e0 := ht5.at_ 0
                      have e1 := ht5.at_ 1
                      have e2 := ht5.at_ 2
                      simp only [Tm.cells, List.getElem?_cons_zero, List.getElem?_cons_succ] at e0 e1 e2
                      have hcap : j ≤ cc3 := by
                        rcases HH.out.2.1.2 with ⟨e, _⟩ | ⟨g, cap, cur, e, _, _, h1, _⟩
                        · cases e
                        · injection e with _ _ e; omega
                      have q4 : (m : Int) ≤ (cc3 : Int) := by omega
                      have hcne : ¬ cc3 = m := by omega
                      have HLV := Lib.hid (lies_of_times ((HF.out.past hb5 (Nat.le_refl _)).wide hb5.size))
                      have hHT := Lib.hid ht5
                      have HB5 := Lib.hid hb5
                      have hj2 : j ≤ 5864062014805 := by omega
                      clear ht5 hb5 e0 e1 e2 q3 q4 hcne
                      refine wp_ins (by kernel_rfl) (by decide) (by decide) 74 rfl (by decide) i0 _ 24 HI.out.1 HI.out.2.1 HI.out.2.2.1 HI.out.2.2.2.1 HI.out.2.2.2.2 rfl (by decide) tm_len3 tm_one (refTo l k) t m _ cc3 j HH.out.2.2.2 (by omega) hcap (by unfold maxLen; omega) (by omega) rfl rfl HLV.out (.agg t.cells.toArray) (fun a' w' t5 hot hb => load_op (hot 5 (by decide)) rfl hHT.out hb Try.underlying26 rfl (by kernel_rfl)) bsT0 (bsT1 t) ?_
                      intro z0 z1 z2 z3 z4 z5 z6 z7 z8 z9 z10 z11 w9 b9 o9
                      simp only [Act.put, List.setIfInBounds_toArray, List.set_cons_zero, List.set_cons_succ]
                      have H9 := Lib.hid (And.intro b9 o9)
                      clear b9 o9
                      go_wp2_with fail
                      go_roundw
                      case rel =>
                        obtain ⟨hb, hown, hsn, hnf⟩ := HH.out
                        have hrk : refTo l (k + 1) = (refTo l k).take m ++ t :: (refTo l k).drop m := by rw [hsn, HM.out.2.2, HQ.out]; exact HE.out
                        have hrl2 : ((refTo l k).take m ++ t :: (refTo l k).drop m).length = j + 1 := by simp; omega
                        have h1 := hb.trans (HB5.out.mono hb.size)
                        refine ⟨k + 1, by go_num, by omega, ?_, h1.trans (H9.out.1.mono h1.size)⟩
                        rw [hrk, hrl2]
                        exact World.ownsRow.mono H9.out.2 h1.size
                      case measure => simp [intOf]; omega
                  · have hm5 : m = j := by omega
                    subst hm5
                    have t1 : decide (m < m) = false := by simp
                    have HE : putIn (refTo l k) t = (refTo l k).take m ++ t :: (refTo l k).drop m := place_at (by rw [HH.out.2.2.2]; exact hm4) hbef (fun y hy' => by
                      have := (List.getElem?_eq_some_iff.1 hy').1
                      have := HH.out.2.2.2
                      omega)
                    have HE := Lib.hid HE
                    have HW := Lib.hid (And.intro ht hb2)
                    have hcap : m ≤ cc3 := by
                      rcases HH.out.2.1.2 with ⟨e, h0⟩ | ⟨g, cap, cur, e, _, _, h1, _⟩
                      · injection e with _ _ e; omega
                      · injection e with _ _ e; omega
                    clear hbef ht hb2 e0 e1 e2
                    go_upto_region 20 with fail
                    go_quiet (fail)
                    go_wp2_with fail
                    have hb5 := below_draws HW.out.2 nq
                    have ht5 := HW.out.1.draws nq
                    have HLV := Lib.hid (lies_of_times ((HF.out.past hb5 (Nat.le_refl _)).wide hb5.size))
                    have hHT := Lib.hid ht5
                    have HB5 := Lib.hid hb5
                    have hj2 : m ≤ 5864062014805 := by omega
                    clear ht5 hb5
                    refine wp_ins (by kernel_rfl) (by decide) (by decide) 74 rfl (by decide) i0 _ 24 HI.out.1 HI.out.2.1 HI.out.2.2.1 HI.out.2.2.2.1 HI.out.2.2.2.2 rfl (by decide) tm_len3 tm_one (refTo l k) t m _ cc3 m HH.out.2.2.2 (by omega) hcap (by unfold maxLen; omega) (by omega) rfl rfl HLV.out (.agg t.cells.toArray) (fun a' w' t5 hot hb => load_op (hot 5 (by decide)) rfl hHT.out hb Try.underlying26 rfl (by kernel_rfl)) bsT0 (bsT1 t) ?_
                    intro z0 z1 z2 z3 z4 z5 z6 z7 z8 z9 z10 z11 w9 b9 o9
                    simp only [Act.put, List.setIfInBounds_toArray, List.set_cons_zero, List.set_cons_succ]
                    have H9 := Lib.hid (And.intro b9 o9)
                    clear b9 o9
                    go_wp2_with fail
                    go_roundw
                    case rel =>
                      obtain ⟨hb, hown, hsn, hnf⟩ := HH.out
                      have hrk : refTo l (k + 1) = (refTo l k).take m ++ t :: (refTo l k).drop m := by rw [hsn, HM.out.2.2, HQ.out]; exact HE.out
                      have hrl2 : ((refTo l k).take m ++ t :: (refTo l k).drop m).length = m + 1 := by simp; omega
                      have h1 := hb.trans (HB5.out.mono hb.size)
                      refine ⟨k + 1, by go_num, by omega, ?_, h1.trans (H9.out.1.mono h1.size)⟩
                      rw [hrk, hrl2]
                      exact World.ownsRow.mono H9.out.2 h1.size
                    case measure => simp [intOf]; omega
              · have HQ := Lib.hid hq
                clear hq hb2 ht hFl
                go_wp2_with fail
                go_roundw
                case rel =>
                  obtain ⟨hb, hown, hsn, hnf⟩ := HH.out
                  have hrk : refTo l (k + 1) = refTo l k := by rw [hsn, HM.out.2.2, HQ.out]; rfl
                  refine ⟨k + 1, by go_num, by omega, ?_, hb.trans (HL.out.1.mono hb.size)⟩
                  rw [hrk, hnf]
                  exact own_below hown HL.out.1
                case measure => simp [intOf]; omega
    · have hk2 : k = l.length := by omega
      subst hk2
      have HH := Lib.hid (And.intro hown hb)
      have q2 : decide ((l.length : Int) < (l.length : Int)) = false := decide_eq_false (by omega)
      clear hown hb
      go_wp2_with fail
      go_ret
      exact ⟨_, rfl, by rw [← hrf.out]; exact HH.out.1, HH.out.2⟩
end Go.Proofs.Ytfhlgdidobecaaa
namespace Go.Proofs.Ytfhlgdidobecaaa
open Go Go.RowKit

def beyB (l : List Tm) (t : Tm) : Bool := l.any fun u => u.le t
set_option maxRecDepth 100000 in
set_option maxHeartbeats 3200000 in
theorem rbeyond_any (A : Option Addr) (c : Nat) (l : List Tm) (t : Tm) (w : World) (hl : Times w w.heap.size A l) (hn : l.length ≤ maxLen) :
    Calls Try.prog 12 #[.slice A l.length c, .agg #[.int .u64 (t.e : Int), .int .u64 (t.a : Int), .int .u64 (t.b : Int)]] w fun e w' => e = .returned (.bool (beyB l t)) ∧ Below w.heap.size w w' := by
  obtain ⟨V, hV, hvb, hvs, hvo⟩ := tm_box w t
  have z1 := fun (s : Tm) W => Lib.hid (refAhead_any s t W)
  unfold Tm.val at z1
  unfold maxLen at hn
  have HV := Lib.hid (And.intro hvb hvo)
  have HL := Lib.hid (hl.past hvb (Nat.le_refl _) |>.wide hvb.size)
  clear hl hvb hvo hvs
  go_enter Try.func12, Try.ntmps12
  go_upto_region 1 with fail
  rw [← hV]
  clear hV
  go_wp2_with fail
  go_loopw [9] (fun v9 wr => ∃ k : Nat, v9 = .int .i64 (k : Int) ∧ k ≤ l.length ∧ beyB (l.take k) t = false ∧ Below V.heap.size V wr) (fun v9 _ => l.length - (intOf v9).toNat)
  case atStart => exact ⟨0, rfl, by omega, rfl, Below.refl _ _⟩
  case round =>
    obtain ⟨k, rfl, hk, hno, hb⟩ := hrel
    obtain ⟨wi, hwi⟩ : ∃ wi, wi = wr := ⟨_, rfl⟩
    subst hwi
    by_cases hlt : k < l.length
    · have hx : l[k]? = some l[k] := List.getElem?_eq_getElem hlt
      generalize l[k] = u at *
      obtain ⟨b, o, rfl, hB, hcell⟩ := HL.out (by omega)
      obtain ⟨c0, c1, c2⟩ := (hcell k u hx).past hb hB
      obtain ⟨W, hW, hWb, hWs, hWo⟩ := tm_box wi u
      have ho3 := (HV.out.2.past hb HV.out.2.inside).past hWb (HV.out.2.past hb HV.out.2.inside).inside
      have z2 := fun W => z1 u W
      obtain ⟨B, hB'⟩ : ∃ B, u.le t = B := ⟨_, rfl⟩
      rw [hB'] at z2
      have hstep : beyB (l.take (k + 1)) t = B := by unfold beyB at *; rw [List.take_add_one, hx, List.any_append, hno, ← hB']; simp
      have hyes : B = true → beyB l t = true := fun h => by unfold beyB; rw [List.any_eq_true]; exact ⟨u, List.mem_of_getElem? hx, hB'.trans h⟩
      have HO := Lib.hid (And.intro (hb.trans (hWb.mono hb.size)) (And.intro hWo (And.intro ho3 (And.intro hstep hyes))))
      have q0 : (0 : Int) ≤ (k : Int) := by omega
      have q1 : (k : Int) < (l.length : Int) := by omega
      have q2 : decide ((k : Int) < (l.length : Int)) = true := decide_eq_true q1
      clear hno hb hx hcell hWb hWs hWo ho3 hB' hstep hyes
      go_upto_region 4 with fail
      rw [← hW]
      clear hW c0 c1 c2
      obtain ⟨e0, e1, e2⟩ := own3 HO.out.2.1
      obtain ⟨d0, d1, d2⟩ := own3 HO.out.2.2.1
      go_wp2_with fail
      refine (z2 _).out.mono ?_
      rintro _ w3 ⟨rfl, b3⟩
      have H3 := Lib.hid (HO.out.1.trans (b3.mono HO.out.1.size))
      clear b3 z2 e0 e1 e2 d0 d1 d2
      cases B with
      | false =>
        go_wp2_with fail
        go_roundw
        case rel => exact ⟨k + 1, by go_num, by omega, HO.out.2.2.2.1, H3.out⟩
        case measure => simp [intOf]; omega
      | true =>
        go_wp2_with fail
        go_ret
        exact ⟨ret_bool (HO.out.2.2.2.2 (by first | trivial | rfl)).symm, HV.out.1.trans (H3.out.mono HV.out.1.size)⟩
    · have hk2 : k = l.length := by omega
      subst hk2
      rw [List.take_length] at hno
      have HO := Lib.hid (And.intro hno hb)
      have q2 : decide ((l.length : Int) < (l.length : Int)) = false := decide_eq_false (by omega)
      clear hno hb
      go_wp2_with fail
      go_ret
      exact ⟨ret_bool HO.out.1.symm, HV.out.1.trans (HO.out.2.mono HV.out.1.size)⟩
end Go.Proofs.Ytfhlgdidobecaaa
namespace Go.Proofs.Ytfhlgdidobecaaa
open Go Go.RowKit

/-- what t makes with the first k of l -/
def supTo (t : Tm) (l : List Tm) (k : Nat) : List Tm := (l.take k).map (t.sup ·)
theorem supTo_snoc {t s : Tm} {l : List Tm} {k : Nat} (h : l[k]? = some s) : supTo t l (k + 1) = supTo t l k ++ [t.sup s] := by
  unfold supTo; rw [List.take_add_one, h]; simp
theorem supTo_all (t : Tm) (l : List Tm) : supTo t l l.length = l.map (t.sup ·) := by unfold supTo; rw [List.take_length]
theorem supTo_len {t : Tm} {l : List Tm} {k : Nat} (h : k ≤ l.length) : (supTo t l k).length = k := by simp [supTo]; omega

set_option maxRecDepth 100000 in
set_option maxHeartbeats 1600000 in
theorem refAdvance_any (t : Tm) (A : Option Addr) (c : Nat) (l : List Tm) (w : World) (hl : Times w w.heap.size A l) (hn : l.length * 24 ≤ 140737488351232) :
    Calls Try.prog 14 #[t.val, .slice A l.length c] w fun e w' => e = .returned (adv t l).val ∧ Below w.heap.size w w' := by
  by_cases h0 : l.length = 0
  · obtain rfl := List.eq_nil_of_length_eq_zero h0
    unfold Tm.val adv
    clear h0
    go_enter Try.func14, Try.ntmps14
    go_wp2_with fail
    refine bodyPost_ret (v := .agg #[.int .u64 (t.e : Int), .int .u64 (t.a : Int), .int .u64 (t.b : Int)]) (by simp [results, Try.results14, go_sem]) rfl ⟨rfl, ?_⟩
    exact ((Below.refl _ _).alloc (Nat.le_refl _) _).alloc (by simp) _
  · rw [adv_glb t l (by omega)]
    obtain ⟨i0, hi, hz0, hz1, hz2⟩ := info_parts infoTm
    have h00 : ((l.length : Int) == 0) = false := by rw [beq_eq_false_iff_ne]; omega
    have Hl := Lib.hid hl
    clear hl h0
    have hU := Try.underlying22
    have hlub := fun (s t : Tm) A W h => Lib.hid (refLub_any A 2 [s, t] W h (by unfold maxLen; simp))
    have hglb := fun A c (m : List Tm) W h hm => Lib.hid (refGlb_any A c m W h hm)
    unfold Tm.val at hlub hglb ⊢
    unfold maxLen at hglb
    go_enter Try.func14, Try.ntmps14
    go_wp2_with fail
    go_loopw [5, 14] (fun v i wr => ∃ k : Nat, i = .int .i64 (k : Int) ∧ k ≤ l.length ∧ Below w.heap.size w wr ∧ Own wr w.heap.size 26 t.cells ∧ Own wr (w.heap.size + 1) 26 [.int .u64 0, .int .u64 0, .int .u64 0] ∧
        wr.ownsRow (w.heap.size + 1 + 1) 26 3 v k ((supTo t l k).flatMap Tm.cells))
      (fun _ i _ => l.length - (intOf i).toNat)
    case atStart =>
      refine ⟨0, rfl, by omega, ((Below.refl _ _).alloc (Nat.le_refl _) _).alloc (by simp) _, ?_, ?_, World.ownsRow_nil _ _ _ _⟩
      · have := (Own.made w 26 t.cells).more (.cells #[.int .u64 0, .int .u64 0, .int .u64 0] 26)
        simpa [Tm.cells] using this
      · have := Own.made (w.alloc (.cells #[.int .u64 (t.e : Int), .int .u64 (t.a : Int), .int .u64 (t.b : Int)] 26)) 26 [.int .u64 0, .int .u64 0, .int .u64 0]
        simpa using this
    case round =>
      obtain ⟨k, rfl, hk, fb, ft, fr, hown⟩ := hrel
      have hsz := fr.inside
      by_cases hlt : k < l.length
      · have hx : l[k]? = some l[k] := List.getElem?_eq_getElem hlt
        obtain ⟨b, o, rfl, hB, hl⟩ := Hl.out (by omega)
        obtain ⟨c0, c1, c2⟩ := (hl k _ hx).past fb hB
        have hsn := supTo_snoc (t := t) hx
        generalize l[k] = y at *
        have t0 := ft.at_ 0
        have t1 := ft.at_ 1
        have t2 := ft.at_ 2
        simp only [Tm.cells, List.getElem?_cons_zero, List.getElem?_cons_succ] at t0 t1 t2
        have HR := Lib.hid (And.intro fb (And.intro ft (And.intro fr (And.intro hown (And.intro hsn hx)))))
        have hB2 : b < wr.heap.size := by have := fb.size; omega
        have hN2 : w.heap.size < wr.heap.size := by omega
        clear fb ft fr hsn hx hl hown
        go_wp2_with fail
        refine (hlub t y _ _ (times_here (times_two' _ _ (by simp)) (by simp))).out.mono ?_
        rintro e w1 ⟨rfl, hb⟩
        obtain ⟨fb, ft, fr, hown, hsn, hx⟩ := HR.out
        have h1 : Below wr.heap.size wr w1 := by
          refine below_then ?_ (by simp) hb
          repeat (first | exact Below.refl _ _ | refine Below.drew ?_ | refine Below.alloc ?_ (by first | (simp; done) | (simp; omega)) _)
        have hown1 := own_below hown h1
        have fb1 : Below w.heap.size w w1 := fb.trans (h1.mono fb.size)
        have ft1 := ft.past h1 hN2
        have fr1 := fr.past h1 hsz
        have hz := h1.size
        have H1 := Lib.hid (And.intro fb1 (And.intro ft1 fr1))
        clear fb ft fr hown hsn hx hb h1 fb1 ft1 fr1
        go_wp2_with (at_builtin; refine wpList_push _ rfl _ _ 22 rfl (w.heap.size + 1 + 1) 26 i0 _ 3 24 hU hi hz0 hz1 hz2 rfl (by decide) _ _ _ rfl hown1 _ rfl rfl ?c1 ?c2 ?c3 ?c4 ?_)
        case c1 => exact ⟨rfl, rfl, rfl⟩
        case c2 => unfold maxLen; omega
        case c3 => omega
        case c4 => omega
        intro v' w' ho' hb' _ _
        obtain ⟨fb1, ft1, fr1⟩ := H1.out
        obtain ⟨fb, ft, fr, hown, hsn, hx⟩ := HR.out
        have HR2 := Lib.hid (And.intro hsn (And.intro fb1 (And.intro ft1 (And.intro fr1 (And.intro ho' hb')))))
        clear fb ft fr hown hsn hx fb1 ft1 fr1 ho' hb' hown1
        go_wp2
        obtain ⟨hsn, fb1, ft1, fr1, ho', hb'⟩ := HR2.out
        go_roundw
        case rel =>
          refine ⟨k + 1, by go_num, by omega, fb1.trans (hb'.mono (by omega)), ft1.past hb' (by omega), fr1.past hb' (by omega), ?_⟩
          rw [hsn, ← flatT_snoc]
          exact ho'
        case measure => simp [intOf]; omega
      · have hk2 : k = l.length := by omega
        subst hk2
        have hsl := supTo_len (t := t) (Nat.le_refl l.length)
        obtain ⟨A', c', rfl, hc', _, ht⟩ := times_of_own hsl.symm hown
        have g0 := fr.open_ 0
        have g1 := fr.open_ 1
        have g2 := fr.open_ 2
        have e0 := fr.at_ 0
        have e1 := fr.at_ 1
        have e2 := fr.at_ 2
        simp only [List.getElem?_cons_zero, List.getElem?_cons_succ] at e0 e1 e2
        have hcall := hglb A' c' _ wr ht (by rw [hsl]; omega)
        rw [supTo_all] at hcall
        rw [hsl] at hc'
        rw [List.length_map] at hcall
        generalize hg : glb (l.map (t.sup ·)) = g at hcall
        have H1 := Lib.hid (And.intro hg (And.intro fb fr))
        rw [hsl]
        clear fb ft fr hown ht hg hsl
        go_wp2_with fail
        refine hcall.out.mono ?_
        rintro e w1 ⟨rfl, h1⟩
        obtain ⟨hg, fb, fr⟩ := H1.out
        have fr1 := fr.past h1 hsz
        have g0 := fr1.open_ 0
        have g1 := fr1.open_ 1
        have g2 := fr1.open_ 2
        have e0 := fr1.at_ 0
        have e1 := fr1.at_ 1
        have e2 := fr1.at_ 2
        simp only [List.getElem?_cons_zero, List.getElem?_cons_succ] at e0 e1 e2
        obtain ⟨d0, d1, d2⟩ := fr1.stored3 (.int .u64 (g.e : Int)) (.int .u64 (g.a : Int)) (.int .u64 (g.b : Int))
        have H2 := Lib.hid (And.intro hg (And.intro (fb.trans (h1.mono fb.size)) (And.intro d0 (And.intro d1 d2))))
        clear fb fr fr1 hg h1 d0 d1 d2
        go_wp2_with fail
        obtain ⟨hg, hb, d0, d1, d2⟩ := H2.out
        refine bodyPost_ret (v := g.val) (by simp [results, Try.results14, go_sem, d0, d1, d2, Tm.val]) rfl ⟨congrArg (fun g : Tm => Ending.returned g.val) hg.symm, below_set3 hb (by omega) _ _ _⟩
end Go.Proofs.Ytfhlgdidobecaaa
namespace Go.Proofs.Ytfhlgdidobecaaa
open Go Go.RowKit

theorem frontL_len' (l : List Tm) : (frontL l).length ≤ l.length := Nat.le_trans (frontTo_len (sortT l) (sortT l).length (Nat.le_refl _)) (by rw [sortT_len]; exact Nat.le_refl _)
set_option maxRecDepth 100000 in
set_option maxHeartbeats 12800000 in
theorem fronts_walk (A : Option Addr) (c : Nat) (l : List Tm) (t : Tm) (w : World) (hl : Times w w.heap.size A l) (hc : l.length ≤ c) (hn : l.length * 24 ≤ 140737488351232) (hm : c ≤ maxLen) :
    Calls Try.prog 3 #[.slice A l.length c, t.val] w fun e w' => e = .returned (.bool true) ∧ Below w.heap.size w w' := by
  have hfl := frontL_len' l
  obtain ⟨V, hV, hvb, hvs, hvo⟩ := tm_box w t
  have y0 := fun W => Lib.hid (fronts_true W)
  have f1 := fun W (hb : Below w.heap.size w W) => Lib.hid (front_any A c l W (times_keep hl hb) hn)
  have f2 := fun W (hb : Below w.heap.size w W) => Lib.hid (refFront_any A c l W (times_keep hl hb) hn)
  have s1 := fun A1 A2 k1 k2 W h1 h2 => Lib.hid (same_any A1 A2 k1 k2 (frontL l) (frontL l) W h1 h2 (by unfold maxLen; omega) (by unfold maxLen; omega))
  have hdt : decide (frontL l = frontL l) = true := by simp
  rw [hdt] at s1
  have g1 := fun W (hb : Below w.heap.size w W) => Lib.hid (beyond_any A c l t W (times_keep hl hb) (by unfold maxLen; omega))
  have g2 := fun W (hb : Below w.heap.size w W) => Lib.hid (rbeyond_any A c l t W (times_keep hl hb) (by unfold maxLen; omega))
  have hbb : beyB l t = beyond l t := rfl
  rw [hbb] at g2
  have a1 := fun W (hb : Below w.heap.size w W) => Lib.hid (advance_any t A c l W (times_keep hl hb) hc hm)
  have a2 := fun W (hb : Below w.heap.size w W) => Lib.hid (refAdvance_any t A c l W (times_keep hl hb) hn)
  generalize beyond l t = B at *
  generalize adv t l = s at *
  unfold Tm.val at *
  have tB : (B == B) = true := by simp
  have hgd := fun (x1 y1 : Operand) (xs ys : Array Value) (w : World) => grd_time .eql x1 y1 xs ys w
  have eqs : ∀ W, (binOp .eql 26 (.agg #[.int .u64 (s.e : Int), .int .u64 (s.a : Int), .int .u64 (s.b : Int)]) (.agg #[.int .u64 (s.e : Int), .int .u64 (s.a : Int), .int .u64 (s.b : Int)])).run Try.prog W = .ok (.bool true) W := fun W => by
    have := eql_time s s W
    rw [show eqT s s = true from by simp [eqT]] at this
    exact this
  have HV := Lib.hid (And.intro hvb hvo)
  have HB := Lib.hid hvb
  have HF := Lib.hid True.intro
  have HG := Lib.hid True.intro
  clear hl hdt hbb hfl hvb hvs hvo
  go_enter Try.func3, Try.ntmps3
  go_upto_region 1 with fail
  rw [← hV]
  clear hV
  have HO := Lib.hid (show Own V.drew w.heap.size 26 t.cells from HV.out.2)
  have HB := Lib.hid HV.out.1.drew
  obtain ⟨d0, d1, d2⟩ := own3 HO.out
  go_region_with (first
    | (go_at_call 7; refine (y0 _).out.mono ?_; rintro _ _ ⟨rfl, b⟩; have HO := Lib.hid (HO.out.past b HO.out.inside); clear d0 d1 d2; obtain ⟨d0, d1, d2⟩ := own3 HO.out; have HB := Lib.hid (belows HB.out b); clear b)
    | (go_at_call 9; refine (f1 _ HB.out).out.mono ?_; rintro _ _ ⟨v1, rfl, ho, b⟩; obtain ⟨A1, c1, rfl, _, _, ht⟩ := times_of_own rfl ho; clear ho; have HF := Lib.hid ht; (first | (have HG := Lib.hid (times_keep HG.out b)) | skip); clear ht; have HO := Lib.hid (HO.out.past b HO.out.inside); clear d0 d1 d2; obtain ⟨d0, d1, d2⟩ := own3 HO.out; have HB := Lib.hid (belows HB.out b); clear b)
    | (go_at_call 10; refine (f2 _ HB.out).out.mono ?_; rintro _ _ ⟨v1, rfl, ho, b⟩; obtain ⟨A1, c1, rfl, _, _, ht⟩ := times_of_own rfl ho; clear ho; have HG := Lib.hid ht; (first | (have HF := Lib.hid (times_keep HF.out b)) | skip); clear ht; have HO := Lib.hid (HO.out.past b HO.out.inside); clear d0 d1 d2; obtain ⟨d0, d1, d2⟩ := own3 HO.out; have HB := Lib.hid (belows HB.out b); clear b)
    | (go_at_call 8; refine (s1 _ _ _ _ _ HF.out HG.out).out.mono ?_; rintro _ _ ⟨rfl, b⟩; have HO := Lib.hid (HO.out.past b HO.out.inside); clear d0 d1 d2; obtain ⟨d0, d1, d2⟩ := own3 HO.out; have HB := Lib.hid (belows HB.out b); clear b)
    | (go_at_call 11; refine (g1 _ HB.out).out.mono ?_; rintro _ _ ⟨rfl, b⟩; have HO := Lib.hid (HO.out.past b HO.out.inside); clear d0 d1 d2; obtain ⟨d0, d1, d2⟩ := own3 HO.out; have HB := Lib.hid (belows HB.out b); clear b)
    | (go_at_call 12; refine (g2 _ HB.out).out.mono ?_; rintro _ _ ⟨rfl, b⟩; have HO := Lib.hid (HO.out.past b HO.out.inside); clear d0 d1 d2; obtain ⟨d0, d1, d2⟩ := own3 HO.out; have HB := Lib.hid (belows HB.out b); clear b)
    | (go_at_call 13; refine (a1 _ HB.out).out.mono ?_; rintro _ _ ⟨rfl, b⟩; have HO := Lib.hid (HO.out.past b HO.out.inside); clear d0 d1 d2; obtain ⟨d0, d1, d2⟩ := own3 HO.out; have HB := Lib.hid (belows HB.out b); clear b)
    | (go_at_call 14; refine (a2 _ HB.out).out.mono ?_; rintro _ _ ⟨rfl, b⟩; have HO := Lib.hid (HO.out.past b HO.out.inside); clear d0 d1 d2; obtain ⟨d0, d1, d2⟩ := own3 HO.out; have HB := Lib.hid (belows HB.out b); clear b))
  all_goals (go_wp2_with fail; go_ret; exact ⟨rfl, HB.out⟩)
end Go.Proofs.Ytfhlgdidobecaaa
