/- Part 4 of the texts on which TopStamped rests: facts and contracts. -/
import Derived.Test.YtammngncmkhokaaTopStampedM3
import Derived.Deep.MidRow
import Derived.Test.YtammngncmkhokaaProg
import Derived.Deep.Draws
import Derived.Deep.RegionLaw
import Derived.Outline
import Derived.Handy
import Derived.Test.YtammngncmkhokaaShelf
import Derived.Deep.Cut
import Derived.Deep.DeepCutAuto
import Derived.BigQuiet
import Derived.Deep.RegionHeld3
import Derived.Lib.SlBuf
namespace Go.Proofs.Ytammngncmkhokaa
open Go Go.RowKit

/-- the operations of the region -/
abbrev twoOps (T1 E1 T2 TI TP E2 : TypeId) (d0 d1 d2 d3 d4 d5 d6 d7 d8 d9 d10 s1 s2 sr sa si : Tmp) (p : String) : List Oper :=
  [{ dst := some d0, op := .move (.tmp s1), type := T1, pos := p, after := #[], guard := none },
   { dst := some d1, op := .move (.tmp sr), type := E1, pos := p, after := #[], guard := none },
   { dst := some d2, op := .buildSlice T1 1 #[(0, .tmp d1)], type := T1, pos := p, after := #[{ on := 1, ground := .data }], guard := none },
   { dst := some d3, op := .call { callee := .builtin .append, args := #[.tmp d0, .tmp d2], argTypes := #[T1, T1] }, type := T1, pos := p, after := #[{ on := 0, ground := .data }, { on := 2, ground := .data }], guard := none },
   { dst := some d4, op := .move (.tmp s2), type := T2, pos := p, after := #[], guard := none },
   { dst := some d5, op := .move (.tmp sa), type := T2, pos := p, after := #[], guard := none },
   { dst := some d6, op := .move (.tmp si), type := TI, pos := p, after := #[], guard := none },
   { dst := some d7, op := .indexAddr T2 (.tmp d5) (.tmp d6), type := TP, pos := p, after := #[{ on := 5, ground := .data }, { on := 6, ground := .data }], guard := none },
   { dst := some d8, op := .load E2 (.tmp d7), type := E2, pos := p, after := #[{ on := 7, ground := .data }], guard := none },
   { dst := some d9, op := .buildSlice T2 1 #[(0, .tmp d8)], type := T2, pos := p, after := #[{ on := 8, ground := .data }], guard := none },
   { dst := some d10, op := .call { callee := .builtin .append, args := #[.tmp d4, .tmp d9], argTypes := #[T2, T2] }, type := T2, pos := p, after := #[{ on := 4, ground := .data }, { on := 9, ground := .data }, { on := 3, ground := .chain }], guard := none },
   { dst := some s1, op := .assign (.tmp d3), type := T1, pos := p, after := #[{ on := 3, ground := .data }, { on := 10, ground := .chain }, { on := 0, ground := .phase }, { on := 1, ground := .phase }, { on := 2, ground := .phase }, { on := 3, ground := .phase }, { on := 4, ground := .textOnly .lateStores }, { on := 5, ground := .textOnly .lateStores }, { on := 6, ground := .textOnly .lateStores }, { on := 7, ground := .textOnly .lateStores }, { on := 8, ground := .textOnly .lateStores }, { on := 9, ground := .textOnly .lateStores }, { on := 10, ground := .textOnly .lateStoresUnsure }], guard := none },
   { dst := some s2, op := .assign (.tmp d10), type := T2, pos := p, after := #[{ on := 10, ground := .data }, { on := 11, ground := .chain }, { on := 0, ground := .phase }, { on := 1, ground := .phase }, { on := 2, ground := .phase }, { on := 3, ground := .phase }, { on := 4, ground := .phase }, { on := 5, ground := .phase }, { on := 6, ground := .phase }, { on := 7, ground := .phase }, { on := 8, ground := .phase }, { on := 9, ground := .phase }, { on := 10, ground := .phase }, { on := 11, ground := .phase }], guard := none }]
/-- what holds while they come up -/
structure TwoG (V : World) (base : Nat) (E1 E2 : TypeId) (size : Nat) (v1 : Value) (n1 : Nat) (xs1 : List Value) (v2 : Value) (n2 : Nat) (xs2 : List Value) (R A I PX X : Value) (cs : List Value) (x0 x1 x2 x3 x4 x5 x6 x7 x8 x9 x10 x11 x12 : Option Value) (w : World) : Prop where
  below : Below base V w
  m0 : ∀ v, x0 = some v → v = v1
  m1 : ∀ v, x1 = some v → v = R
  m4 : ∀ v, x4 = some v → v = v2
  m5 : ∀ v, x5 = some v → v = A
  m6 : ∀ v, x6 = some v → v = I
  m7 : ∀ v, x7 = some v → v = PX
  m8 : ∀ v, x8 = some v → v = X
  o1 : x3 = none → w.ownsRow base E1 1 v1 n1 xs1
  o2 : x10 = none → w.ownsRow base E2 size v2 n2 xs2
  b2 : ∀ v, x2 = some v → x3 = none → ∃ g, v = .slice (some ⟨g, 0, none⟩) 1 1 ∧ Own w g E1 [R]
  b9 : ∀ v, x9 = some v → x10 = none → ∃ g, v = .slice (some ⟨g, 0, none⟩) 1 1 ∧ Own w g E2 cs ∧ v1.ownBlock ≠ some g
  r3 : ∀ v, x3 = some v → w.ownsRow base E1 1 v (n1 + 1) (xs1 ++ [R]) ∧ ∀ b, v.ownBlock = some b → v2.ownBlock ≠ some b
  r10 : ∀ v, x10 = some v → w.ownsRow base E2 size v (n2 + 1) (xs2 ++ cs) ∧ ∀ u, x3 = some u → ∀ b, u.ownBlock = some b → v.ownBlock ≠ some b
  a11 : ∀ v, x11 = some v → x3 = some v
  a12 : ∀ v, x12 = some v → x10 = some v
section
variable {P : Program}
/-- an element lies in a block of its own and is appended -/
theorem step_app1 {Q : Exit → Act → World → Prop} (w : World) {ops : Array Oper} {o : Oper} {a : Act} {K : Act → World → Prop} {E : Prop} (hgd : o.guard = none) (s x : Operand) (t e : TypeId)
    (ho : o.op = .call { callee := .builtin .append, args := #[s, x], argTypes := #[t, t] })
    (i0 : TypeInfo) (z : Value) (size bytes : Nat) (ht : P.underlying t = some (.slice e)) (hi : P.info? e = some i0) (hz0 : i0.zero = some z) (hz1 : i0.size = size) (hz2 : i0.bytes = bytes) (hzs : z.cells.size = size) (hpos : 0 < size)
    (base : Nat) (v : Value) (n : Nat) (xs : List Value) (hs : a.eval s = v) (hown : w.ownsRow base e size v n xs)
    (g : Nat) (news : List Value) (hl : news.length = size) (hone : ∀ u ∈ news, u.oneCell' = true) (hx : a.eval x = .slice (some ⟨g, 0, none⟩) 1 1) (hg : Own w g e news) (h63 : n + 1 ≤ maxLen) (hn : (n + 1) * bytes ≤ 140737488355328) (hbase : base ≤ w.heap.size)
    (h : ∀ v' w', w'.ownsRow base e size v' (n + 1) (xs ++ news) → Below base w w' → (v'.ownBlock = v.ownBlock ∨ v'.ownBlock = some w.heap.size) → w.grownBy w' v.ownBlock → K (a.put o.dst v') w') :
    if Region.wanted o (yielded ops a.tmps) = true then Oper.wp P o a w K Q else E := by
  have hc : ∀ j u, news[j]? = some u → w.cell? ((⟨g, 0, none⟩ : Addr).add j) = some u := by
    intro j u hu
    have : (⟨g, 0, none⟩ : Addr).add j = ⟨g, j, none⟩ := by unfold Addr.add; split <;> simp_all
    rw [this, hg.at_ j]
    exact hu
  obtain ⟨v', w', hrun, ho', hgr, _, hat⟩ := run_append_own_at (P := P) w base t o.type e i0 z size bytes ht hi hz0 hz1 hz2 hzs hpos v n xs hown
    ⟨g, 0, none⟩ 1 1 news (by simpa using hl) hc hone h63 hn hbase
  refine step_value (v := v') (w' := w') hgd ?_ (h v' w' ho' ((Below.refl base w).grown hgr hbase (fun k hk => (hown.lt k hk).1)) (by simpa using hat) hgr)
  unfold execOp
  simp only [ho, resolve, invoke, builtin, Sem.run_bind, Sem.run_pure, Result.andThen_ok, List.map_toArray, List.map_cons, List.map_nil, hs, hx, hrun]
set_option maxRecDepth 100000 in
set_option maxHeartbeats 3200000 in
/-- **the two appends**, in whatever order -/
theorem wp_two {id : Nat} {Q : Exit → Act → World → Prop} {a : Act} {V : World} (hm : P.follows .mixedOrders = true) {T1 E1 T2 TI TP E2 : TypeId} {d0 d1 d2 d3 d4 d5 d6 d7 d8 d9 d10 s1 s2 sr sa si : Tmp} {p : String}
    (hd : ([d0, d1, d2, d3, d4, d5, d6, d7, d8, d9, d10, s1, s2] : List Tmp).Nodup) (hsr : sr ∉ ([d0, d1, d2, d3, d4, d5, d6, d7, d8, d9, d10, s1, s2] : List Tmp)) (hsa : sa ∉ ([d0, d1, d2, d3, d4, d5, d6, d7, d8, d9, d10, s1, s2] : List Tmp)) (hsi : si ∉ ([d0, d1, d2, d3, d4, d5, d6, d7, d8, d9, d10, s1, s2] : List Tmp)) (nt : Nat) (hnt : a.tmps.size = nt) (hsz : ∀ d ∈ ([d0, d1, d2, d3, d4, d5, d6, d7, d8, d9, d10, s1, s2] : List Tmp), d < nt)
    (base : Nat) (hbV : base ≤ V.heap.size)
    (i1 : TypeInfo) (z1 : Value) (bytes1 : Nat) (ht1 : P.underlying T1 = some (.slice E1)) (hi1 : P.info? E1 = some i1) (hz10 : i1.zero = some z1) (hz11 : i1.size = 1) (hz12 : i1.bytes = bytes1) (hz1s : z1.cells.size = 1)
    (i2 : TypeInfo) (z2 : Value) (size bytes2 : Nat) (ht2 : P.underlying T2 = some (.slice E2)) (hi2 : P.info? E2 = some i2) (hz20 : i2.zero = some z2) (hz21 : i2.size = size) (hz22 : i2.bytes = bytes2) (hz2s : z2.cells.size = size) (hpos : 0 < size)
    (v1 : Value) (n1 : Nat) (xs1 : List Value) (hv1 : a.eval (.tmp s1) = v1) (ho1 : V.ownsRow base E1 1 v1 n1 xs1) (h163 : n1 + 1 ≤ maxLen) (hby1 : (n1 + 1) * bytes1 ≤ 140737488355328)
    (v2 : Value) (n2 : Nat) (xs2 : List Value) (hv2 : a.eval (.tmp s2) = v2) (ho2 : V.ownsRow base E2 size v2 n2 xs2) (h263 : n2 + 1 ≤ maxLen) (hby2 : (n2 + 1) * bytes2 ≤ 140737488355328)
    (hoff : ∀ b, v1.ownBlock = some b → v2.ownBlock ≠ some b)
    (R : Value) (hR : a.eval (.tmp sr) = R) (hR1 : R.oneCell' = true)
    (b' o' n' c' k : Nat) (hA : a.eval (.tmp sa) = .slice (some ⟨b', o', none⟩) n' c') (hI : a.eval (.tmp si) = .int .i64 (k : Int)) (hk : k < n') (cs : List Value) (hcs : cs.length = size) (hone : ∀ u ∈ cs, u.oneCell' = true)
    (hb' : b' < base) (hcells : V.rangeAt b' (o' + k * size) cs) (d : TypeDesc) (hu : P.underlying E2 = some d) (hdr : d.isRow = true)
    (hs1 : ∀ w' : World, (Instr.buildSlice T1 1 #[(0, R)]).run P w' = .ok (.slice (some ⟨w'.heap.size, 0, none⟩) 1 1) (w'.alloc (.cells #[R] E1)))
    (hs2 : ∀ w' : World, (Instr.buildSlice T2 1 #[(0, .agg cs.toArray)]).run P w' = .ok (.slice (some ⟨w'.heap.size, 0, none⟩) 1 1) (w'.alloc (.cells cs.toArray E2)))
    (hend : ∀ (v_0 v_1 v_2 v_3 v_4 v_5 v_6 v_7 v_8 v_9 v_10 : Value) (w' : World), Below base V w' → w'.ownsRow base E1 1 v_3 (n1 + 1) (xs1 ++ [R]) → w'.ownsRow base E2 size v_10 (n2 + 1) (xs2 ++ cs) → (∀ b, v_3.ownBlock = some b → v_10.ownBlock ≠ some b) →
      Q .normal (((((((((((((a.put (some d0) v_0).put (some d1) v_1).put (some d2) v_2).put (some d3) v_3).put (some d4) v_4).put (some d5) v_5).put (some d6) v_6).put (some d7) v_7).put (some d8) v_8).put (some d9) v_9).put (some d10) v_10).put (some s1) v_3).put (some s2) v_10) w') :
    (Code.region id (twoOps T1 E1 T2 TI TP E2 d0 d1 d2 d3 d4 d5 d6 d7 d8 d9 d10 s1 s2 sr sa si p).toArray true).wp P Q a V := by
  subst hnt
  have hdst : (twoOps T1 E1 T2 TI TP E2 d0 d1 d2 d3 d4 d5 d6 d7 d8 d9 d10 s1 s2 sr sa si p).map Oper.dst = ([d0, d1, d2, d3, d4, d5, d6, d7, d8, d9, d10, s1, s2] : List Tmp).map some := rfl
  have hdn : ((twoOps T1 E1 T2 TI TP E2 d0 d1 d2 d3 d4 d5 d6 d7 d8 d9 d10 s1 s2 sr sa si p).map Oper.dst).Nodup := by
    rw [hdst]
    exact List.Pairwise.map some (fun a b h e => h (Option.some.inj e)) hd
  have hte : P.underlying T2 = some (.slice (P.elem T2)) := by rw [ht2]; simp [Program.elem, ht2]
  have hel : P.elem T2 = E2 := by simp [Program.elem, ht2]
  have hsof : ∀ w' : World, (sizeOf (P.elem T2)).run P w' = .ok size w' := fun w' => by rw [hel]; simp [sizeOf, typeInfo, hi2, hz21]
  have hpx : (⟨b', o', none⟩ : Addr).add (k * size) = ⟨b', o' + k * size, none⟩ := by unfold Addr.add; split <;> simp_all
  refine wp_region_steps hm (by kernel_rfl) (by rw [show List.filterMap _root_.id ((twoOps T1 E1 T2 TI TP E2 d0 d1 d2 d3 d4 d5 d6 d7 d8 d9 d10 s1 s2 sr sa si p).map Oper.dst) = [d0, d1, d2, d3, d4, d5, d6, d7, d8, d9, d10, s1, s2] from rfl]; exact hd)
    (fun vals w' => ∃ x0 x1 x2 x3 x4 x5 x6 x7 x8 x9 x10 x11 x12 : Option Value, vals = [x0, x1, x2, x3, x4, x5, x6, x7, x8, x9, x10, x11, x12] ∧ TwoG V base E1 E2 size v1 n1 xs1 v2 n2 xs2 R (.slice (some ⟨b', o', none⟩) n' c') (.int .i64 (k : Int)) (.pointer (some ⟨b', o' + k * size, none⟩)) (.agg cs.toArray) cs x0 x1 x2 x3 x4 x5 x6 x7 x8 x9 x10 x11 x12 w') ?h0 ?hs ?he
  case h0 => exact ⟨none, none, none, none, none, none, none, none, none, none, none, none, none, rfl, ⟨(Below.refl _ _).drew, (fun _ hv => by cases hv), (fun _ hv => by cases hv), (fun _ hv => by cases hv), (fun _ hv => by cases hv), (fun _ hv => by cases hv), (fun _ hv => by cases hv), (fun _ hv => by cases hv), fun _ => own_below ho1 (Below.refl _ _).drew, fun _ => own_below ho2 (Below.refl _ _).drew, (fun _ hv _ => by cases hv), (fun _ hv _ => by cases hv), (fun _ hv => by cases hv), (fun _ hv => by cases hv), (fun _ hv => by cases hv), (fun _ hv => by cases hv)⟩⟩
  case he =>
    rintro vs w' hvs ⟨x0, x1, x2, x3, x4, x5, x6, x7, x8, x9, x10, x11, x12, hx, h⟩
    match vs, hvs, hx with
    | [v_0, v_1, v_2, v_3, v_4, v_5, v_6, v_7, v_8, v_9, v_10, v_11, v_12], _, hx =>
      simp only [List.map_cons, List.map_nil, List.cons.injEq, and_true] at hx
      obtain ⟨rfl, rfl, rfl, rfl, rfl, rfl, rfl, rfl, rfl, rfl, rfl, rfl, rfl⟩ := hx
      obtain rfl : v_3 = v_11 := Option.some.inj (h.a11 _ rfl)
      obtain rfl : v_10 = v_12 := Option.some.inj (h.a12 _ rfl)
      exact hend v_0 v_1 v_2 v_3 v_4 v_5 v_6 v_7 v_8 v_9 v_10 w' h.below (h.r3 _ rfl).1 (h.r10 _ rfl).1 ((h.r10 _ rfl).2 _ rfl)
  case hs =>
    rintro j o vals w' hoj hc hn hdep ⟨x0, x1, x2, x3, x4, x5, x6, x7, x8, x9, x10, x11, x12, rfl, h⟩ K hK
    have hE : ∀ (k : Nat) (t : Tmp) (v : Value), ([d0, d1, d2, d3, d4, d5, d6, d7, d8, d9, d10, s1, s2] : List Tmp)[k]? = some t → ([x0, x1, x2, x3, x4, x5, x6, x7, x8, x9, x10, x11, x12])[k]? = some (some v) → (putsR (slotsR (twoOps T1 E1 T2 TI TP E2 d0 d1 d2 d3 d4 d5 d6 d7 d8 d9 d10 s1 s2 sr sa si p) [x0, x1, x2, x3, x4, x5, x6, x7, x8, x9, x10, x11, x12]) a).eval (.tmp t) = v := fun k t v hk hv => by
      refine putsR_hit _ a k t v (by rw [slotsR_fst rfl]; exact apartR_of (by rw [show List.filterMap _root_.id ((twoOps T1 E1 T2 TI TP E2 d0 d1 d2 d3 d4 d5 d6 d7 d8 d9 d10 s1 s2 sr sa si p).map Oper.dst) = [d0, d1, d2, d3, d4, d5, d6, d7, d8, d9, d10, s1, s2] from rfl]; exact hd)) ?_ (hsz t (List.mem_of_getElem? hk))
      unfold slotsR
      rw [List.getElem?_zip_eq_some, hdst, List.getElem?_map, hk]
      exact ⟨rfl, hv⟩
    have hM : ∀ t : Tmp, (∀ (k : Nat) (v : Value), ([d0, d1, d2, d3, d4, d5, d6, d7, d8, d9, d10, s1, s2] : List Tmp)[k]? = some t → ([x0, x1, x2, x3, x4, x5, x6, x7, x8, x9, x10, x11, x12])[k]? ≠ some (some v)) → (putsR (slotsR (twoOps T1 E1 T2 TI TP E2 d0 d1 d2 d3 d4 d5 d6 d7 d8 d9 d10 s1 s2 sr sa si p) [x0, x1, x2, x3, x4, x5, x6, x7, x8, x9, x10, x11, x12]) a).eval (.tmp t) = a.eval (.tmp t) := fun t ht => by
      refine putsR_miss _ a t fun v hm => ?_
      obtain ⟨k, h1, h2⟩ := slots_mem hm
      rw [hdst, List.getElem?_map] at h1
      obtain ⟨t', ht', e⟩ := Option.map_eq_some_iff.1 h1
      cases e
      exact ht k v ht' h2
    have hother : ∀ t, t ∉ ([d0, d1, d2, d3, d4, d5, d6, d7, d8, d9, d10, s1, s2] : List Tmp) → (putsR (slotsR (twoOps T1 E1 T2 TI TP E2 d0 d1 d2 d3 d4 d5 d6 d7 d8 d9 d10 s1 s2 sr sa si p) [x0, x1, x2, x3, x4, x5, x6, x7, x8, x9, x10, x11, x12]) a).eval (.tmp t) = a.eval (.tmp t) := fun t ht => hM t fun k v hk => absurd (List.mem_of_getElem? hk) ht
    have hRr := (hother sr hsr).trans hR
    have hAa := (hother sa hsa).trans hA
    have hIi := (hother si hsi).trans hI
    have hS1 : x11 = none → (putsR (slotsR (twoOps T1 E1 T2 TI TP E2 d0 d1 d2 d3 d4 d5 d6 d7 d8 d9 d10 s1 s2 sr sa si p) [x0, x1, x2, x3, x4, x5, x6, x7, x8, x9, x10, x11, x12]) a).eval (.tmp s1) = v1 := fun h11 => (hM s1 fun k v hk hv => by
      have : k = 11 := nodup_at hd hk rfl
      subst this
      rw [h11] at hv
      cases hv).trans hv1
    have hS2 : x12 = none → (putsR (slotsR (twoOps T1 E1 T2 TI TP E2 d0 d1 d2 d3 d4 d5 d6 d7 d8 d9 d10 s1 s2 sr sa si p) [x0, x1, x2, x3, x4, x5, x6, x7, x8, x9, x10, x11, x12]) a).eval (.tmp s2) = v2 := fun h12 => (hM s2 fun k v hk hv => by
      have : k = 12 := nodup_at hd hk rfl
      subst this
      rw [h12] at hv
      cases hv).trans hv2
    have cl : ∀ (p_ q : Nat) (oo : Oper) (gr : Ground) (v : Value), (twoOps T1 E1 T2 TI TP E2 d0 d1 d2 d3 d4 d5 d6 d7 d8 d9 d10 s1 s2 sr sa si p)[p_]? = some oo → ({ on := q, ground := gr } : Edge) ∈ oo.after → Region.binds .any { on := q, ground := gr } = true → ([x0, x1, x2, x3, x4, x5, x6, x7, x8, x9, x10, x11, x12])[p_]? = some (some v) → ∃ u, ([x0, x1, x2, x3, x4, x5, x6, x7, x8, x9, x10, x11, x12])[q]? = some (some u) := fun p_ q oo gr v h1 h2 h3 h4 => hc.closed p_ oo v h1 h4 _ h2 h3
    have c3_2 : ∀ v, x3 = some v → ∃ u, x2 = some u := fun v hv => by obtain ⟨u, hu⟩ := cl 3 2 _ .data v rfl (by simp) rfl (by rw [hv]; rfl); exact ⟨u, Option.some.inj hu⟩
    have c10_3 : ∀ v, x10 = some v → ∃ u, x3 = some u := fun v hv => by obtain ⟨u, hu⟩ := cl 10 3 _ .chain v rfl (by simp) rfl (by rw [hv]; rfl); exact ⟨u, Option.some.inj hu⟩
    have c10_9 : ∀ v, x10 = some v → ∃ u, x9 = some u := fun v hv => by obtain ⟨u, hu⟩ := cl 10 9 _ .data v rfl (by simp) rfl (by rw [hv]; rfl); exact ⟨u, Option.some.inj hu⟩
    have c11_0 : ∀ v, x11 = some v → ∃ u, x0 = some u := fun v hv => by obtain ⟨u, hu⟩ := cl 11 0 _ .phase v rfl (by simp) rfl (by rw [hv]; rfl); exact ⟨u, Option.some.inj hu⟩
    have c11_3 : ∀ v, x11 = some v → ∃ u, x3 = some u := fun v hv => by obtain ⟨u, hu⟩ := cl 11 3 _ .data v rfl (by simp) rfl (by rw [hv]; rfl); exact ⟨u, Option.some.inj hu⟩
    have c11_10 : ∀ v, x11 = some v → ∃ u, x10 = some u := fun v hv => by obtain ⟨u, hu⟩ := cl 11 10 _ .chain v rfl (by simp) rfl (by rw [hv]; rfl); exact ⟨u, Option.some.inj hu⟩
    have c12_4 : ∀ v, x12 = some v → ∃ u, x4 = some u := fun v hv => by obtain ⟨u, hu⟩ := cl 12 4 _ .phase v rfl (by simp) rfl (by rw [hv]; rfl); exact ⟨u, Option.some.inj hu⟩
    have c12_10 : ∀ v, x12 = some v → ∃ u, x10 = some u := fun v hv => by obtain ⟨u, hu⟩ := cl 12 10 _ .data v rfl (by simp) rfl (by rw [hv]; rfl); exact ⟨u, Option.some.inj hu⟩
    have none_of : ∀ {p q : Option Value}, (∀ v, p = some v → ∃ u, q = some u) → q = none → p = none := fun {p q} hpq hq => by
      cases hp : p with
      | none => rfl
      | some v => obtain ⟨u, hu⟩ := hpq v hp; rw [hq] at hu; cases hu
    have dd : ∀ (q : Nat) (gr : Ground) (oo : Oper), o = oo → ({ on := q, ground := gr } : Edge) ∈ oo.after → Region.binds .any { on := q, ground := gr } = true → ∃ u, ([x0, x1, x2, x3, x4, x5, x6, x7, x8, x9, x10, x11, x12])[q]? = some (some u) := fun q gr oo h1 h2 h3 => hdep _ (h1 ▸ h2) h3
    have hv : ∀ (k : Nat) (t : Tmp) (v : Value), ([d0, d1, d2, d3, d4, d5, d6, d7, d8, d9, d10, s1, s2] : List Tmp)[k]? = some t → ([x0, x1, x2, x3, x4, x5, x6, x7, x8, x9, x10, x11, x12])[k]? = some (some v) → (putsR (slotsR (twoOps T1 E1 T2 TI TP E2 d0 d1 d2 d3 d4 d5 d6 d7 d8 d9 d10 s1 s2 sr sa si p) [x0, x1, x2, x3, x4, x5, x6, x7, x8, x9, x10, x11, x12]) a).eval (.tmp t) = v := hE
    have hjl : j < 13 := by have := (List.getElem?_eq_some_iff.1 hoj).1; exact this
    have hVw := Nat.le_trans hbV h.below.size
    have hal : ∀ oo : Obj, Below w'.heap.size w' (w'.alloc oo) := fun oo => (Below.refl _ _).alloc (Nat.le_refl _) _
    have hv1w : v1.ownBlock ≠ some w'.heap.size := fun e => by have h1 := (ho1.lt _ e).2; have h2 := h.below.size; omega
    generalize putsR (slotsR (twoOps T1 E1 T2 TI TP E2 d0 d1 d2 d3 d4 d5 d6 d7 d8 d9 d10 s1 s2 sr sa si p) [x0, x1, x2, x3, x4, x5, x6, x7, x8, x9, x10, x11, x12]) a = a' at *
    clear cl hE hM hc
    obtain rfl | rfl | rfl | rfl | rfl | rfl | rfl | rfl | rfl | rfl | rfl | rfl | rfl : j = 0 ∨ j = 1 ∨ j = 2 ∨ j = 3 ∨ j = 4 ∨ j = 5 ∨ j = 6 ∨ j = 7 ∨ j = 8 ∨ j = 9 ∨ j = 10 ∨ j = 11 ∨ j = 12 := by omega
    · have eo := Option.some.inj hoj
      subst eo
      obtain rfl : x0 = none := Option.some.inj hn
      obtain rfl : x11 = none := none_of c11_0 rfl
      refine step_value (v := v1) (w' := w') rfl ?_ (hK _ _ ⟨some (v1), x1, x2, x3, x4, x5, x6, x7, x8, x9, x10, none, x12, rfl, ⟨h.below, (fun _ hv => by cases hv; rfl), h.m1, h.m4, h.m5, h.m6, h.m7, h.m8, h.o1, h.o2, h.b2, h.b9, h.r3, h.r10, h.a11, h.a12⟩⟩)
      · show Result.ok (Next.value (a'.eval (.tmp s1))) w' = _
        rw [hS1 rfl]
    · have eo := Option.some.inj hoj
      subst eo
      obtain rfl : x1 = none := Option.some.inj hn
      refine step_value (v := R) (w' := w') rfl ?_ (hK _ _ ⟨x0, some (R), x2, x3, x4, x5, x6, x7, x8, x9, x10, x11, x12, rfl, ⟨h.below, h.m0, (fun _ hv => by cases hv; rfl), h.m4, h.m5, h.m6, h.m7, h.m8, h.o1, h.o2, h.b2, h.b9, h.r3, h.r10, h.a11, h.a12⟩⟩)
      · show Result.ok (Next.value (a'.eval (.tmp sr))) w' = _
        rw [hRr]
    · have eo := Option.some.inj hoj
      obtain rfl : x2 = none := Option.some.inj hn
      obtain rfl : x3 = none := none_of c3_2 rfl
      obtain rfl : x10 = none := none_of c10_3 rfl
      obtain ⟨u1, hu1⟩ := dd 1 .data _ eo.symm (by simp) rfl
      have e1 := hv 1 d1 u1 rfl hu1
      rw [h.m1 u1 (Option.some.inj hu1)] at e1
      subst eo
      refine step_value (v := .slice (some ⟨w'.heap.size, 0, none⟩) 1 1) (w' := w'.alloc (.cells #[R] E1)) rfl ?_ (hK _ _ ⟨x0, x1, some (.slice (some ⟨w'.heap.size, 0, none⟩) 1 1), none, x4, x5, x6, x7, x8, x9, none, x11, x12, rfl, ⟨h.below.alloc hVw _, h.m0, h.m1, h.m4, h.m5, h.m6, h.m7, h.m8, (fun _ => own_below (h.o1 rfl) (hal _)), (fun _ => own_below (h.o2 rfl) (hal _)), (fun v hv _ => by cases hv; exact ⟨_, rfl, Own.made w' E1 [R]⟩), (fun v hv h10 => by obtain ⟨g, q1, q2, q3⟩ := h.b9 v hv h10; exact ⟨g, q1, q2.more _, q3⟩), (fun _ hv => by cases hv), (fun _ hv => by cases hv), h.a11, h.a12⟩⟩)
      · unfold execOp
        simp only [List.map_toArray, List.map_cons, List.map_nil, e1, Sem.run_bind, hs1, Result.andThen_ok, Sem.run_pure]
    · have eo := Option.some.inj hoj
      obtain rfl : x3 = none := Option.some.inj hn
      obtain rfl : x10 = none := none_of c10_3 rfl
      obtain rfl : x11 = none := none_of c11_3 rfl
      obtain ⟨u0, hu0⟩ := dd 0 .data _ eo.symm (by simp) rfl
      obtain ⟨u2, hu2⟩ := dd 2 .data _ eo.symm (by simp) rfl
      have e0 := hv 0 d0 u0 rfl hu0
      have e2 := hv 2 d2 u2 rfl hu2
      rw [h.m0 u0 (Option.some.inj hu0)] at e0
      obtain rfl : x2 = some u2 := Option.some.inj hu2
      obtain ⟨g, rfl, hog⟩ := h.b2 u2 rfl rfl
      subst eo
      refine step_app1 w' rfl (.tmp d0) (.tmp d2) T1 E1 rfl i1 z1 1 bytes1 ht1 hi1 hz10 hz11 hz12 hz1s (by omega) base v1 n1 xs1 e0 (h.o1 rfl) g [R] rfl (by simpa using hR1) e2 hog h163 hby1 hVw ?_
      intro v' w'' ho' hb' hat hg'
      have hT : Kept w' w'' (fun b => v1.ownBlock = some b) := Kept.of_grown hg' (fun b e => e)
      exact hK _ _ ⟨x0, x1, some (.slice (some ⟨g, 0, none⟩) 1 1), some v', x4, x5, x6, x7, x8, x9, none, none, x12, rfl, ⟨h.below.trans hb', h.m0, h.m1, h.m4, h.m5, h.m6, h.m7, h.m8, (fun e => by cases e), (fun _ => hT.row (h.o2 rfl) (fun b hb e => hoff b e hb)), (fun _ _ e => by cases e), (fun v hv h10 => by obtain ⟨g, q1, q2, q3⟩ := h.b9 v hv h10; exact ⟨g, q1, hT.own q2 q3, q3⟩), (fun v hv => by cases hv; exact ⟨ho', fun b hb e => by rcases hat with q | q; exact hoff b (q.symm.trans hb) e; (have q1 := q.symm.trans hb; injection q1 with q1; have := ((h.o2 rfl).lt b e).2; omega)⟩), (fun _ hv => by cases hv), (fun _ hv => by cases hv), h.a12⟩⟩
    · have eo := Option.some.inj hoj
      subst eo
      obtain rfl : x4 = none := Option.some.inj hn
      obtain rfl : x12 = none := none_of c12_4 rfl
      refine step_value (v := v2) (w' := w') rfl ?_ (hK _ _ ⟨x0, x1, x2, x3, some (v2), x5, x6, x7, x8, x9, x10, x11, none, rfl, ⟨h.below, h.m0, h.m1, (fun _ hv => by cases hv; rfl), h.m5, h.m6, h.m7, h.m8, h.o1, h.o2, h.b2, h.b9, h.r3, h.r10, h.a11, h.a12⟩⟩)
      · show Result.ok (Next.value (a'.eval (.tmp s2))) w' = _
        rw [hS2 rfl]
    · have eo := Option.some.inj hoj
      subst eo
      obtain rfl : x5 = none := Option.some.inj hn
      refine step_value (v := (.slice (some ⟨b', o', none⟩) n' c')) (w' := w') rfl ?_ (hK _ _ ⟨x0, x1, x2, x3, x4, some ((.slice (some ⟨b', o', none⟩) n' c')), x6, x7, x8, x9, x10, x11, x12, rfl, ⟨h.below, h.m0, h.m1, h.m4, (fun _ hv => by cases hv; rfl), h.m6, h.m7, h.m8, h.o1, h.o2, h.b2, h.b9, h.r3, h.r10, h.a11, h.a12⟩⟩)
      · show Result.ok (Next.value (a'.eval (.tmp sa))) w' = _
        rw [hAa]
    · have eo := Option.some.inj hoj
      subst eo
      obtain rfl : x6 = none := Option.some.inj hn
      refine step_value (v := .int .i64 (k : Int)) (w' := w') rfl ?_ (hK _ _ ⟨x0, x1, x2, x3, x4, x5, some (.int .i64 (k : Int)), x7, x8, x9, x10, x11, x12, rfl, ⟨h.below, h.m0, h.m1, h.m4, h.m5, (fun _ hv => by cases hv; rfl), h.m7, h.m8, h.o1, h.o2, h.b2, h.b9, h.r3, h.r10, h.a11, h.a12⟩⟩)
      · show Result.ok (Next.value (a'.eval (.tmp si))) w' = _
        rw [hIi]
    · have eo := Option.some.inj hoj
      subst eo
      obtain rfl : x7 = none := Option.some.inj hn
      obtain ⟨u5, hu5⟩ := dd 5 .data _ rfl (by simp) rfl
      obtain ⟨u6, hu6⟩ := dd 6 .data _ rfl (by simp) rfl
      have e5 := hv 5 d5 u5 rfl hu5
      have e6 := hv 6 d6 u6 rfl hu6
      rw [h.m5 u5 (Option.some.inj hu5)] at e5
      rw [h.m6 u6 (Option.some.inj hu6)] at e6
      refine step_value (v := (.pointer (some ⟨b', o' + k * size, none⟩))) (w' := w') rfl ?_ (hK _ _ ⟨x0, x1, x2, x3, x4, x5, x6, some ((.pointer (some ⟨b', o' + k * size, none⟩))), x8, x9, x10, x11, x12, rfl, ⟨h.below, h.m0, h.m1, h.m4, h.m5, h.m6, (fun _ hv => by cases hv; rfl), h.m8, h.o1, h.o2, h.b2, h.b9, h.r3, h.r10, h.a11, h.a12⟩⟩)
      · have r1 : (Instr.indexAt T2 (.slice (some ⟨b', o', none⟩) n' c') (.int .i64 (k : Int))).run P w' = .ok (.pointer (some ⟨b', o' + k * size, none⟩)) w' := by
          rw [run_indexAt_slice w' T2 _ _ _ _ _ hte, if_pos (by omega), hsof, Result.andThen_ok, Int.toNat_natCast, hpx]
        unfold execOp
        simp only [e5, e6, Sem.run_bind, r1, Result.andThen_ok, Sem.run_pure]
    · have eo := Option.some.inj hoj
      subst eo
      obtain rfl : x8 = none := Option.some.inj hn
      obtain ⟨u7, hu7⟩ := dd 7 .data _ rfl (by simp) rfl
      have e7 := hv 7 d7 u7 rfl hu7
      rw [h.m7 u7 (Option.some.inj hu7)] at e7
      refine step_value (v := .agg cs.toArray) (w' := w') rfl ?_ (hK _ _ ⟨x0, x1, x2, x3, x4, x5, x6, x7, some (.agg cs.toArray), x9, x10, x11, x12, rfl, ⟨h.below, h.m0, h.m1, h.m4, h.m5, h.m6, h.m7, (fun _ hv => by cases hv; rfl), h.o1, h.o2, h.b2, h.b9, h.r3, h.r10, h.a11, h.a12⟩⟩)
      · have hr : w'.rangeAt b' (o' + k * size) cs := fun j v hj => (h.below.cell (p := ⟨b', o' + k * size + j, none⟩) hb').trans (hcells j v hj)
        have r1 : (Instr.loadAt E2 (.pointer (some ⟨b', o' + k * size, none⟩))).run P w' = .ok (.agg cs.toArray) w' := run_loadAt_mid w' b' _ E2 cs d hr hu hdr (by rw [hi2]; simp [hz21, hcs])
        unfold execOp
        simp only [e7, Sem.run_bind, r1, Result.andThen_ok, Sem.run_pure]
    · have eo := Option.some.inj hoj
      obtain rfl : x9 = none := Option.some.inj hn
      obtain rfl : x10 = none := none_of c10_9 rfl
      obtain ⟨u8, hu8⟩ := dd 8 .data _ eo.symm (by simp) rfl
      have e8 := hv 8 d8 u8 rfl hu8
      rw [h.m8 u8 (Option.some.inj hu8)] at e8
      subst eo
      refine step_value (v := .slice (some ⟨w'.heap.size, 0, none⟩) 1 1) (w' := w'.alloc (.cells cs.toArray E2)) rfl ?_ (hK _ _ ⟨x0, x1, x2, x3, x4, x5, x6, x7, x8, some (.slice (some ⟨w'.heap.size, 0, none⟩) 1 1), none, x11, x12, rfl, ⟨h.below.alloc hVw _, h.m0, h.m1, h.m4, h.m5, h.m6, h.m7, h.m8, (fun e => own_below (h.o1 e) (hal _)), (fun _ => own_below (h.o2 rfl) (hal _)), (fun v hv h3 => by obtain ⟨g, q1, q2⟩ := h.b2 v hv h3; exact ⟨g, q1, q2.more _⟩), (fun v hv _ => by cases hv; exact ⟨_, rfl, Own.made w' E2 cs, hv1w⟩), (fun v hv => ⟨own_below (h.r3 v hv).1 (hal _), (h.r3 v hv).2⟩), (fun _ hv => by cases hv), h.a11, h.a12⟩⟩)
      · unfold execOp
        simp only [List.map_toArray, List.map_cons, List.map_nil, e8, Sem.run_bind, hs2, Result.andThen_ok, Sem.run_pure]
    · have eo := Option.some.inj hoj
      obtain rfl : x10 = none := Option.some.inj hn
      obtain rfl : x11 = none := none_of c11_10 rfl
      obtain rfl : x12 = none := none_of c12_10 rfl
      obtain ⟨u4, hu4⟩ := dd 4 .data _ eo.symm (by simp) rfl
      obtain ⟨u9, hu9⟩ := dd 9 .data _ eo.symm (by simp) rfl
      obtain ⟨u3, hu3⟩ := dd 3 .chain _ eo.symm (by simp) rfl
      have e4 := hv 4 d4 u4 rfl hu4
      have e9 := hv 9 d9 u9 rfl hu9
      rw [h.m4 u4 (Option.some.inj hu4)] at e4
      obtain rfl : x9 = some u9 := Option.some.inj hu9
      obtain rfl : x3 = some u3 := Option.some.inj hu3
      obtain ⟨g, rfl, hog, _⟩ := h.b9 u9 rfl rfl
      obtain ⟨h3a, h3b⟩ := h.r3 u3 rfl
      subst eo
      refine step_app1 w' rfl (.tmp d4) (.tmp d9) T2 E2 rfl i2 z2 size bytes2 ht2 hi2 hz20 hz21 hz22 hz2s hpos base v2 n2 xs2 e4 (h.o2 rfl) g cs hcs hone e9 hog h263 hby2 hVw ?_
      intro v' w'' ho' hb' hat hg'
      have hT : Kept w' w'' (fun b => v2.ownBlock = some b) := Kept.of_grown hg' (fun b e => e)
      exact hK _ _ ⟨x0, x1, x2, some u3, x4, x5, x6, x7, x8, some (.slice (some ⟨g, 0, none⟩) 1 1), some v', none, none, rfl, ⟨h.below.trans hb', h.m0, h.m1, h.m4, h.m5, h.m6, h.m7, h.m8, (fun e => by cases e), (fun e => by cases e), (fun _ _ e => by cases e), (fun _ _ e => by cases e), (fun v hv => by cases hv; exact ⟨hT.row h3a h3b, h3b⟩), (fun v hv => by cases hv; exact ⟨ho', fun u hu b hb e => by cases hu; rcases hat with q | q; exact h3b b hb (q.symm.trans e); (have q1 := q.symm.trans e; injection q1 with q1; have := (h3a.lt b hb).2; omega)⟩), (fun _ hv => by cases hv), (fun _ hv => by cases hv)⟩⟩
    · have eo := Option.some.inj hoj
      obtain rfl : x11 = none := Option.some.inj hn
      obtain ⟨v3, hu3⟩ := dd 3 .data _ eo.symm (by simp) rfl
      have e3 := hv 3 d3 v3 rfl hu3
      obtain rfl : x3 = some v3 := Option.some.inj hu3
      subst eo
      refine step_value (v := v3) (w' := w') rfl ?_ (hK _ _ ⟨x0, x1, x2, some v3, x4, x5, x6, x7, x8, x9, x10, some v3, x12, rfl, ⟨h.below, h.m0, h.m1, h.m4, h.m5, h.m6, h.m7, h.m8, h.o1, h.o2, h.b2, h.b9, h.r3, h.r10, (fun _ hv => by cases hv; rfl), h.a12⟩⟩)
      · show Result.ok (Next.value (a'.eval (.tmp d3))) w' = _
        rw [e3]
    · have eo := Option.some.inj hoj
      obtain rfl : x12 = none := Option.some.inj hn
      obtain ⟨v10, hu10⟩ := dd 10 .data _ eo.symm (by simp) rfl
      have e10 := hv 10 d10 v10 rfl hu10
      obtain rfl : x10 = some v10 := Option.some.inj hu10
      subst eo
      refine step_value (v := v10) (w' := w') rfl ?_ (hK _ _ ⟨x0, x1, x2, x3, x4, x5, x6, x7, x8, x9, some v10, x11, some v10, rfl, ⟨h.below, h.m0, h.m1, h.m4, h.m5, h.m6, h.m7, h.m8, h.o1, h.o2, h.b2, h.b9, h.r3, h.r10, h.a11, (fun _ hv => by cases hv; rfl)⟩⟩)
      · show Result.ok (Next.value (a'.eval (.tmp d10))) w' = _
        rw [e10]
end
end Go.Proofs.Ytammngncmkhokaa
namespace Go.Proofs.Ytammngncmkhokaa
open Go Go.RowKit

theorem foldl_supS : ∀ (l : List Tm) (a s : Tm), (l.foldl Tm.sup a).le s = (a.le s && l.all (·.le s))
  | [], a, s => by simp
  | x :: l, a, s => by
    rw [List.foldl_cons, foldl_supS l, List.all_cons]
    have : (a.sup x).le s = (a.le s && x.le s) := by
      rw [Bool.eq_iff_iff, Bool.and_eq_true, Tm.le_iff, Tm.le_iff, Tm.le_iff]
      simp only [Tm.sup]
      omega
    rw [this, Bool.and_assoc]
theorem le_lubS {l : List Tm} {x : Tm} (h : x ∈ l) : x.le (lub l) = true := by
  have h1 := le_refl' (lub l)
  cases l with
  | nil => cases h
  | cons y l =>
    have h2 : (lub (y :: l)).le (lub (y :: l)) = (y :: l).all (·.le (lub (y :: l))) := by
      show (l.foldl Tm.sup y).le _ = _
      rw [foldl_supS, List.all_cons]
    rw [h2, List.all_eq_true] at h1
    exact h1 x h
theorem beyond_self {l : List Tm} {x : Tm} (h : x ∈ l) : beyond (frontL l) x = true := by
  rw [(frontL_facts l).2.2 x]
  exact beyond_iff.2 ⟨x, h, le_refl' x⟩
theorem cmp_selfS (v : Vl) : v.cmp v = 0 := by
  unfold Vl.cmp
  split
  · exact cmpB_zero.2 rfl
  · simp [Vl.cmpI]
theorem cmpRows_selfS : ∀ l : List Vl, cmpRows l l = 0
  | [] => rfl
  | v :: l => by
    show (if v.cmp v = 0 then cmpRows l l else v.cmp v) = 0
    rw [if_pos (cmp_selfS v)]
    exact cmpRows_selfS l
/-- the rows' texts, one behind the other -/
def catQ (Q : List RowV) : List UInt8 := Q.flatMap fun q => encS q.l
theorem catQ_snoc (Q : List RowV) (q : RowV) : (⟨(catQ Q).toArray⟩ : ByteArray) ++ ⟨(encS q.l).toArray⟩ = ⟨(catQ (Q ++ [q])).toArray⟩ := by
  rw [str_app_of]
  unfold catQ
  rw [List.flatMap_append]
  simp
theorem encS_leS {l : List Vl} (ok : ∀ v ∈ l, VOk v) : (encS l).length ≤ 1000 := by
  rcases chk_case' l with ⟨hz, hr, h8⟩ | h4
  · unfold encS rowB
    rw [if_pos hz, List.length_append]
    have := rows_len hr ok
    have := enc_len10 (n := l.length) (by omega)
    omega
  · unfold encS
    rw [if_neg (by omega)]
    simp
structure OkQ (w : World) (q : RowV) : Prop where
  vals : Vals w w.heap.size q.A q.l
  ok : ∀ v ∈ q.l, VOk v
  len : q.l.length ≤ maxLen
  chk : chkRow q.l = 0
theorem catQ_len {w : World} : ∀ (Q : List RowV), (∀ q ∈ Q, OkQ w q) → (catQ Q).length ≤ Q.length * 1000
  | [], _ => by simp [catQ]
  | q :: Q, h => by
    have h1 := catQ_len Q fun x hx => h x (List.mem_cons_of_mem _ hx)
    have h2 := encS_leS (h q List.mem_cons_self).ok
    unfold catQ at h1 ⊢
    rw [List.flatMap_cons, List.length_append, List.length_cons]
    omega
theorem catQ_drop {Q : List RowV} {n : Nat} {q : RowV} (h : Q[n]? = some q) : catQ (Q.drop n) = encS q.l ++ catQ (Q.drop (n + 1)) := by
  obtain ⟨hn, rfl⟩ := List.getElem?_eq_some_iff.1 h
  rw [List.drop_eq_getElem_cons hn]
  rfl
/-- as a row lies in a list of rows -/
def rowC (q : RowV) : List Value := [.slice q.A q.l.length q.c]
theorem rowC_len (q : RowV) : (rowC q).length = 1 := rfl
/-- what was put, with its times -/
structure PAt (w W : World) (v6 v7 : Value) (Q : List RowV) (U : List Tm) : Prop where
  below : Below w.heap.size w W
  r6 : W.ownsRow w.heap.size 25 1 v6 Q.length (Q.flatMap rowC)
  r7 : W.ownsRow w.heap.size 32 3 v7 U.length (U.flatMap Tm.cells)
  off : ∀ b, v6.ownBlock = some b → v7.ownBlock ≠ some b
  len : U.length = Q.length
  le : Q.length ≤ 40
  ok : ∀ q ∈ Q, OkQ w q
theorem PAt.past {w W W' : World} {v6 v7 : Value} {Q : List RowV} {U : List Tm} (h : PAt w W v6 v7 Q U) (hb : Below W.heap.size W W') : PAt w W' v6 v7 Q U :=
  ⟨h.below.trans (hb.mono h.below.size), own_below h.r6 hb, own_below h.r7 hb, h.off, h.len, h.le, h.ok⟩
theorem PAt.form6 {w W : World} {v6 v7 : Value} {Q : List RowV} {U : List Tm} (h : PAt w W v6 v7 Q U) : ∃ A c, v6 = .slice A Q.length c := by
  obtain ⟨A, c, e, _⟩ := lies_of_own (size := 1) (cells := rowC) (l := Q) (by decide) rowC_len rfl h.r6
  exact ⟨A, c, e⟩
theorem PAt.form7 {w W : World} {v6 v7 : Value} {Q : List RowV} {U : List Tm} (h : PAt w W v6 v7 Q U) : ∃ A c, v7 = .slice A U.length c := by
  obtain ⟨A, c, e, _⟩ := times_of_own rfl h.r7
  exact ⟨A, c, e⟩
theorem PAt.times {w W : World} {v6 : Value} {A : Option Addr} {m c : Nat} {Q : List RowV} {U : List Tm} (h : PAt w W v6 (.slice A m c) Q U) : U.length ≤ c ∧ c ≤ maxLen ∧ Times W W.heap.size A U := by
  obtain ⟨A', c', e, h1, h2, h3⟩ := times_of_own rfl h.r7
  injection e with e1 e2 e3
  subst e1 e3
  exact ⟨h1, h2, h3⟩
theorem PAt.rows {w W : World} {v7 : Value} {A : Option Addr} {m c : Nat} {Q : List RowV} {U : List Tm} (h : PAt w W (.slice A m c) v7 Q U) {n : Nat} {q : RowV} (hq : Q[n]? = some q) :
    ∃ b o, A = some ⟨b, o, none⟩ ∧ b < W.heap.size ∧ W.cell? ⟨b, o + n, none⟩ = some (.slice q.A q.l.length q.c) := by
  obtain ⟨A', c', e, _, _, l9⟩ := lies_of_own (size := 1) (cells := rowC) (l := Q) (by decide) rowC_len rfl h.r6
  injection e with e1 _ _
  subst e1
  obtain ⟨b, o, e, hb, hc⟩ := l9 (by have := (List.getElem?_eq_some_iff.1 hq).1; omega)
  have h0 := hc n q hq 0 _ rfl
  rw [Nat.mul_one, Nat.add_zero] at h0
  exact ⟨b, o, e, hb, h0⟩
theorem tm_oneS (t : Tm) : ∀ u ∈ t.cells, u.oneCell' = true := by
  intro u hu
  simp [Tm.cells] at hu
  rcases hu with rfl | rfl | rfl <;> rfl
theorem range_tm {w : World} {b o : Nat} {t : Tm} (h : TmAt w b o t) : w.rangeAt b o t.cells := fun j v hj => by
  match j, hj with
  | 0, hj => obtain rfl : _ = v := by simpa [Tm.cells] using hj
             exact h.1
  | 1, hj => obtain rfl : _ = v := by simpa [Tm.cells] using hj
             exact h.2.1
  | 2, hj => obtain rfl : _ = v := by simpa [Tm.cells] using hj
             exact h.2.2
  | j + 3, hj => simp [Tm.cells] at hj
theorem bsR1 (R : Value) (h : ∃ A n c, R = .slice A n c) (w' : World) : (Instr.buildSlice 22 1 #[(0, R)]).run Try.prog w' = .ok (.slice (some ⟨w'.heap.size, 0, none⟩) 1 1) (w'.alloc (.cells #[R] 25)) := by
  obtain ⟨A, n, c, rfl⟩ := h
  kernel_rfl
theorem bsT1 (t : Tm) (w' : World) : (Instr.buildSlice 23 1 #[(0, .agg t.cells.toArray)]).run Try.prog w' = .ok (.slice (some ⟨w'.heap.size, 0, none⟩) 1 1) (w'.alloc (.cells t.cells.toArray 32)) := by kernel_rfl
theorem infoRowS : (Try.prog.info? 25).map (fun i => (i.zero, i.size, i.bytes)) = some (some (.slice none 0 0), 1, 24) := by kernel_rfl
end Go.Proofs.Ytammngncmkhokaa
namespace Go.Proofs.Ytammngncmkhokaa
open Go Go.RowKit

/-- a file as it lies: its name, and the row of its parts -/
structure Vf where
  n : ByteArray
  A : Option Addr
  c : Nat
  ps : List ByteArray
instance : Inhabited Vf := ⟨⟨⟨#[]⟩, none, 0, []⟩⟩
namespace Vf
def pv (f : Vf) : Value := .slice f.A f.ps.length f.c
def cells (f : Vf) : List Value := [.string f.n, .slice f.A f.ps.length f.c]
def val (f : Vf) : Value := .agg #[.string f.n, .slice f.A f.ps.length f.c]
end Vf
theorem vf_one (f : Vf) : ∀ u ∈ f.cells, u.oneCell' = true := by
  intro u hu
  simp [Vf.cells] at hu
  rcases hu with rfl | rfl <;> rfl
theorem vfs_one (l : List Vf) : ∀ u ∈ l.flatMap Vf.cells, u.oneCell' = true := by
  intro u hu
  obtain ⟨f, _, hf⟩ := List.mem_flatMap.1 hu
  exact vf_one f u hf
def zeroVf : Value := .agg #[.string ⟨#[]⟩, .slice none 0 0]
theorem infoVf : (Try.prog.info? 124).map (fun i => (i.zero, i.size, i.bytes)) = some (some zeroVf, 2, 40) := by kernel_rfl
theorem zeroOfVf (w : World) : (zeroValue 124).run Try.prog w = .ok zeroVf w := by
  obtain ⟨i0, hi, hz0, _⟩ := info_parts infoVf
  simp [zeroValue, typeInfo, hi, hz0]

theorem splice_take {l : List Value} {o : Nat} {vs : List Value} (h : o ≤ l.length) : (splice l o vs).take o = l.take o := by
  unfold splice
  rw [List.append_assoc, List.take_append_of_le_length (by simp; omega), List.take_take]
  simp
set_option maxRecDepth 100000 in
set_option maxHeartbeats 1600000 in
theorem delete_own (g n c i j : Nat) (cur : List Value) (w : World) (ho : Own w g 124 cur) (hn : n ≤ c) (hm : c ≤ maxLen) (hl : cur.length = c * 2) (hij : j = i + 1) (hj : j ≤ n) (h1 : ∀ u ∈ cur.take (n * 2), u.oneCell' = true) :
    Calls Try.prog 91 #[.slice (some ⟨g, 0, none⟩) n c, .int .i64 (i : Int), .int .i64 (j : Int)] w fun e w' => e = .returned (.slice (some ⟨g, 0, none⟩) (n - 1) c) ∧
      ∃ cur', Own w' g 124 cur' ∧ cur'.length = c * 2 ∧ cur'.take ((n - 1) * 2) = (cur.take (n * 2)).take (i * 2) ++ (cur.take (n * 2)).drop (j * 2) ∧ w.grownBy w' (some g) := by
  obtain ⟨i0, hi0, hz0, hz1, hz2⟩ := info_parts infoVf
  have hU := Try.underlying81
  unfold maxLen at hm
  obtain ⟨news, hnews⟩ : ∃ news, news = (cur.take (n * 2)).drop (j * 2) := ⟨_, rfl⟩
  have hlen : news.length = (n - j) * 2 := by rw [hnews]; simp; omega
  have ho1 : ∀ j, w.cell? ⟨g, j, none⟩ = cur[j]? := ho.at_
  obtain ⟨A, hA, hsrc⟩ : ∃ A : Addr, (if c = j then some (⟨g, 0, none⟩ : Addr) else some ⟨g, j * 2, none⟩) = some A ∧ Hid (∀ t u, news[t]? = some u → w.drew.cell? (A.add t) = some u) := by
    by_cases h : c = j
    · refine ⟨⟨g, 0, none⟩, by simp [h], Lib.hid (fun t u hu => ?_)⟩
      have h0 : news.length = 0 := by rw [hlen]; omega
      rw [List.length_eq_zero_iff.1 h0] at hu
      simp at hu
    · refine ⟨⟨g, j * 2, none⟩, by simp [h], Lib.hid (fun t u hu => ?_)⟩
      have ht : t < (n - j) * 2 := by
        have := (List.getElem?_eq_some_iff.1 hu).1
        rwa [hlen] at this
      have ea : (⟨g, j * 2, none⟩ : Addr).add t = ⟨g, j * 2 + t, none⟩ := by unfold Addr.add; split <;> simp_all
      rw [ea]
      show w.cell? _ = _
      rw [ho1]
      rw [hnews, List.getElem?_drop, List.getElem?_take] at hu
      split at hu
      · exact hu
      · cases hu
  have hone : ∀ u ∈ news, u.oneCell' = true := fun u hu => h1 u (by rw [hnews] at hu; exact List.mem_of_mem_drop hu)
  have happ : ∀ ty sc, Hid ((Builtin.append_ #[81, 81] ty #[.slice (some ⟨g, 0, none⟩) i c, .slice (some A) (n - j) sc]).run Try.prog w.drew = .ok (.slice (some ⟨g, 0, none⟩) (i + (n - j)) c) (w.drew.setRow g (splice cur (i * 2) news).toArray)) := fun ty sc => by
    have hl2 : news.length = (n - j) * i0.size := by rw [hlen, hz1]
    have hfit : i * i0.size + news.length ≤ cur.toArray.size := by rw [hz1, hlen]; simp; omega
    have hroom : i + (n - j) ≤ c := by omega
    have := run_append_room (P := Try.prog) w.drew 81 ty 124 i0 hU hi0 g i c cur.toArray ho A (n - j) sc news hl2 hsrc.out hone hroom hfit
    rw [hz1] at this
    exact Lib.hid (by simpa [splice] using this)
  obtain ⟨W1, hW1⟩ : ∃ W1, W1 = w.drew.setRow g (splice cur (i * 2) news).toArray := ⟨_, rfl⟩
  rw [← hW1] at happ
  have oW1 : Own W1 g 124 (splice cur (i * 2) news) := by rw [hW1]; exact own_rowK (w := w.drew) ho
  have hs1 : (splice cur (i * 2) news).length = cur.length := splice_len (by rw [hlen, hl]; omega)
  have hclr := fun ty cc => Lib.hid (run_clear_one (P := Try.prog) W1 81 124 ty 124 zeroVf hU zeroOfVf (by intro u hu; simp [zeroVf, Value.cells] at hu; rcases hu with rfl | rfl <;> rfl) g ((i + (n - j)) * 2) cc _ oW1 (by rw [hs1, hl]; simp [zeroVf, Value.cells]; omega))
  have HW := Lib.hid hW1
  have HO := Lib.hid oW1
  have hA2 := Lib.hid hA
  have q1 : n - (i + (n - j)) = 1 := by omega
  have q2 : i + (n - j) = n - 1 := by omega
  rw [q2] at hclr
  have hic : i ≤ c := by omega
  have hin : i ≤ n := by omega
  have hjc : j ≤ c := by omega
  have hlt : i < j := by omega
  have HJ := Lib.hid hij
  clear hW1 oW1 hsrc ho1 hij
  go_enter Try.func91, Try.ntmps91
  go_wp2_with fail
  go_region_law (refine step_append_known rfl (.tmp 22) (.tmp 25) 81 81 rfl (.slice (some ⟨g, 0, none⟩) i c) (.slice (some A) (n - j) (c - j)) (by simp [Act.eval, Act.put]) (by simp [Act.eval, Act.put]) (happ _ _).out ?_)
  have hn1 : (i : Int) + ((n - j : Nat) : Int) = ((n - 1 : Nat) : Int) := by have := HJ.out; omega
  have hq1 : n - (n - 1) = 1 := by omega
  obtain ⟨W2, hW2⟩ : ∃ W2, W2 = W1.setRow g (splice (splice cur (i * 2) news) ((n - 1) * 2) zeroVf.cells.toList).toArray := ⟨_, rfl⟩
  have hcl2 : ∀ ty, (Builtin.clear_ #[81] ty #[.slice (some ⟨g, (n - 1) * 2, none⟩) (n - (n - 1)) (c - (n - 1))]).run Try.prog W1 = .ok (.tuple #[]) W2 := fun ty => by rw [hq1, hW2]; exact (hclr ty _).out
  have HW2 := Lib.hid hW2
  clear hW2 hq1
  go_wp2_with fail
  go_ret
  have hsp := HO.out
  rw [HW2.out]
  refine ⟨rfl, _, own_rowK HO.out, ?_, ?_, ?_⟩
  · rw [splice_len (by rw [hs1, hl]; simp [zeroVf, Value.cells]; omega), hs1, hl]
  · have e1 : (splice (splice cur (i * 2) news) ((n - 1) * 2) zeroVf.cells.toList).take ((n - 1) * 2) = (splice cur (i * 2) news).take ((n - 1) * 2) := splice_take (by rw [hs1, hl]; omega)
    have e2 : (splice cur (i * 2) news).take ((n - 1) * 2) = cur.take (i * 2) ++ news := by
      have h3 : (cur.take (i * 2) ++ news).length = (n - 1) * 2 := by rw [List.length_append, List.length_take, hlen]; have := HJ.out; omega
      unfold splice
      rw [← h3, List.take_left']
      rfl
    rw [e1, e2, hnews, List.take_take]
    congr 2
    omega
  · rw [HW.out]
    exact ⟨rfl, rfl, rfl, by simp, fun k _ hk => (row_other (fun e => hk (by rw [e]))).trans (row_other (w := w.drew) (fun e => hk (by rw [e])))⟩
/-- .. as rows -/
theorem delete_any (base n c i : Nat) (A : Option Addr) (xs : List Value) (w : World) (ho : w.ownsRow base 124 2 (.slice A n c) n xs) (hi : i < n) (h1 : ∀ u ∈ xs, u.oneCell' = true) :
    Calls Try.prog 91 #[.slice A n c, .int .i64 (i : Int), .int .i64 ((i : Int) + 1)] w fun e w' => e = .returned (.slice A (n - 1) c) ∧
      w'.ownsRow base 124 2 (.slice A (n - 1) c) (n - 1) (xs.take (i * 2) ++ xs.drop ((i + 1) * 2)) ∧ w.grownBy w' (Value.slice A n c).ownBlock := by
  rcases row_own ho with ⟨_, h0, _⟩ | ⟨g, cur, rfl, hb, hg, hn, hm, hl, rfl⟩
  · omega
  · have := delete_own g n c i (i + 1) cur w hg hn hm hl rfl (by omega) h1
    rw [show ((i + 1 : Nat) : Int) = (i : Int) + 1 by omega] at this
    refine this.mono ?_
    rintro e w' ⟨rfl, cur', o', l', t', g'⟩
    exact ⟨rfl, by rw [← t']; exact own_to_row o' hb (by omega) hm l', g'⟩
end Go.Proofs.Ytammngncmkhokaa
namespace Go.Proofs.Ytammngncmkhokaa
open Go Go.RowKit

def namesV (l : List Vf) : List ByteArray := l.map Vf.n
theorem kcmp_any (a b : ByteArray) (w : World) :
    Calls Try.prog 42 #[.string a, .string b] w fun e w' => e = .returned (.int .i64 (cmpN a b)) ∧ w = w' :=
  (Try.strings_Compare a b w).mono fun _ _ ⟨h, k⟩ => ⟨h, k.symm⟩
set_option maxRecDepth 100000 in
set_option maxHeartbeats 400000 in
/-- the closure that compares -/
theorem fcmp_any (f : Vf) (n : ByteArray) (w : World) :
    Calls Try.prog 82 #[f.val, .string n] w fun e w' => e = .returned (.int .i64 (cmpN f.n n)) ∧ Below w.heap.size w w' := by
  unfold Vf.val
  go_enter Try.func82, Try.ntmps82
  go_wp2_with fail
  refine (kcmp_any _ _ _).mono ?_
  rintro e w1 ⟨rfl, rfl⟩
  go_wp2_with fail
  go_ret
  exact ⟨rfl, (Below.refl _ _).alloc (Nat.le_refl _) _⟩
/-- a row of files, and what it holds at a place -/
theorem vf_at {w : World} {base : Nat} {A : Option Addr} {c : Nat} {l : List Vf} (ho : w.ownsRow base 124 2 (.slice A l.length c) l.length (l.flatMap Vf.cells)) {i : Nat} {f : Vf} (hi : l[i]? = some f) :
    ∃ g, A = some ⟨g, 0, none⟩ ∧ w.cell? ⟨g, i * 2, none⟩ = some (.string f.n) ∧ w.cell? ⟨g, i * 2 + 1, none⟩ = some (.slice f.A f.ps.length f.c) ∧ g < w.heap.size := by
  have hlt := (List.getElem?_eq_some_iff.1 hi).1
  rcases row_own ho with ⟨_, h0, _⟩ | ⟨g, cur, rfl, hb, hg, hn, hm, hl, ht⟩
  · omega
  · have h0 := flat_of (cells := Vf.cells) (size := 2) (fun _ => rfl) l i 0 f (.string f.n) hi rfl
    have h1 := flat_of (cells := Vf.cells) (size := 2) (fun _ => rfl) l i 1 f (.slice f.A f.ps.length f.c) hi rfl
    rw [← ht, List.getElem?_take] at h0 h1
    have e0 : i * 2 + 0 < l.length * 2 := by omega
    have e1 : i * 2 + 1 < l.length * 2 := by omega
    rw [if_pos e0] at h0
    rw [if_pos e1] at h1
    exact ⟨g, rfl, by rw [hg.at_]; exact h0, by rw [hg.at_]; exact h1, hg.inside⟩
theorem names_at {l : List Vf} {i : Nat} {f : Vf} (h : l[i]? = some f) : (namesV l)[i]? = some f.n := by unfold namesV; rw [List.getElem?_map, h]; rfl
theorem half {i j : Nat} (h : i < j) (hb : j ≤ 4611686018427387904) : (((i : Int) + (j : Int)).toNat : Nat) / 2 = (i + j) / 2 ∧ i ≤ (i + j) / 2 ∧ (i + j) / 2 < j := by omega
set_option maxRecDepth 100000 in
set_option maxHeartbeats 1600000 in
theorem search_any (base : Nat) (A : Option Addr) (c : Nat) (l : List Vf) (n : ByteArray) (w : World) (ho : w.ownsRow base 124 2 (.slice A l.length c) l.length (l.flatMap Vf.cells)) (hs : SortedN (namesV l)) (hn : l.length ≤ 4611686018427387904) :
    Calls Try.prog 81 #[.slice A l.length c, .string n, .func (.func 82) #[] #[]] w fun e w' =>
      e = .returned (.tuple #[.int .i64 (posN (namesV l) n : Int), .bool (hasN (namesV l) n)]) ∧ Below w.heap.size w w' := by
  have hat := Lib.hid (posN_at (n := n) hs)
  have hle := Lib.hid (posN_le (namesV l) n)
  have hlen : (namesV l).length = l.length := by simp [namesV]
  have HO := Lib.hid ho
  have HN := Lib.hid (And.intro hs hlen)
  clear ho hs
  go_enter Try.func81, Try.ntmps81
  go_wp2_with fail
  go_loopw [9, 10] (fun i j wr => ∃ a b : Nat, i = .int .i64 (a : Int) ∧ j = .int .i64 (b : Int) ∧ a ≤ b ∧ b ≤ l.length ∧ a ≤ posN (namesV l) n ∧ posN (namesV l) n ≤ b ∧ Below w.heap.size w wr) (fun i j _ => (intOf j - intOf i).toNat)
  case atStart => exact ⟨0, l.length, rfl, rfl, by omega, by omega, by omega, by rw [← hlen]; exact hle.out, Below.refl _ _⟩
  case round =>
    obtain ⟨a, b, rfl, rfl, hab, hbl, hap, hpb, hb⟩ := hrel
    by_cases hlt : a < b
    · have hh : (a + b) / 2 < l.length := by omega
      have hx : l[(a + b) / 2]? = some l[(a + b) / 2] := List.getElem?_eq_getElem hh
      have hord := Lib.hid (hat.out _ _ (names_at hx))
      obtain ⟨g, rfl, c0, c1, hg⟩ := vf_at HO.out hx
      have d0 := (hb.cell (p := ⟨g, (a + b) / 2 * 2, none⟩) hg).trans c0
      have d1 := (hb.cell (p := ⟨g, (a + b) / 2 * 2 + 1, none⟩) hg).trans c1
      generalize l[(a + b) / 2] = f at *
      have hy := fun W => Lib.hid (fcmp_any f n W)
      unfold Vf.val at hy
      clear c0 c1
      have HB := Lib.hid (And.intro hb (And.intro hap hpb))
      clear hb hap hpb
      by_cases hz : cmpN f.n n < 0
      · go_wp2_with fail
        refine (hy _).out.mono ?_
        rintro e w1 ⟨rfl, b1⟩
        go_wp2_with fail
        go_roundw
        case rel =>
          have := hord.out.2 hz
          exact ⟨(a + b) / 2 + 1, b, by rw [show ((a : Int) + (b : Int)) / 2 + 1 = (((a + b) / 2 + 1 : Nat) : Int) by omega], rfl, by omega, by omega, by omega, HB.out.2.2, HB.out.1.trans (b1.mono HB.out.1.size)⟩
        case measure => simp [intOf]; omega
      · go_wp2_with fail
        refine (hy _).out.mono ?_
        rintro e w1 ⟨rfl, b1⟩
        go_wp2_with fail
        go_roundw
        case rel =>
          have h2 : ¬ (a + b) / 2 < posN (namesV l) n := fun h => by have := hord.out.1 h; omega
          exact ⟨a, (a + b) / 2, rfl, by rw [show ((a : Int) + (b : Int)) / 2 = (((a + b) / 2 : Nat) : Int) by omega], by omega, by omega, HB.out.2.1, by omega, HB.out.1.trans (b1.mono HB.out.1.size)⟩
        case measure => simp [intOf]; omega
    · obtain rfl : b = a := by omega
      have ep : posN (namesV l) n = b := by omega
      have EP := Lib.hid ep
      have HB := Lib.hid hb
      clear hap hpb hb ep
      by_cases hin : b < l.length
      · have hx : l[b]? = some l[b] := List.getElem?_eq_getElem hin
        obtain ⟨g, rfl, c0, c1, hg⟩ := vf_at HO.out hx
        have d0 := (HB.out.cell (p := ⟨g, b * 2, none⟩) hg).trans c0
        have d1 := (HB.out.cell (p := ⟨g, b * 2 + 1, none⟩) hg).trans c1
        have hnm := Lib.hid (names_at hx)
        generalize l[b] = f at *
        have hy := fun W => Lib.hid (fcmp_any f n W)
        unfold Vf.val at hy
        clear c0 c1
        have hres : Hid (hasN (namesV l) n = decide (cmpN f.n n = 0)) := by
          refine Lib.hid ?_
          by_cases hq : f.n = n
          · have := hnm.out
            rw [hq] at this
            rw [hasN_mem.2 (List.mem_of_getElem? this), cmpN_zero.2 hq]; rfl
          · have h1 : cmpN f.n n ≠ 0 := fun h => hq (cmpN_zero.1 h)
            rw [decide_eq_false h1]
            cases hh : hasN (namesV l) n
            · rfl
            · have := posN_has HN.out.1 hh
              rw [EP.out, hnm.out] at this
              exact absurd (Option.some.inj this) hq
        generalize cmpN f.n n = r at *
        go_wp2_with fail
        refine (hy _).out.mono ?_
        rintro e w1 ⟨rfl, b1⟩
        go_wp2_with fail
        go_ret2
        refine ⟨?_, HB.out.trans (b1.mono HB.out.size)⟩
        rw [EP.out, hres.out]
        rfl
      · have hf : Hid (hasN (namesV l) n = false) := by
          refine Lib.hid ?_
          cases hh : hasN (namesV l) n
          · rfl
          · have := posN_has HN.out.1 hh
            rw [EP.out] at this
            have := (List.getElem?_eq_some_iff.1 this).1
            omega
        go_wp2_with fail
        go_ret2
        refine ⟨?_, HB.out⟩
        rw [EP.out, hf.out]
        rfl
set_option maxRecDepth 100000 in
set_option maxHeartbeats 800000 in
/-- find: the struct lies at cell o of block G -/
theorem find_any (G o base : Nat) (t : TypeId) (cs : List Value) (A : Option Addr) (c : Nat) (l : List Vf) (n : ByteArray) (w : World) (hG : Own w G t cs) (h0 : cs[o]? = some (.slice A l.length c)) (ho : w.ownsRow base 124 2 (.slice A l.length c) l.length (l.flatMap Vf.cells)) (hs : SortedN (namesV l)) (hn : l.length ≤ 4611686018427387904) :
    Calls Try.prog 58 #[.pointer (some ⟨G, o, none⟩), .string n] w fun e w' =>
      e = .returned (.tuple #[.int .i64 (posN (namesV l) n : Int), .bool (hasN (namesV l) n)]) ∧ Below w.heap.size w w' := by
  have c0 : w.cell? ⟨G, o, none⟩ = some (.slice A l.length c) := by rw [hG.at_]; exact h0
  have hy := fun W h => Lib.hid (search_any base A c l n W h hs hn)
  have HO := Lib.hid ho
  clear ho hG h0
  go_enter Try.func58, Try.ntmps58
  go_wp2_with fail
  refine (hy _ HO.out).out.mono ?_
  rintro e w1 ⟨rfl, b1⟩
  go_wp2_with fail
  go_ret2
  exact ⟨rfl, b1⟩
set_option maxRecDepth 100000 in
set_option maxHeartbeats 800000 in
theorem has_any (G o base : Nat) (t : TypeId) (cs : List Value) (A : Option Addr) (c : Nat) (l : List Vf) (n : ByteArray) (w : World) (hG : Own w G t cs) (h0 : cs[o]? = some (.slice A l.length c)) (ho : w.ownsRow base 124 2 (.slice A l.length c) l.length (l.flatMap Vf.cells)) (hs : SortedN (namesV l)) (hn : l.length ≤ 4611686018427387904) :
    Calls Try.prog 54 #[.pointer (some ⟨G, o, none⟩), .string n] w fun e w' => e = .returned (.bool (hasN (namesV l) n)) ∧ Below w.heap.size w w' := by
  have hy := Lib.hid (find_any G o base t cs A c l n w hG h0 ho hs hn)
  clear hG h0 ho hs
  generalize posN (namesV l) n = p at *
  generalize hasN (namesV l) n = h at *
  go_enter Try.func54, Try.ntmps54
  go_wp2_with fail
  refine hy.out.mono ?_
  rintro e w1 ⟨rfl, b1⟩
  go_wp2_with fail
  go_ret
  exact ⟨rfl, b1⟩
set_option maxRecDepth 100000 in
set_option maxHeartbeats 800000 in
theorem many_any (G o : Nat) (t : TypeId) (cs : List Value) (A : Option Addr) (c n : Nat) (w : World) (hG : Own w G t cs) (h0 : cs[o]? = some (.slice A n c)) :
    Calls Try.prog 56 #[.pointer (some ⟨G, o, none⟩)] w fun e w' => e = .returned (.bool (decide ((256 : Int) < (n : Int)))) ∧ w = w' := by
  have c0 : w.cell? ⟨G, o, none⟩ = some (.slice A n c) := by rw [hG.at_]; exact h0
  clear hG h0
  go_enter Try.func56, Try.ntmps56
  go_wp2_with fail
  go_ret
  exact ⟨rfl, rfl⟩
end Go.Proofs.Ytammngncmkhokaa
namespace Go.Proofs.Ytammngncmkhokaa
open Go Go.RowKit

def catB (ps : List ByteArray) : ByteArray := ⟨(ps.flatMap (fun p => p.data.toList)).toArray⟩
theorem catB_nil : catB [] = ⟨#[]⟩ := rfl
theorem catB_more (ps : List ByteArray) (d : ByteArray) : catB (ps ++ [d]) = catB ps ++ d := by
  apply str_ext; simp [catB]
theorem catB_size (ps : List ByteArray) : (catB ps).size = (ps.map ByteArray.size).sum := by
  unfold catB
  rw [sizeL]
  induction ps with
  | nil => rfl
  | cons p ps ih => rw [List.flatMap_cons, List.length_append, ih, List.map_cons, List.sum_cons, len_of]
theorem join_cat (ps : List ByteArray) : Lib.join (ps.map (·.data.toList)) [] = ps.flatMap (fun p => p.data.toList) := by
  have h : ∀ xs : List (List UInt8), Lib.join xs [] = xs.flatten := fun xs => by
    cases xs with
    | nil => rfl
    | cons x r =>
      rw [Lib.join_cons]
      unfold Lib.joinTail
      simp
  rw [h, List.flatMap_def]
def Parts (w : World) (base : Nat) (f : Vf) : Prop := w.ownsRow base 9 1 (.slice f.A f.ps.length f.c) f.ps.length (f.ps.map Value.string)
theorem parts_at {w : World} {base : Nat} {f : Vf} (h : Parts w base f) (h0 : 0 < f.ps.length) : ∃ g, f.A = some ⟨g, 0, none⟩ ∧ g < w.heap.size ∧ f.ps.length ≤ f.c ∧ ∀ (j : Nat) x, f.ps[j]? = some x → w.cell? ⟨g, j, none⟩ = some (.string x) := by
  rcases row_own h with ⟨_, h1, _⟩ | ⟨g, cur, e, hb, hg, hn, hm, hl, ht⟩
  · omega
  · refine ⟨g, e, hg.inside, hn, fun j x hx => ?_⟩
    rw [hg.at_]
    have hlt := (List.getElem?_eq_some_iff.1 hx).1
    have h2 : (f.ps.map Value.string)[j]? = some (.string x) := by rw [List.getElem?_map, hx]; rfl
    rw [← ht, List.getElem?_take] at h2
    rw [if_pos (by omega)] at h2
    exact h2
set_option maxRecDepth 100000 in
set_option maxHeartbeats 800000 in
theorem data_any (base : Nat) (f : Vf) (w : World) (hp : Parts w base f) (hn : f.ps.length ≤ 140737488355328) (hs : (catB f.ps).size ≤ 140737488355328) :
    Calls Try.prog 59 #[f.val] w fun e w' => e = .returned (.string (catB f.ps)) ∧ Below w.heap.size w w' := by
  obtain ⟨V, hV⟩ : ∃ V, V = w.alloc (.cells #[.string f.n, .slice f.A f.ps.length f.c] 124) := ⟨_, rfl⟩
  have hVb : Below w.heap.size w V := by rw [hV]; exact (Below.refl _ _).alloc (Nat.le_refl _) _
  have hy : Hid (Calls Try.prog 61 #[.slice f.A f.ps.length f.c, .string ⟨#[]⟩] V fun e w' => e = .returned (.string (catB f.ps)) ∧ Below V.heap.size V w') := by
    by_cases h0 : 0 < f.ps.length
    · obtain ⟨g, hA, hg, hc, hat⟩ := parts_at hp h0
      rw [hA]
      have hl : (Lib.join (f.ps.map (·.data.toList)) []).length ≤ 140737488355328 := by
        rw [join_cat]; unfold catB at hs; rw [sizeL] at hs; exact hs
      refine Lib.hid ((Try.strings_Join g 0 f.c f.ps ⟨#[]⟩ V (fun j x hx => ?_) (Nat.lt_of_lt_of_le hg hVb.size) hn hc hl).mono ?_)
      · rw [Nat.zero_add]; exact (hVb.cell (p := ⟨g, j, none⟩) hg).trans (hat j x hx)
      · rintro e w' ⟨rfl, h⟩
        refine ⟨?_, h⟩
        have : (Lib.join (f.ps.map (·.data.toList)) ([] : List UInt8)).toArray = (f.ps.flatMap (fun p => p.data.toList)).toArray := by rw [join_cat]
        show Ending.returned (Value.string ⟨(Lib.join (f.ps.map (·.data.toList)) ([] : List UInt8)).toArray⟩) = _
        rw [this]; rfl
    · have hz : f.ps = [] := List.length_eq_zero_iff.1 (by omega)
      rw [hz]
      exact Lib.hid ((Try.strings_Join_none f.A f.c ⟨#[]⟩ V).mono fun e w' ⟨h1, h2⟩ => ⟨h1, by rw [h2]; exact Below.refl _ _⟩)
  have HB := Lib.hid hVb
  unfold Vf.val
  clear hp hVb
  go_enter Try.func59, Try.ntmps59
  go_wp2_with fail
  rw [← hV]
  clear hV
  refine hy.out.mono ?_
  rintro e w1 ⟨rfl, b1⟩
  go_wp2_with fail
  go_ret
  exact ⟨rfl, HB.out.trans (b1.mono HB.out.size)⟩
theorem sum_take {ps : List ByteArray} {k : Nat} {x : ByteArray} (h : ps[k]? = some x) : ((ps.take (k + 1)).map ByteArray.size).sum = ((ps.take k).map ByteArray.size).sum + x.size := by
  rw [List.take_add_one, h]
  simp
theorem sum_take_le (ps : List ByteArray) (k : Nat) : ((ps.take k).map ByteArray.size).sum ≤ (ps.map ByteArray.size).sum := by
  have : ps.map ByteArray.size = (ps.take k).map ByteArray.size ++ (ps.drop k).map ByteArray.size := by rw [← List.map_append, List.take_append_drop]
  rw [this, List.sum_append]; omega
set_option maxRecDepth 100000 in
set_option maxHeartbeats 800000 in
theorem size_any (base : Nat) (f : Vf) (w : World) (hp : Parts w base f) (hn : f.ps.length ≤ 140737488355328) (hs : (catB f.ps).size ≤ 140737488355328) :
    Calls Try.prog 92 #[f.val] w fun e w' => e = .returned (.int .i64 ((catB f.ps).size : Int)) ∧ Below w.heap.size w w' := by
  obtain ⟨V, hV⟩ : ∃ V, V = w.alloc (.cells #[.string f.n, .slice f.A f.ps.length f.c] 124) := ⟨_, rfl⟩
  have hVb : Below w.heap.size w V := by rw [hV]; exact (Below.refl _ _).alloc (Nat.le_refl _) _
  have hat : Hid (∀ (j : Nat) x, f.ps[j]? = some x → ∃ g, f.A = some ⟨g, 0, none⟩ ∧ V.cell? ⟨g, j, none⟩ = some (.string x)) := by
    refine Lib.hid (fun j x hx => ?_)
    obtain ⟨g, hA, hg, hc, hat⟩ := parts_at hp (by have := (List.getElem?_eq_some_iff.1 hx).1; omega)
    exact ⟨g, hA, (hVb.cell (p := ⟨g, j, none⟩) hg).trans (hat j x hx)⟩
  have HB := Lib.hid hVb
  rw [catB_size] at hs ⊢
  unfold Vf.val
  clear hp hVb
  go_enter Try.func92, Try.ntmps92
  go_wp2_with fail
  rw [← hV]
  clear hV
  go_loopw [3, 9] (fun s i wr => ∃ k : Nat, i = .int .i64 (k : Int) ∧ k ≤ f.ps.length ∧ s = .int .i64 (((f.ps.take k).map ByteArray.size).sum : Int) ∧ V = wr) (fun _ i _ => f.ps.length - (intOf i).toNat)
  case atStart => exact ⟨0, rfl, by omega, rfl, rfl⟩
  case round =>
    obtain ⟨k, rfl, hk, rfl, rfl⟩ := hrel
    by_cases hlt : k < f.ps.length
    · have hx : f.ps[k]? = some f.ps[k] := List.getElem?_eq_getElem hlt
      obtain ⟨g, hA, hc⟩ := hat.out k _ hx
      have hs1 := sum_take hx
      have hs2 := sum_take_le f.ps (k + 1)
      rw [hs1] at hs2
      generalize f.ps[k] = x at *
      rw [hA]
      generalize ((f.ps.take k).map ByteArray.size).sum = S at *
      have HS := Lib.hid hs1
      have hw : IntKind.i64.wrap ((S : Int) + (x.size : Int)) = (S : Int) + (x.size : Int) := by rw [IntKind.wrap_i64]; omega
      clear hs1 hx hs2 hs
      go_wp2_with fail
      go_roundw
      case rel => exact ⟨k + 1, by go_num, by omega, by rw [HS.out]; simp, trivial⟩
      case measure => simp [intOf]; omega
    · have hk2 : k = f.ps.length := by omega
      subst hk2
      rw [List.take_length]
      go_wp2_with fail
      go_ret
      exact ⟨rfl, HB.out⟩
end Go.Proofs.Ytammngncmkhokaa
namespace Go.Proofs.Ytammngncmkhokaa
open Go Go.RowKit

theorem growslice_ok {n c : Nat} (h : c < n) (hb : n * 40 ≤ 140737488355328) : Builtin.nextslicecap n c * 40 ≤ 281474976710656 := growslice_fits h hb
set_option maxRecDepth 100000 in
set_option maxHeartbeats 1600000 in
theorem insert_end (base n c vb : Nat) (A : Option Addr) (xs : List Value) (f : Vf) (w : World) (ho : w.ownsRow base 124 2 (.slice A n c) n xs) (hv : Own w vb 124 f.cells) (hn : (n + 1) * 40 ≤ 140737488355328) (hbase : base ≤ w.heap.size) :
    Calls Try.prog 95 #[.slice A n c, .int .i64 (n : Int), .slice (some ⟨vb, 0, none⟩) 1 1] w fun e w' => ∃ v', e = .returned v' ∧
      w'.ownsRow base 124 2 v' (n + 1) (xs ++ f.cells) ∧ w.grownBy w' (Value.slice A n c).ownBlock ∧ (v'.ownBlock = (Value.slice A n c).ownBlock ∨ v'.ownBlock = some w.heap.size) := by
  obtain ⟨i0, hi, hz0, hz1, hz2⟩ := info_parts infoVf
  have hU := Try.underlying81
  have hl : Lies 2 Vf.cells w w.heap.size (some ⟨vb, 0, none⟩) [f] := fun _ => by
    refine ⟨vb, 0, rfl, hv.inside, fun i x hx j u hu => ?_⟩
    match i, hx with
    | 0, hx =>
      obtain rfl : f = x := by simpa using hx
      rw [show 0 + 0 * 2 + j = j by omega, hv.at_ j]
      exact hu
  have hnews : ∀ j u, (Vf.cells f)[j]? = some u → w.cell? ((⟨vb, 0, none⟩ : Addr).add j) = some u := fun j u hu => by
    have ea : (⟨vb, 0, none⟩ : Addr).add j = ⟨vb, j, none⟩ := by unfold Addr.add; split <;> simp_all
    rw [ea, hv.at_ j]; exact hu
  obtain ⟨v', w', hrun, h2, h3, _, h5⟩ := run_append_own_at (P := Try.prog) w base 81 81 124 i0 _ 2 40 hU hi hz0 hz1 hz2 rfl (by decide) (.slice A n c) n xs ho ⟨vb, 0, none⟩ 1 1 f.cells rfl hnews (vf_one f) (by unfold maxLen; omega) hn hbase
  have hr2 : ∀ ty, Hid ((Builtin.append_ #[81, 81] ty #[.slice A n c, .slice (some ⟨vb, 0, none⟩) 1 1]).run Try.prog w = .ok v' w') := fun _ => Lib.hid hrun
  have HX := Lib.hid (And.intro h2 (And.intro h3 h5))
  clear hrun h2 h3 h5 hnews hl
  have hnc : n ≤ c := by
    rcases row_own ho with ⟨_, h0, _⟩ | ⟨g, cur, _, _, _, h0, _⟩ <;> omega
  clear ho hv
  rcases A with _ | ⟨ab, ao, asp⟩
  all_goals
    go_enter Try.func95, Try.ntmps95
    go_wp2_with (at_builtin; refine list_append_known _ rfl (.tmp 23) (.tmp 24) 81 81 rfl _ _ rfl rfl (hr2 _).out ?_)
    all_goals
      go_ret
      exact ⟨_, rfl, HX.out.1, HX.out.2.1, HX.out.2.2⟩
theorem own_drewK {w : World} {g : Nat} {t : TypeId} {l : List Value} (h : Own w g t l) : Own w.drew g t l := h
/-- no room: a new row -/
theorem splice_parts {A B C vs : List Value} {o : Nat} (ho : A.length = o) (hb : B.length = vs.length) : splice (A ++ (B ++ C)) o vs = A ++ (vs ++ C) := by
  subst ho
  unfold splice
  rw [List.take_left' rfl, List.append_assoc, List.append_cancel_left_eq, List.append_cancel_left_eq, ← hb, ← List.append_assoc, ← List.length_append, List.drop_left' rfl]
theorem splice3 {l news rest z : List Value} {i n : Nat} (hl : l.length = n * 2) (hi : i < n) (hn : news.length = 2) (hz : z.length = (n + 1 - i) * 2) :
    (splice (splice (l.take (i * 2) ++ z ++ rest) (i * 2) news) ((i + 1) * 2) (l.drop (i * 2))).take ((n + 1) * 2) = l.take (i * 2) ++ news ++ l.drop (i * 2) := by
  have h1 : (l.take (i * 2)).length = i * 2 := by rw [List.length_take]; omega
  have hz2 : z = z.take 2 ++ z.drop 2 := (List.take_append_drop 2 z).symm
  have e1 : splice (l.take (i * 2) ++ z ++ rest) (i * 2) news = l.take (i * 2) ++ (news ++ (z.drop 2 ++ rest)) := by
    have e0 : l.take (i * 2) ++ z ++ rest = l.take (i * 2) ++ (z.take 2 ++ (z.drop 2 ++ rest)) := by
      rw [List.append_assoc, ← List.append_assoc (z.take 2), List.take_append_drop]
    rw [e0]
    exact splice_parts h1 (by rw [List.length_take]; omega)
  have h2 : (l.take (i * 2) ++ news).length = (i + 1) * 2 := by rw [List.length_append, h1, hn]; omega
  have h3 : ((l.take (i * 2) ++ news) ++ l.drop (i * 2)).length = (n + 1) * 2 := by rw [List.length_append, h2, List.length_drop, hl]; omega
  rw [e1, ← List.append_assoc, splice_parts h2 (by rw [List.length_drop, List.length_drop, hl]; omega), ← List.append_assoc, ← h3, List.take_left' rfl]
set_option maxRecDepth 100000 in
set_option maxHeartbeats 3200000 in
theorem insert_grow (g n i vb : Nat) (cur : List Value) (f : Vf) (w : World) (ho : Own w g 124 cur) (hl : cur.length = n * 2) (hv : Own w vb 124 f.cells) (hi : i < n) (hn : (n + 1) * 40 ≤ 140737488355328) (h1 : ∀ u ∈ cur, u.oneCell' = true) :
    Calls Try.prog 95 #[.slice (some ⟨g, 0, none⟩) n n, .int .i64 (i : Int), .slice (some ⟨vb, 0, none⟩) 1 1] w fun e w' => ∃ G cur', e = .returned (.slice (some ⟨w.heap.size, 0, none⟩) (n + 1) G) ∧
      Own w' w.heap.size 124 cur' ∧ n + 1 ≤ G ∧ G ≤ maxLen ∧ cur'.length = G * 2 ∧ cur'.take ((n + 1) * 2) = cur.take (i * 2) ++ f.cells ++ cur.drop (i * 2) ∧ Below w.heap.size w w' := by
  obtain ⟨i0, hi0, hz0, hzs, hzb⟩ := info_parts infoVf
  have hU := Try.underlying81
  have hUi := Try.underlying3
  have hsz : (Try.prog.info? 124).map (·.size) = some 2 := by rw [hi0]; simp [hzs]
  have hbw := ho.inside
  have hvw := hv.inside
  have hkk : (n : Int) + 1 - (i : Int) = ((n + 1 - i : Nat) : Int) := by omega
  have hik : i + (n + 1 - i) = n + 1 := by omega
  have hold : (Builtin.firstCells i0.size i (.slice (some ⟨g, 0, none⟩) i n)).run Try.prog w.drew = .ok (cur.take (i * 2)).toArray w.drew := by
    rw [hzs]
    refine run_firstCells_some w.drew 2 i ⟨g, 0, none⟩ i n (cur.take (i * 2)) (by rw [List.length_take]; omega) (fun j v hj => ?_)
    have ea : (⟨g, 0, none⟩ : Addr).add j = ⟨g, j, none⟩ := by unfold Addr.add; split <;> simp_all
    rw [ea, (own_drewK ho).at_ j]
    rw [List.getElem?_take] at hj
    split at hj
    · exact hj
    · cases hj
  obtain ⟨G, hG⟩ : ∃ G, G = grownCap w (n + 1) n 124 := ⟨_, rfl⟩
  have hGn : n + 1 ≤ G := by rw [hG]; exact grownCap_ge w _ _ _
  have hG63 : G ≤ maxLen := by rw [hG]; exact grownCap_le_maxLen w (n + 1) n 124 (by unfold maxLen; omega)
  obtain ⟨ROW, hROW⟩ : ∃ ROW : Array Value, ROW = (cur.take (i * 2)).toArray ++ Builtin.zeroCells zeroVf.cells (n + 1 - i) ++ Builtin.zeroCells zeroVf.cells (G - (n + 1)) := ⟨_, rfl⟩
  have hz2 : zeroVf.cells.size = 2 := rfl
  have hRl : ROW.size = G * 2 := by
    rw [hROW, Array.size_append, Array.size_append, size_zeroCells, size_zeroCells, hz2, List.size_toArray, List.length_take]
    omega
  obtain ⟨W1, hW1⟩ : ∃ W1, W1 = w.drew.alloc (.cells ROW 124) := ⟨_, rfl⟩
  have hrz : ∀ ty, (Builtin.append_ #[81, 3] ty #[.slice (some ⟨g, 0, none⟩) i n, .int .i64 ((n : Int) + 1 - (i : Int))]).run Try.prog w = .ok (.slice (some ⟨w.heap.size, 0, none⟩) (n + 1) G) W1 := fun ty => by
    have h := Lib.run_append_grow_zeros w 81 3 ty 124 i0 _ .i64 .i64 hU hUi hi0 hz0 (some ⟨g, 0, none⟩) i n (cur.take (i * 2)) hold (n + 1 - i) (by omega) (by omega) (by omega) (by omega) (by rw [hzb]; omega) (by rw [hzb, hik]; exact growslice_ok (by omega) hn)
    rw [hik] at h
    rw [hkk, hW1, hROW, hG]
    exact h
  have oR : Own W1 w.heap.size 124 ROW.toList := by
    rw [hW1]
    have := Own.made w.drew 124 ROW.toList
    simpa using this
  have oG : Own W1 g 124 cur := by rw [hW1]; exact (own_drewK ho).more _
  have oV : Own W1 vb 124 f.cells := by rw [hW1]; exact (own_drewK hv).more _
  have bW : Below w.heap.size w W1 := by rw [hW1]; exact (Below.drew (Below.refl _ _)).alloc (Nat.le_refl _) _
  have hRlen : ROW.toList.length = G * 2 := by simpa using hRl
  obtain ⟨W2, hW2⟩ : ∃ W2, W2 = W1.setRow w.heap.size (splice ROW.toList (i * 2) f.cells).toArray := ⟨_, rfl⟩
  have hcA : ∀ ty dc, (Builtin.copy_ #[81, 81] ty #[.slice (some ⟨w.heap.size, i * 2, none⟩) (n + 1 - i) dc, .slice (some ⟨vb, 0, none⟩) 1 1]).run Try.prog W1 = .ok (goInt (Nat.min 1 (n + 1 - i))) W2 := fun ty dc => by
    rw [hW2]
    refine run_copy_into W1 _ _ ty 124 w.heap.size (i * 2) (n + 1 - i) dc ⟨vb, 0, none⟩ 1 1 2 ROW.toList f.cells 124 hU hsz oR ?_ (fun j v hj => ?_) (by rw [hRlen]; simp [Vf.cells]; omega) (vf_one f)
    · have : Nat.min 1 (n + 1 - i) = 1 := Nat.min_eq_left (by omega)
      rw [this]; rfl
    · have ea : (⟨vb, 0, none⟩ : Addr).add j = ⟨vb, j, none⟩ := by unfold Addr.add; split <;> simp_all
      rw [ea, oV.at_ j]; exact hj
  have oR2 : Own W2 w.heap.size 124 (splice ROW.toList (i * 2) f.cells) := by rw [hW2]; exact own_rowK oR
  have oG2 : Own W2 g 124 cur := by
    rw [hW2]; unfold Own; rw [row_other (by omega)]; exact oG
  have hl2 : (splice ROW.toList (i * 2) f.cells).length = G * 2 := by rw [splice_len (by rw [hRlen]; simp [Vf.cells]; omega), hRlen]
  have hcl : (cur.drop (i * 2)).length = (n - i) * 2 := by rw [List.length_drop, hl]; omega
  obtain ⟨W3, hW3⟩ : ∃ W3, W3 = W2.drew.setRow w.heap.size (splice (splice ROW.toList (i * 2) f.cells) ((i + 1) * 2) (cur.drop (i * 2))).toArray := ⟨_, rfl⟩
  have hcB : ∀ ty dc sc, (Builtin.copy_ #[81, 81] ty #[.slice (some ⟨w.heap.size, (i + 1) * 2, none⟩) (n + 1 - (i + 1)) dc, .slice (some ⟨g, i * 2, none⟩) (n - i) sc]).run Try.prog W2.drew = .ok (goInt (Nat.min (n - i) (n + 1 - (i + 1)))) W3 := fun ty dc sc => by
    rw [hW3]
    refine run_copy_into W2.drew _ _ ty 124 w.heap.size ((i + 1) * 2) (n + 1 - (i + 1)) dc ⟨g, i * 2, none⟩ (n - i) sc 2 _ (cur.drop (i * 2)) 124 hU hsz oR2 ?_ (fun j v hj => ?_) (by rw [hl2, hcl]; omega) (fun u hu => h1 u (List.mem_of_mem_drop hu))
    · have : Nat.min (n - i) (n + 1 - (i + 1)) = n - i := Nat.min_eq_left (by omega)
      rw [this, hcl]
    · have ea : (⟨g, i * 2, none⟩ : Addr).add j = ⟨g, i * 2 + j, none⟩ := by unfold Addr.add; split <;> simp_all
      rw [ea, (own_drewK oG2).at_ (i * 2 + j)]
      rw [List.getElem?_drop] at hj; exact hj
  have oR3 : Own W3 w.heap.size 124 (splice (splice ROW.toList (i * 2) f.cells) ((i + 1) * 2) (cur.drop (i * 2))) := by rw [hW3]; exact own_rowK (w := W2.drew) oR2
  have b3 : Below w.heap.size w W3 := by
    rw [hW3, hW2]
    exact ⟨bW.os, bW.tape, bW.output, by simpa using bW.size, fun k hk => (row_other (by omega)).trans ((row_other (w := W1) (by omega)).trans (bW.block k hk))⟩
  have hfin : (splice (splice ROW.toList (i * 2) f.cells) ((i + 1) * 2) (cur.drop (i * 2))).take ((n + 1) * 2) = cur.take (i * 2) ++ f.cells ++ cur.drop (i * 2) := by
    have : ROW.toList = cur.take (i * 2) ++ (Builtin.zeroCells zeroVf.cells (n + 1 - i)).toList ++ (Builtin.zeroCells zeroVf.cells (G - (n + 1))).toList := by rw [hROW]; simp
    rw [this]
    exact splice3 hl hi rfl (by rw [Array.length_toList, size_zeroCells, hz2])
  have hlen3 : (splice (splice ROW.toList (i * 2) f.cells) ((i + 1) * 2) (cur.drop (i * 2))).length = G * 2 := by rw [splice_len (by rw [hl2, hcl]; omega), hl2]
  have HX := Lib.hid (And.intro oR3 (And.intro hGn (And.intro hG63 (And.intro hlen3 (And.intro hfin b3)))))
  have hB3 := fun ty dc sc => Lib.hid (hcB ty dc sc)
  unfold maxLen at hG63
  clear oR3 hlen3 hfin b3 hcB hl2 hcl oG2 oR2 hRlen bW oV oG oR hRl hROW hG hold hik hkk hz0 hzs hzb hsz hi0 hW1 hW2 hW3 h1 hl
  have hGi : ¬ (G = i) := by omega
  have hGim : ¬ (G = i + 1) := by omega
  have hci : ¬ (n = i) := by omega
  have hni : ¬ ((i : Int) = (n : Int)) := by omega
  have htn : ((i : Int) + 1).toNat = i + 1 := by omega
  have hb1 : (0 : Int) ≤ (i : Int) + 1 := by omega
  have hw1 : IntKind.i64.wrap ((i : Int) + 1) = (i : Int) + 1 := by rw [IntKind.wrap_i64]; omega
  have hb4 : (i : Int) + 1 ≤ (n : Int) + 1 := by omega
  have hb3 : (i : Int) ≤ (n : Int) := by omega
  have hin : i ≤ n := by omega
  have hgr : (n : Int) < (n : Int) + 1 := by omega
  go_enter Try.func95, Try.ntmps95
  go_wp2_with (first
    | (at_builtin; refine list_append_known _ rfl (.tmp 34) (.tmp 39) 81 3 rfl _ _ rfl rfl (hrz _) ?_)
    | (at_builtin; refine list_copy_known _ rfl (.tmp 43) (.tmp 44) 81 81 rfl _ _ rfl rfl (hcA _ _) ?_))
  go_region_law (refine step_copy_known rfl (.tmp 50) (.tmp 53) 81 81 rfl (.slice (some ⟨w.heap.size, (i + 1) * 2, none⟩) (n + 1 - (i + 1)) (G - (i + 1))) (.slice (some ⟨g, i * 2, none⟩) (n - i) (n - i)) (by simp [Act.eval, Act.put]) (by simp [Act.eval, Act.put]) (hB3 _ _ _).out ?_)
  go_wp2_with fail
  go_ret
  exact ⟨G, _, rfl, HX.out.1, HX.out.2.1, HX.out.2.2.1, HX.out.2.2.2.1, HX.out.2.2.2.2.1, HX.out.2.2.2.2.2⟩
end Go.Proofs.Ytammngncmkhokaa
namespace Go.Proofs.Ytammngncmkhokaa
open Go Go.RowKit

set_option maxRecDepth 100000 in
theorem overlaps_no (w : World) (g vb o1 lb cb la ca : Nat) (cur vs : List Value) (hg : Own w g 124 cur) (hv : Own w vb 124 vs) (hne : vb ≠ g) (hc : cur.length ≠ 0) :
    (callFunc 97 #[.slice (some ⟨vb, 0, none⟩) la ca, .slice (some ⟨g, o1, none⟩) lb cb]).run Try.prog w = .ok (.value (.bool false)) w := by
  have hs1 : w.shape? vb = some (124, vs.length) := by
    unfold World.shape?; have := hv; unfold Own at this; rw [this]; simp
  have hs2 : w.shape? g = some (124, cur.length) := by
    unfold World.shape?; have := hg; unfold Own at this; rw [this]; simp
  rw [run_callFunc_extern Try.func97 (by kernel_rfl) (by kernel_rfl) (by kernel_rfl) (e := Extern.SlicesOverlaps.overlaps #[81, 81] #[4]) (by kernel_rfl),
    Lib.run_overlaps_apart w 81 4 124 Try.underlying81 2 Try.sizeOf124 ⟨vb, 0, none⟩ ⟨g, o1, none⟩ la ca lb cb hne _ _ _ _ hs1 hs2 hc (hv.open_ 0) (hv.open_ _)]
  rfl
theorem splice4 {cur news : List Value} {i n c : Nat} (hl : cur.length = c * 2) (hc : n + 1 ≤ c) (hi : i < n) (hn : news.length = 2) :
    (splice (splice cur ((i + 1) * 2) ((cur.take (n * 2)).drop (i * 2))) (i * 2) news).take ((n + 1) * 2) = (cur.take (n * 2)).take (i * 2) ++ news ++ (cur.take (n * 2)).drop (i * 2) := by
  have h0 : (cur.take (n * 2)).length = n * 2 := by rw [List.length_take]; omega
  have hd : ((cur.take (n * 2)).drop (i * 2)).length = (n - i) * 2 := by rw [List.length_drop, h0]; omega
  have e1 : splice cur ((i + 1) * 2) ((cur.take (n * 2)).drop (i * 2)) = cur.take (i * 2) ++ ((cur.drop (i * 2)).take 2 ++ ((cur.take (n * 2)).drop (i * 2) ++ cur.drop ((n + 1) * 2))) := by
    unfold splice
    rw [hd, show (i + 1) * 2 + (n - i) * 2 = (n + 1) * 2 by omega, show (i + 1) * 2 = i * 2 + 2 by omega, List.take_add, List.append_assoc, List.append_assoc]
  rw [e1, splice_parts (by rw [List.length_take]; omega) (by rw [List.length_take, List.length_drop, hn]; omega)]
  have e2 : (cur.take (n * 2)).take (i * 2) = cur.take (i * 2) := by rw [List.take_take]; congr 1; omega
  rw [e2, ← List.append_assoc, ← List.append_assoc]
  have h3 : (cur.take (i * 2) ++ news ++ (cur.take (n * 2)).drop (i * 2)).length = (n + 1) * 2 := by rw [List.length_append, List.length_append, hd, hn, List.length_take]; omega
  rw [← h3, List.take_left' rfl]
set_option maxRecDepth 100000 in
set_option maxHeartbeats 3200000 in
theorem insert_shift (g n c i vb : Nat) (cur : List Value) (f : Vf) (w : World) (ho : Own w g 124 cur) (hl : cur.length = c * 2) (hm : c ≤ maxLen) (hc : n + 1 ≤ c) (hv : Own w vb 124 f.cells) (hne : vb ≠ g) (hi : i < n) (h1 : ∀ u ∈ cur.take (n * 2), u.oneCell' = true) :
    Calls Try.prog 95 #[.slice (some ⟨g, 0, none⟩) n c, .int .i64 (i : Int), .slice (some ⟨vb, 0, none⟩) 1 1] w fun e w' => e = .returned (.slice (some ⟨g, 0, none⟩) (n + 1) c) ∧ ∃ cur',
      Own w' g 124 cur' ∧ cur'.length = c * 2 ∧ cur'.take ((n + 1) * 2) = (cur.take (n * 2)).take (i * 2) ++ f.cells ++ (cur.take (n * 2)).drop (i * 2) ∧ w.grownBy w' (some g) := by
  obtain ⟨i0, hi0, hz0, hzs, hzb⟩ := info_parts infoVf
  have hU := Try.underlying81
  have hsz : (Try.prog.info? 124).map (·.size) = some 2 := by rw [hi0]; simp [hzs]
  have h0 : (cur.take (n * 2)).length = n * 2 := by rw [List.length_take]; omega
  have hd : ((cur.take (n * 2)).drop (i * 2)).length = (n - i) * 2 := by rw [List.length_drop, h0]; omega
  have hov : ∀ lb cb, (callFunc 97 #[.slice (some ⟨vb, 0, none⟩) 1 1, .slice (some ⟨g, (i + 1) * 2, none⟩) lb cb]).run Try.prog w = .ok (.value (.bool false)) w := fun lb cb => by
    exact overlaps_no w g vb _ lb cb 1 1 cur f.cells ho hv hne (by omega)
  obtain ⟨W1, hW1⟩ : ∃ W1, W1 = w.drew.setRow g (splice cur ((i + 1) * 2) ((cur.take (n * 2)).drop (i * 2))).toArray := ⟨_, rfl⟩
  have hcA : ∀ ty dc sc, (Builtin.copy_ #[81, 81] ty #[.slice (some ⟨g, (i + 1) * 2, none⟩) (n + 1 - (i + 1)) dc, .slice (some ⟨g, i * 2, none⟩) (n + 1 - i) sc]).run Try.prog w.drew = .ok (goInt (Nat.min (n + 1 - i) (n + 1 - (i + 1)))) W1 := fun ty dc sc => by
    rw [hW1]
    refine run_copy_into w.drew _ _ ty 124 g ((i + 1) * 2) (n + 1 - (i + 1)) dc ⟨g, i * 2, none⟩ (n + 1 - i) sc 2 cur _ 124 hU hsz ho ?_ (fun j v hj => ?_) (by rw [hd, hl]; omega) (fun u hu => h1 u (List.mem_of_mem_drop hu))
    · have : Nat.min (n + 1 - i) (n + 1 - (i + 1)) = n - i := by show min _ _ = _; omega
      rw [this, hd]
    · have ea : (⟨g, i * 2, none⟩ : Addr).add j = ⟨g, i * 2 + j, none⟩ := by unfold Addr.add; split <;> simp_all
      rw [ea, (own_drewK ho).at_ (i * 2 + j)]
      rw [List.getElem?_drop, List.getElem?_take] at hj
      split at hj
      · exact hj
      · cases hj
  have o1 : Own W1 g 124 (splice cur ((i + 1) * 2) ((cur.take (n * 2)).drop (i * 2))) := by rw [hW1]; exact own_rowK (w := w.drew) ho
  have v1 : Own W1 vb 124 f.cells := by rw [hW1]; unfold Own; rw [row_other hne]; exact hv
  have l1 : (splice cur ((i + 1) * 2) ((cur.take (n * 2)).drop (i * 2))).length = c * 2 := by rw [splice_len (by rw [hd, hl]; omega), hl]
  obtain ⟨W2, hW2⟩ : ∃ W2, W2 = W1.setRow g (splice (splice cur ((i + 1) * 2) ((cur.take (n * 2)).drop (i * 2))) (i * 2) f.cells).toArray := ⟨_, rfl⟩
  have hcB : ∀ ty dc, (Builtin.copy_ #[81, 81] ty #[.slice (some ⟨g, i * 2, none⟩) (n + 1 - i) dc, .slice (some ⟨vb, 0, none⟩) 1 1]).run Try.prog W1 = .ok (goInt (Nat.min 1 (n + 1 - i))) W2 := fun ty dc => by
    rw [hW2]
    refine run_copy_into W1 _ _ ty 124 g (i * 2) (n + 1 - i) dc ⟨vb, 0, none⟩ 1 1 2 _ f.cells 124 hU hsz o1 ?_ (fun j v hj => ?_) (by rw [l1]; simp [Vf.cells]; omega) (vf_one f)
    · have : Nat.min 1 (n + 1 - i) = 1 := Nat.min_eq_left (by omega)
      rw [this]; rfl
    · have ea : (⟨vb, 0, none⟩ : Addr).add j = ⟨vb, j, none⟩ := by unfold Addr.add; split <;> simp_all
      rw [ea, v1.at_ j]; exact hj
  have o2 : Own W2 g 124 (splice (splice cur ((i + 1) * 2) ((cur.take (n * 2)).drop (i * 2))) (i * 2) f.cells) := by rw [hW2]; exact own_rowK o1
  have l2 : (splice (splice cur ((i + 1) * 2) ((cur.take (n * 2)).drop (i * 2))) (i * 2) f.cells).length = c * 2 := by rw [splice_len (by rw [l1]; simp [Vf.cells]; omega), l1]
  have gr : w.grownBy W2 (some g) := by
    rw [hW2, hW1]
    exact ⟨rfl, rfl, rfl, by simp, fun k _ hk => (row_other (fun e => hk (by rw [e]))).trans (row_other (w := w.drew) (fun e => hk (by rw [e])))⟩
  have HX := Lib.hid (And.intro o2 (And.intro l2 (And.intro (splice4 hl hc hi (rfl : f.cells.length = 2)) gr)))
  have hB1 := fun ty dc sc => Lib.hid (hcA ty dc sc)
  unfold maxLen at hm
  clear o2 l2 gr hcA o1 v1 l1 hW1 hW2 hd h0 hsz hi0 hz0 hzs hzb h1 hl ho hv
  have hci : ¬ (c = i) := by omega
  have hci1 : ¬ (c = i + 1) := by omega
  have hni : ¬ ((i : Int) = (n : Int)) := by omega
  have htn : ((i : Int) + 1).toNat = i + 1 := by omega
  have htn2 : ((n : Int) + 1).toNat = n + 1 := by omega
  have hb1 : (0 : Int) ≤ (i : Int) + 1 := by omega
  have hb5 : (0 : Int) ≤ (n : Int) + 1 := by omega
  have hw1 : IntKind.i64.wrap ((i : Int) + 1) = (i : Int) + 1 := by rw [IntKind.wrap_i64]; omega
  have hw2 : IntKind.i64.wrap ((n : Int) + 1) = (n : Int) + 1 := by rw [IntKind.wrap_i64]; omega
  have hb4 : (i : Int) + 1 ≤ (n : Int) + 1 := by omega
  have hb3 : (i : Int) ≤ (n : Int) := by omega
  have hb6 : (i : Int) ≤ (n : Int) + 1 := by omega
  have hin : i ≤ n := by omega
  have hgr : ¬ ((c : Int) < (n : Int) + 1) := by omega
  have hgr2 : (n : Int) + 1 ≤ (c : Int) := by omega
  go_enter Try.func95, Try.ntmps95
  go_wp2_with (simp only [hov])
  go_region_law (refine step_copy_known rfl (.tmp 73) (.tmp 76) 81 81 rfl (.slice (some ⟨g, (i + 1) * 2, none⟩) (n + 1 - (i + 1)) (c - (i + 1))) (.slice (some ⟨g, i * 2, none⟩) (n + 1 - i) (c - i)) (by simp [Act.eval, Act.put]) (by simp [Act.eval, Act.put]) (hB1 _ _ _).out ?_)
  go_wp2_with (at_builtin; refine list_copy_known _ rfl (.tmp 80) (.tmp 81) 81 81 rfl _ _ rfl rfl (hcB _ _) ?_)
  go_ret
  exact ⟨rfl, _, HX.out.1, HX.out.2.1, HX.out.2.2.1, HX.out.2.2.2⟩
/-- slices.Insert of one file, wherever -/
theorem insert_any (base n c i vb : Nat) (A : Option Addr) (xs : List Value) (f : Vf) (w : World) (ho : w.ownsRow base 124 2 (.slice A n c) n xs) (hv : Own w vb 124 f.cells) (hne : (Value.slice A n c).ownBlock ≠ some vb) (hi : i ≤ n) (hn : (n + 1) * 40 ≤ 140737488355328) (hbase : base ≤ w.heap.size) (h1 : ∀ u ∈ xs, u.oneCell' = true) :
    Calls Try.prog 95 #[.slice A n c, .int .i64 (i : Int), .slice (some ⟨vb, 0, none⟩) 1 1] w fun e w' => ∃ A' c', e = .returned (.slice A' (n + 1) c') ∧
      w'.ownsRow base 124 2 (.slice A' (n + 1) c') (n + 1) (xs.take (i * 2) ++ f.cells ++ xs.drop (i * 2)) ∧ w.grownBy w' (Value.slice A n c).ownBlock ∧ ((Value.slice A' (n + 1) c').ownBlock = (Value.slice A n c).ownBlock ∨ (Value.slice A' (n + 1) c').ownBlock = some w.heap.size) := by
  by_cases hin : i = n
  · subst hin
    refine (insert_end base i c vb A xs f w ho hv hn hbase).mono ?_
    rintro e w' ⟨v', rfl, h2, h3, h4⟩
    have hx : xs.take (i * 2) = xs ∧ xs.drop (i * 2) = [] := ⟨List.take_of_length_le (by rw [ho.1]; omega), List.drop_of_length_le (by rw [ho.1]; omega)⟩
    rw [hx.1, hx.2, List.append_nil]
    rcases h2.2 with ⟨rfl, h0⟩ | ⟨g, cap, cur, rfl, hb, rest⟩
    · omega
    · exact ⟨_, _, rfl, h2, h3, h4⟩
  · rcases row_own ho with ⟨_, h0, _⟩ | ⟨g, cur, rfl, hb, hg, hnc, hm, hl, rfl⟩
    · omega
    · by_cases hr : n + 1 ≤ c
      · refine (insert_shift g n c i vb cur f w hg hl hm hr hv (fun e => hne (by rw [← e]; rfl)) (by omega) h1).mono ?_
        rintro e w' ⟨rfl, cur', o', l', t', g'⟩
        exact ⟨_, _, rfl, by rw [← t']; exact own_to_row o' hb hr hm l', g', .inl rfl⟩
      · obtain rfl : c = n := by omega
        have ht : cur.take (c * 2) = cur := List.take_of_length_le (by omega)
        rw [ht] at h1 ⊢
        refine (insert_grow g c i vb cur f w hg hl hv (by omega) hn h1).mono ?_
        rintro e w' ⟨G, cur', rfl, o', g1, g2, l', t', b'⟩
        exact ⟨_, _, rfl, by rw [← t']; exact own_to_row o' hbase g1 g2 l', ⟨b'.os, b'.tape, b'.output, b'.size, fun k hk _ => b'.block k hk⟩, .inr rfl⟩
end Go.Proofs.Ytammngncmkhokaa
namespace Go.Proofs.Ytammngncmkhokaa
open Go Go.RowKit

def Vf.fl (f : Vf) : Fl := ⟨f.n, catB f.ps⟩
def flV (l : List Vf) : List Fl := l.map Vf.fl
theorem names_fl (l : List Vf) : namesF (flV l) = namesV l := by unfold namesF flV namesV; rw [List.map_map]; rfl
def blk (A : Option Addr) : Option Nat := A.map (·.block)
theorem blk_own (A : Option Addr) (n c : Nat) : (Value.slice A n c).ownBlock = blk A := by cases A <;> rfl
def Fp (A : Option Addr) (l : List Vf) (k : Nat) : Prop := blk A = some k ∨ ∃ f ∈ l, blk f.A = some k
def wtV (l : List Vf) : Nat := l.length + (l.map (fun f => f.ps.length)).sum + szF (flV l)
structure Vis (w : World) (base : Nat) (A : Option Addr) (c : Nat) (l : List Vf) : Prop where
  row : w.ownsRow base 124 2 (.slice A l.length c) l.length (l.flatMap Vf.cells)
  parts : ∀ f ∈ l, Parts w base f
  apart : l.Pairwise (fun f g => ∀ k, blk f.A = some k → blk g.A ≠ some k)
  row_apart : ∀ f ∈ l, ∀ k, blk f.A = some k → blk A ≠ some k
theorem Vis.lt {w : World} {base : Nat} {A : Option Addr} {c : Nat} {l : List Vf} (h : Vis w base A c l) : ∀ k, Fp A l k → base ≤ k ∧ k < w.heap.size := by
  intro k hk
  rcases hk with hk | ⟨f, hf, hk⟩
  · exact h.row.lt k (by rw [blk_own]; exact hk)
  · exact (h.parts f hf).lt k (by rw [blk_own]; exact hk)
theorem Vis.kept {w w' : World} {base : Nat} {A : Option Addr} {c : Nat} {l : List Vf} {S : Nat → Prop} (h : Vis w base A c l) (hk : Kept w w' S) (hs : ∀ k, Fp A l k → ¬ S k) : Vis w' base A c l :=
  ⟨hk.row h.row (fun k e => hs k (.inl (by rw [← blk_own]; exact e))), fun f hf => hk.row (h.parts f hf) (fun k e => hs k (.inr ⟨f, hf, by rw [← blk_own]; exact e⟩)), h.apart, h.row_apart⟩
structure VisAt (w : World) (base G o : Nat) (t : TypeId) (cs : List Value) (A : Option Addr) (c : Nat) (l : List Vf) : Prop where
  own : Own w G t cs
  c0 : cs[o]? = some (.slice A l.length c)
  c1 : cs[o + 1]? = some (.int .i64 (szF (flV l) : Int))
  vis : Vis w base A c l
  out : ¬ Fp A l G
  sorted : SortedN (namesV l)
  wt : wtV l ≤ 1099511627776
  le : base ≤ w.heap.size
def setV (cs : List Value) (o : Nat) (A : Option Addr) (c : Nat) (l : List Vf) : List Value := (cs.set o (.slice A l.length c)).set (o + 1) (.int .i64 (szF (flV l) : Int))
theorem setV_again (cs : List Value) (o : Nat) (A A' : Option Addr) (c c' : Nat) (l l' : List Vf) : setV (setV cs o A c l) o A' c' l' = setV cs o A' c' l' := by
  unfold setV
  apply List.ext_getElem?
  intro i
  simp only [List.getElem?_set, List.length_set]
  split
  · rfl
  · split
    · rfl
    · rfl
structure VisTo (w w' : World) (base G o : Nat) (t : TypeId) (cs : List Value) (F : Nat → Prop) (A' : Option Addr) (c' : Nat) (l' : List Vf) : Prop where
  at_ : VisAt w' base G o t (setV cs o A' c' l') A' c' l'
  kept : Kept w w' (fun k => k = G ∨ F k)
  fp : ∀ k, Fp A' l' k → F k ∨ w.heap.size ≤ k
theorem VisAt.inside {w : World} {base G o : Nat} {t : TypeId} {cs : List Value} {A : Option Addr} {c : Nat} {l : List Vf} (h : VisAt w base G o t cs A c l) : G < w.heap.size := h.own.inside
theorem VisAt.below {w w' : World} {base G o : Nat} {t : TypeId} {cs : List Value} {A : Option Addr} {c : Nat} {l : List Vf} (h : VisAt w base G o t cs A c l) (hb : Below w.heap.size w w') : VisAt w' base G o t cs A c l :=
  ⟨h.own.past hb h.own.inside, h.c0, h.c1, h.vis.kept (Kept.of_below hb (Nat.le_refl _) (fun _ => False)) (fun _ _ h => h), h.out, h.sorted, h.wt, Nat.le_trans h.le hb.size⟩
theorem VisAt.self {w : World} {base G o : Nat} {t : TypeId} {cs : List Value} {A : Option Addr} {c : Nat} {l : List Vf} (h : VisAt w base G o t cs A c l) : setV cs o A c l = cs := by
  unfold setV
  apply List.ext_getElem?
  intro i
  rw [List.getElem?_set]
  split
  · rename_i hi; subst hi
    rw [h.c1]
    have := (List.getElem?_eq_some_iff.1 h.c1).1
    simp [this]
  · rw [List.getElem?_set]
    split
    · rename_i hi; subst hi
      rw [h.c0]
      have := (List.getElem?_eq_some_iff.1 h.c0).1
      simp [this]
    · rfl
theorem VisTo.refl {w w' : World} {base G o : Nat} {t : TypeId} {cs : List Value} {A : Option Addr} {c : Nat} {l : List Vf} (h : VisAt w base G o t cs A c l) (hb : Below w.heap.size w w') : VisTo w w' base G o t cs (Fp A l) A c l :=
  ⟨by rw [h.self]; exact h.below hb, Kept.of_below hb (Nat.le_refl _) _, fun k hk => .inl hk⟩
theorem VisTo.trans {w w1 w2 : World} {base G o : Nat} {t : TypeId} {cs : List Value} {A1 A2 : Option Addr} {c1 c2 : Nat} {F F1 : Nat → Prop} {l1 l2 : List Vf}
    (h : VisTo w w1 base G o t cs F A1 c1 l1) (k : VisTo w1 w2 base G o t (setV cs o A1 c1 l1) F1 A2 c2 l2) (hF : ∀ k, F1 k → F k ∨ w.heap.size ≤ k) : VisTo w w2 base G o t cs F A2 c2 l2 :=
  ⟨by have := k.at_; rwa [setV_again] at this,
    h.kept.trans k.kept (fun b hb hx => by
      rcases hx with rfl | hx
      · exact .inl rfl
      · rcases hF b hx with h1 | h1
        · exact .inr h1
        · omega),
    fun b hx => by
      rcases k.fp b hx with h1 | h1
      · exact hF b h1
      · exact .inr (Nat.le_trans h.kept.size h1)⟩
theorem VisTo.after {w w1 w2 : World} {base G o : Nat} {t : TypeId} {cs : List Value} {A1 : Option Addr} {c1 : Nat} {F : Nat → Prop} {l1 : List Vf} (hb : Below w.heap.size w w1) (k : VisTo w1 w2 base G o t cs F A1 c1 l1) : VisTo w w2 base G o t cs F A1 c1 l1 :=
  ⟨k.at_, (Kept.of_below hb (Nat.le_refl _) (fun b => b = G ∨ F b)).trans k.kept (fun b _ hx => hx), fun b hx => by
    rcases k.fp b hx with h1 | h1
    · exact .inl h1
    · exact .inr (Nat.le_trans hb.size h1)⟩
theorem VisTo.then_ {w w1 w2 : World} {base G o : Nat} {t : TypeId} {cs : List Value} {A1 : Option Addr} {c1 : Nat} {F : Nat → Prop} {l1 : List Vf} (k : VisTo w w1 base G o t cs F A1 c1 l1) (hb : Below w1.heap.size w1 w2) : VisTo w w2 base G o t cs F A1 c1 l1 :=
  ⟨k.at_.below hb, k.kept.trans (Kept.of_below hb (Nat.le_refl _) (fun _ => False)) (fun _ _ h => h.elim), k.fp⟩
theorem VisTo.wider {w w1 : World} {base G o : Nat} {t : TypeId} {cs : List Value} {A1 : Option Addr} {c1 : Nat} {F F' : Nat → Prop} {l1 : List Vf} (k : VisTo w w1 base G o t cs F A1 c1 l1) (hF : ∀ k, F k → F' k) : VisTo w w1 base G o t cs F' A1 c1 l1 :=
  ⟨k.at_, k.kept.more (fun b hx => by rcases hx with h | h; exact .inl h; exact .inr (hF b h)), fun b hx => by
    rcases k.fp b hx with h1 | h1
    · exact .inl (hF b h1)
    · exact .inr h1⟩
theorem len_le_wt (l : List Vf) : l.length ≤ wtV l := by unfold wtV; omega
theorem parts_le_wt {l : List Vf} {f : Vf} (h : f ∈ l) : f.ps.length ≤ wtV l := by
  have : f.ps.length ≤ (l.map (fun f => f.ps.length)).sum := by
    induction l with
    | nil => cases h
    | cons x l ih =>
      rw [List.map_cons, List.sum_cons]
      rcases List.mem_cons.1 h with rfl | h
      · omega
      · have := ih h; omega
  unfold wtV; omega
theorem size_le_wt {l : List Vf} {f : Vf} (h : f ∈ l) : (catB f.ps).size ≤ szF (flV l) := by
  induction l with
  | nil => cases h
  | cons x l ih =>
    unfold flV at *
    rw [List.map_cons, szF_cons]
    rcases List.mem_cons.1 h with rfl | h
    · exact Nat.le_add_right _ _
    · have := ih h; omega
end Go.Proofs.Ytammngncmkhokaa
