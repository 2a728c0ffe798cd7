/- Part 3 of the texts on which SpineHolds rests: facts and contracts. -/
import Derived.Test.YtenjlhlighkenaaGreatSpineHoldsM2
import Derived.Test.YtenjlhlighkenaaGreatSortU
import Derived.Test.YtenjlhlighkenaaGreatSortC
import Derived.Shelf.SlSortCmp.NoneTotal
import Derived.Deep.CutBlock
namespace Go.Proofs.YtenjlhlighkenaaGreat
open Go Go.RowKit Go.Sort Go.Lib Go.Shelf

section
variable {α : Type} [Inhabited α] {enc : α → List Value} {k : Nat} {w : World} {blk off m : Nat} {dk : Array α} {os : Array Obj}
theorem sortWorld_other {b : Nat} (hb : b ≠ blk) (hlt : b < w.heap.size) : (sortWorldK enc k w blk off m dk os).heap[b]? = w.heap[b]? := by
  unfold sortWorldK putRowK putRow mapBlock
  show (_ ++ os)[b]? = _
  rw [Array.getElem?_append_left (by simp [ahead]; omega), Array.getElem?_modify, if_neg (Ne.symm hb)]
  rfl
theorem sortWorld_below {B : Nat} (hB : B ≤ blk) (hlt : blk < w.heap.size) : RowKit.Below B w (sortWorldK enc k w blk off m dk os) := by
  refine ⟨rfl, rfl, rfl, size_sortWorldK_c enc k w blk off m dk os, fun b hb => sortWorld_other (by omega) (by omega)⟩
theorem list_get!_some {l : List α} {i : Nat} {t : α} (h : l[i]? = some t) : l.toArray[i]! = t := by
  obtain ⟨hi, h⟩ := List.getElem?_eq_some_iff.1 h
  rw [getElem!_pos _ i (by simpa using hi)]
  simpa using h
def RowOf (enc : α → List Value) (k : Nat) (w : World) (g : Nat) (l : List α) : Prop :=
  ∀ (i : Nat) (x : α), l[i]? = some x → ∀ (j : Nat) (v : Value), (enc x)[j]? = some v → w.cell? ⟨g, i * k + j, none⟩ = some v ∧ w.frozen? ⟨g, i * k + j, none⟩ = false
theorem holds_row (hk : ∀ x, (enc x).length = k) (hpos : 0 < k) {g : Nat} {l : List α} (h : RowOf enc k w g l) : HoldsK enc k w g 0 l.toArray := by
  intro j hj
  rw [size_flatK] at hj
  rw [get_flatK _ _ _ _ hj]
  have hs : l.toArray.size = l.length := by simp
  rw [hs] at hj
  have hi : j / k < l.length := (Nat.div_lt_iff_lt_mul hpos).2 hj
  have hr : j % k < k := Nat.mod_lt _ hpos
  have hx : l[j / k]? = some l[j / k] := List.getElem?_eq_getElem hi
  have hc : j % k < (enc l[j / k]).length := by rw [hk]; exact hr
  have := h (j / k) _ hx (j % k) _ (List.getElem?_eq_getElem hc)
  rw [Nat.div_add_mod' j k] at this
  rw [Nat.zero_add, list_get!_some hx, getElem!_pos (enc l[j / k]) (j % k) hc]
  exact this
theorem row_holds (hk : ∀ x, (enc x).length = k) {g : Nat} {d : Array α} (h : HoldsK enc k w g 0 d) : RowOf enc k w g d.toList := by
  intro i x hx j v hv
  have hi : i < d.size := by have := (List.getElem?_eq_some_iff.1 hx).1; simpa using this
  have hj : j < k := by have := (List.getElem?_eq_some_iff.1 hv).1; rwa [hk] at this
  have hxi : d[i]! = x := by
    have := list_get!_some hx
    simpa using this
  obtain ⟨h1, h2⟩ := h.cell hi hj
  rw [Nat.zero_add] at h1 h2
  rw [hxi, getElem!_pos (enc x) j (by rw [hk]; exact hj)] at h1
  rw [List.getElem?_eq_getElem (by rw [hk]; exact hj)] at hv
  injection hv with hv
  exact ⟨by rw [h1, hv], h2⟩
theorem perm_all {n : Nat} {d d' : Array α} (hn : d.size = n) (h : PermIn 0 n d d') : d'.toList.Perm d.toList := by
  obtain ⟨h1, _, h3⟩ := h
  have e1 : d'.extract 0 n = d' := by rw [← hn, ← h1]; exact Array.extract_size
  have e2 : d.extract 0 n = d := by rw [← hn]; exact Array.extract_size
  rwa [e1, e2] at h3
theorem sorted_all {lt : α → α → Bool} {n : Nat} {d : Array α} (hn : d.size = n) (h : SortedIn lt 0 n d) : d.toList.Pairwise fun x y => lt y x = false := by
  rw [List.pairwise_iff_getElem]
  intro i j hi hj hij
  have := h i j (Nat.zero_le _) hij (by simpa [hn] using hj)
  rw [getElem!_pos d j (by simpa using hj), getElem!_pos d i (by simpa using hi)] at this
  simpa using this
end
theorem sort_gen {P : Program} {ρ : Ren} {α : Type} [Inhabited α] (L : SlLaysF0.n6 P ρ) (k : Nat) (aE : ∀ w, (isAgg (ρ.t 24)).run P w = .ok true w) (zE : ∀ w, (Go.sizeOf (ρ.t 24)).run P w = .ok k w) (enc : α → List Value) (hk : ∀ x, (enc x).length = k) (hpos : 0 < k) (h1 : ∀ x, ∀ v ∈ enc x, v.oneCell' = true)
    (cf : α → α → Int) (hO : SWO (ltOf cf)) (fn : Nat) (cb : Array Value) (g cap : Nat) (l : List α) (w : World) (eg : ∀ args w, (callFunc fn args).run P w = .ok (.enter fn args) w) (hcmp : CmpLays P fn cb enc k cf g 0 l.length w) (hrow : RowOf enc k w g l) (hg : g < w.heap.size) (hn : l.length < 4611686018427387904) :
    Calls P (ρ.f 6) #[.slice (some ⟨g, 0, none⟩) l.length cap, .func (.func fn) #[] cb] w fun e w' => e = .returned (.tuple #[]) ∧ ∃ l' : List α, l'.Perm l ∧ l'.Pairwise (fun x y => ¬ cf y x < 0) ∧ RowOf enc k w' g l' ∧ RowKit.Below g w w' ∧ ∀ b, b ≠ g → b < w.heap.size → w'.heap[b]? = w.heap[b]? := by
  have hcon := AnyQ.slices_SortFunc L k aE zE enc hk h1 cf hO fn cb g 0 cap l.toArray w eg (by simpa using hcmp) (holds_row hk hpos hrow) hg (by simpa using hn)
  simp only [List.size_toArray] at hcon
  refine hcon.mono ?_
  rintro e w' ⟨rfl, d', n, os, hp, hs, rfl⟩
  have hsz : d'.size = l.length := by have := hp.1; simpa using this
  refine ⟨rfl, d'.toList, ?_, ?_, ?_, sortWorld_below (Nat.le_refl _) hg, fun b hb hlt => sortWorld_other hb hlt⟩
  · have := perm_all (d := l.toArray) (by simp) hp
    simpa using this
  · exact (sorted_all hsz hs).imp fun h => by unfold ltOf at h; simpa using h
  · exact row_holds hk (holdsK_sortWorldK_c enc k w g 0 l.toArray d' n os (holds_row hk hpos hrow) hg (by simpa using hsz))
theorem swo_lin {K α : Type} {cmp : K → K → Int} {R : K → Prop} (L : Lin cmp R) (f : α → K) : SWO (ltOf fun x y : α => cmp (f x) (f y)) where
  irrefl x := by
    show decide (cmp (f x) (f x) < 0) = false
    rw [L.self]
    rfl
  trans x y z h k := by
    unfold ltOf at *
    simp only [decide_eq_true_eq] at *
    exact L.lt_trans h k
  ntrans x y z h k := by
    unfold ltOf at *
    simp only [decide_eq_false_iff_not] at *
    have s1 := L.swap (f x) (f y)
    have s2 := L.swap (f y) (f z)
    have s3 := L.swap (f x) (f z)
    have := (L.le (f z) (f y) (f x) (by omega) (by omega)).1
    omega
end Go.Proofs.YtenjlhlighkenaaGreat
namespace Go.Proofs.YtenjlhlighkenaaGreat
open Go Go.RowKit Go.Sort Go.Lib Go.Shelf

structure Ln (I : Type) where
  S : Int
  u : I
def Ln.cells {I : Type} (c : I → List Value) (x : Ln I) : List Value := .int .u64 (hiW x.S) :: .int .u64 (loW x.S) :: c x.u
theorem lucells_one (x : Ln Up) : ∀ v ∈ Ln.cells Up.cells x, v.oneCell' = true := by
  intro v hv
  unfold Ln.cells at hv
  rcases List.mem_cons.1 hv with rfl | hv
  · rfl
  · rcases List.mem_cons.1 hv with rfl | hv
    · rfl
    · exact ucells_one x.u v hv
theorem lu_box (w : World) (x y : Ln Up) : ∃ W, W = (w.alloc (.cells #[.int .u64 (hiW x.S), .int .u64 (loW x.S), .slice x.u.kA x.u.key.length x.u.kc, .slice x.u.rA x.u.row.length x.u.rc, .int .u64 (x.u.t.e : Int), .int .u64 (x.u.t.a : Int), .int .u64 (x.u.t.b : Int), .int .i64 x.u.d] 145)).alloc (.cells #[.int .u64 (hiW y.S), .int .u64 (loW y.S), .slice y.u.kA y.u.key.length y.u.kc, .slice y.u.rA y.u.row.length y.u.rc, .int .u64 (y.u.t.e : Int), .int .u64 (y.u.t.a : Int), .int .u64 (y.u.t.b : Int), .int .i64 y.u.d] 145) ∧ Gr w W ∧ Own W w.heap.size 145 (Ln.cells Up.cells x) ∧ Own W (w.heap.size + 1) 145 (Ln.cells Up.cells y) := by
  refine ⟨_, rfl, Gr.two w _ _, (Own.made w 145 (Ln.cells Up.cells x)).more _, ?_⟩
  have := Own.made (w.alloc (.cells #[.int .u64 (hiW x.S), .int .u64 (loW x.S), .slice x.u.kA x.u.key.length x.u.kc, .slice x.u.rA x.u.row.length x.u.rc, .int .u64 (x.u.t.e : Int), .int .u64 (x.u.t.a : Int), .int .u64 (x.u.t.b : Int), .int .i64 x.u.d] 145)) 145 (Ln.cells Up.cells y)
  rw [show (w.alloc (.cells #[.int .u64 (hiW x.S), .int .u64 (loW x.S), .slice x.u.kA x.u.key.length x.u.kc, .slice x.u.rA x.u.row.length x.u.rc, .int .u64 (x.u.t.e : Int), .int .u64 (x.u.t.a : Int), .int .u64 (x.u.t.b : Int), .int .i64 x.u.d] 145)).heap.size = w.heap.size + 1 by simp] at this
  exact this
theorem own8l {w : World} {P : Nat} {t : TypeId} {a0 a1 a2 a3 a4 a5 a6 a7 : Value} (h : Own w P t [a0, a1, a2, a3, a4, a5, a6, a7]) :
    w.cell? ⟨P, 2, none⟩ = some a2 ∧ w.cell? ⟨P, 3, none⟩ = some a3 ∧ w.cell? ⟨P, 4, none⟩ = some a4 ∧ w.cell? ⟨P, 5, none⟩ = some a5 ∧ w.cell? ⟨P, 6, none⟩ = some a6 ∧ w.cell? ⟨P, 7, none⟩ = some a7 :=
  ⟨h.at_ 2, h.at_ 3, h.at_ 4, h.at_ 5, h.at_ 6, h.at_ 7⟩
set_option maxRecDepth 100000 in
set_option maxHeartbeats 3200000 in
theorem closU_gr (x y : Ln Up) (bx : Nat) (w : World) (hbx : w.cell? ⟨bx, 0, none⟩ = some (.func (.func 76) #[] #[])) (hx : UIn w w.heap.size x.u) (hy : UIn w w.heap.size y.u) (ox : UOk x.u) (oy : UOk y.u) :
    Calls Tryz.prog 108 #[.agg #[.int .u64 (hiW x.S), .int .u64 (loW x.S), .slice x.u.kA x.u.key.length x.u.kc, .slice x.u.rA x.u.row.length x.u.rc, .int .u64 (x.u.t.e : Int), .int .u64 (x.u.t.a : Int), .int .u64 (x.u.t.b : Int), .int .i64 x.u.d], .agg #[.int .u64 (hiW y.S), .int .u64 (loW y.S), .slice y.u.kA y.u.key.length y.u.kc, .slice y.u.rA y.u.row.length y.u.rc, .int .u64 (y.u.t.e : Int), .int .u64 (y.u.t.a : Int), .int .u64 (y.u.t.b : Int), .int .i64 y.u.d], .pointer (some ⟨bx, 0, none⟩)] w fun e w' => e = .returned (.int .i64 (x.u.k.cmp y.u.k)) ∧ Gr w w' := by
  obtain ⟨W, hW, hg, o1, o2⟩ := lu_box w x y
  have hb := hg.below
  have hbW : W.cell? ⟨bx, 0, none⟩ = some (.func (.func 76) #[] #[]) := (hb.cell (p := ⟨bx, 0, none⟩) (World.block_lt_of_cell? w _ hbx)).trans hbx
  have hcall := Lib.hid (dcompare_gr x.u y.u W (hx.keep hb) (hy.keep hb) ox oy)
  obtain ⟨a0, a1, a2, a3, a4, a5⟩ := own8l o1
  obtain ⟨b0, b1, b2, b3, b4, b5⟩ := own8l o2
  have HG := Lib.hid hg
  rw [show x.u.val = .agg #[.slice x.u.kA x.u.key.length x.u.kc, .slice x.u.rA x.u.row.length x.u.rc, .int .u64 (x.u.t.e : Int), .int .u64 (x.u.t.a : Int), .int .u64 (x.u.t.b : Int), .int .i64 x.u.d] from rfl, show y.u.val = .agg #[.slice y.u.kA y.u.key.length y.u.kc, .slice y.u.rA y.u.row.length y.u.rc, .int .u64 (y.u.t.e : Int), .int .u64 (y.u.t.a : Int), .int .u64 (y.u.t.b : Int), .int .i64 y.u.d] from rfl] at hcall
  generalize x.u.k.cmp y.u.k = r at *
  clear hg hb hx hy ox oy o1 o2 hbx
  go_enter Tryz.func108, Tryz.ntmps108
  go_upto_region 1 with fail
  rw [← hW]
  clear hW
  go_wp2_with fail
  refine hcall.out.mono ?_
  rintro _ w1 ⟨rfl, g1⟩
  have H1 := Lib.hid (HG.out.trans g1)
  clear g1
  go_wp2_with fail
  go_ret
  exact ⟨rfl, H1.out⟩
end Go.Proofs.YtenjlhlighkenaaGreat
namespace Go.Proofs.YtenjlhlighkenaaGreat
open Go Go.RowKit Go.Sort Go.Lib Go.Shelf

theorem cell_heap {w w' : World} {b j : Nat} (h : w'.heap[b]? = w.heap[b]?) : w'.cell? ⟨b, j, none⟩ = w.cell? ⟨b, j, none⟩ := by unfold World.cell?; rw [h]
theorem map_pick {α : Type} {p : α → Prop} : ∀ (l : List α) (h : ∀ x ∈ l, p x), ∃ m : List {x : α // p x}, m.map (·.1) = l
  | [], _ => ⟨[], rfl⟩
  | x :: l, h => by
    obtain ⟨m, hm⟩ := map_pick l fun y hy => h y (by simp [hy])
    exact ⟨⟨x, h x (by simp)⟩ :: m, by rw [List.map_cons, hm]⟩
set_option maxRecDepth 100000 in
set_option maxHeartbeats 3200000 in
theorem sortU_any (bx g cap : Nat) (l : List (Ln Up)) (w : World) (hrow : RowOf (Ln.cells Up.cells) 8 w g l) (hg : g < w.heap.size) (hbx : w.cell? ⟨bx, 0, none⟩ = some (.func (.func 76) #[] #[])) (hne : bx ≠ g) (hin : ∀ x ∈ l, UIn w g x.u) (hok : ∀ x ∈ l, UOk x.u) (hpos : 0 < l.length) (hn : l.length < 4611686018427387904) :
    Calls Tryz.prog 107 #[.slice (some ⟨g, 0, none⟩) l.length cap, .func (.func 108) #[] #[.pointer (some ⟨bx, 0, none⟩)]] w fun e w' => e = .returned (.tuple #[]) ∧ ∃ l' : List (Ln Up), l'.Perm l ∧ l'.Pairwise (fun x y => x.u.k.cmp y.u.k ≤ 0) ∧ RowOf (Ln.cells Up.cells) 8 w' g l' ∧ RowKit.Below g w w' ∧ ∀ b, b ≠ g → b < w.heap.size → w'.heap[b]? = w.heap[b]? := by
  obtain ⟨m, rfl⟩ := map_pick (p := fun x : Ln Up => UIn w g x.u ∧ UOk x.u) l fun x hx => ⟨hin x hx, hok x hx⟩
  have eg : ∀ args w, (callFunc 108 args).run Tryz.prog w = .ok (.enter 108 args) w := enters_of Tryz.func108 (by kernel_rfl) rfl
  have hlen : (m.map (·.1)).length = m.length := List.length_map ..
  letI : Inhabited {x : Ln Up // UIn w g x.u ∧ UOk x.u} := ⟨m[0]'(by rw [hlen] at hpos; exact hpos)⟩
  have hbl := World.block_lt_of_cell? w _ hbx
  have hcon := sort_gen (α := {x : Ln Up // UIn w g x.u ∧ UOk x.u}) Tryz.sortU 8 Tryz.isAgg145 Tryz.sizeOf145 (fun x => Ln.cells Up.cells x.1) (fun _ => rfl) (by decide) (fun x => lucells_one x.1)
    (fun x y => x.1.u.k.cmp y.1.u.k) (swo_lin uk_lin fun x : {x : Ln Up // UIn w g x.u ∧ UOk x.u} => x.1.u.k) 108 #[.pointer (some ⟨bx, 0, none⟩)] g cap m w eg
    (fun mm os dk _ x y => by
      have hb := sortWorld_below (enc := fun x : {x : Ln Up // UIn w g x.u ∧ UOk x.u} => Ln.cells Up.cells x.1) (k := 8) (off := 0) (m := mm) (dk := dk) (os := os) (Nat.le_refl g) hg
      have hs := hb.size
      exact closU_gr x.1 y.1 bx _ ((cell_heap (sortWorld_other hne hbl)).trans hbx) ((x.2.1.past hb (Nat.le_refl _)).wide (by omega)) ((y.2.1.past hb (Nat.le_refl _)).wide (by omega)) x.2.2 y.2.2)
    (fun i x hx j v hv => hrow i x.1 (by rw [List.getElem?_map, hx]; rfl) j v hv) hg (by rw [hlen] at hn; exact hn)
  change Calls Tryz.prog 107 _ _ _ at hcon
  rw [hlen]
  refine hcon.mono ?_
  rintro e w' ⟨rfl, l', hp, hs, hr, hb, ho⟩
  refine ⟨rfl, l'.map (·.1), hp.map _, ?_, fun i x hx j v hv => ?_, hb, ho⟩
  · rw [List.pairwise_map]
    exact hs.imp fun {a b} h => by
      have := uk_lin.swap a.1.u.k b.1.u.k
      omega
  · rw [List.getElem?_map] at hx
    obtain ⟨y, hy, rfl⟩ := Option.map_eq_some_iff.1 hx
    exact hr i y hy j v hv
end Go.Proofs.YtenjlhlighkenaaGreat
namespace Go.Proofs.YtenjlhlighkenaaGreat
open Go Go.RowKit

section
variable {I K : Type} {cmp : K → K → Int} {R : K → Prop} {f : I → K}
def pL (f : I → K) (x : Ln I) : K × Int := (f x.u, x.S)
def gsum (s : List (Ln I)) (k j : Nat) : Int := (((s.drop k).take (j - k)).map (·.S)).sum
theorem gsum_one {s : List (Ln I)} {k : Nat} {x : Ln I} (hx : s[k]? = some x) : gsum s k (k + 1) = x.S := by
  unfold gsum
  obtain ⟨h, rfl⟩ := List.getElem?_eq_some_iff.1 hx
  rw [show k + 1 - k = 1 by omega, List.drop_eq_getElem_cons h, List.take_succ_cons, List.take_zero]
  simp only [List.map_cons, List.map_nil, List.sum_cons, List.sum_nil, Int.add_zero]
theorem gsum_next {s : List (Ln I)} {k j : Nat} {y : Ln I} (hk : k ≤ j) (hy : s[j]? = some y) : gsum s k (j + 1) = gsum s k j + y.S := by
  unfold gsum
  rw [show j + 1 - k = (j - k) + 1 by omega, List.take_add_one, List.getElem?_drop, show k + (j - k) = j by omega, hy]
  simp
theorem gsum_bound {s : List (Ln I)} (h : ∀ x ∈ s, -9223372036854775808 ≤ x.S ∧ x.S ≤ 9223372036854775807) (hn : s.length ≤ 1099511627776) (k j : Nat) :
    -170141183460469231731687303715884105728 ≤ gsum s k j ∧ gsum s k j < 170141183460469231731687303715884105728 := by
  have h1 := sum_bound (((s.drop k).take (j - k)).map (·.S)) fun n hn => by
    obtain ⟨x, hx, rfl⟩ := List.mem_map.1 hn
    exact h x (List.mem_of_mem_drop (List.mem_of_mem_take hx))
  have h2 : (((s.drop k).take (j - k)).map (·.S)).length ≤ s.length := by
    rw [List.length_map, List.length_take, List.length_drop]; omega
  unfold gsum
  generalize (((s.drop k).take (j - k)).map (·.S)).length = a at *
  omega
def Bound (cmp : K → K → Int) (f : I → K) (s : List (Ln I)) (k : Nat) : Prop := ∀ a ∈ s.take k, ∀ b ∈ s.drop k, cmp (f a.u) (f b.u) < 0
theorem split_at (s : List (Ln I)) {k j : Nat} (hk : k ≤ j) : s.take j = s.take k ++ (s.drop k).take (j - k) := by
  rw [← List.take_append_drop k (s.take j), List.take_take, Nat.min_eq_left hk, List.drop_take]
theorem mem_mid {s : List (Ln I)} {k j : Nat} {y : Ln I} (h : y ∈ (s.drop k).take (j - k)) : ∃ m, k ≤ m ∧ m < j ∧ s[m]? = some y := by
  obtain ⟨i, hi⟩ := List.getElem?_of_mem h
  have h1 := (List.getElem?_eq_some_iff.1 hi).1
  rw [List.length_take, List.length_drop] at h1
  rw [List.getElem?_take_of_lt (by omega), List.getElem?_drop] at hi
  exact ⟨k + i, by omega, by omega, hi⟩
theorem group_step (L : Lin cmp R) {s : List (Ln I)} (hs : s.Pairwise fun x y => cmp (f x.u) (f y.u) ≤ 0) {k j : Nat} (hk : k < j) (hj : j ≤ s.length) {x : Ln I} (hx : s[k]? = some x)
    (heq : ∀ m y, k ≤ m → m < j → s[m]? = some y → cmp (f x.u) (f y.u) = 0) (hmax : ∀ y, s[j]? = some y → cmp (f x.u) (f y.u) ≠ 0) (hb : Bound cmp f s k) :
    Bound cmp f s j ∧ asm cmp ((s.take j).map (pL f)) = asm cmp ((s.take k).map (pL f)) ++ [(f x.u, gsum s k j)] := by
  have hpw := fun i j' (hi : i < s.length) (hj' : j' < s.length) (h : i < j') => List.pairwise_iff_getElem.1 hs i j' hi hj' h
  have hxk : x ∈ s.drop k := by
    have : (s.drop k)[0]? = some x := by rw [List.getElem?_drop]; exact hx
    exact List.mem_of_getElem? this
  have hlate : ∀ b ∈ s.drop j, cmp (f x.u) (f b.u) < 0 := fun b hb' => by
    obtain ⟨i, hi⟩ := List.getElem?_of_mem hb'
    rw [List.getElem?_drop] at hi
    obtain ⟨hlt, hbe⟩ := List.getElem?_eq_some_iff.1 hi
    have hjl : j < s.length := by omega
    have hy : s[j]? = some s[j] := List.getElem?_eq_getElem hjl
    obtain ⟨hkl, hxe⟩ := List.getElem?_eq_some_iff.1 hx
    have h1 := hpw k j hkl hjl hk
    rw [hxe] at h1
    have h2 := hmax _ hy
    rcases Nat.eq_zero_or_pos i with rfl | hi0
    · have hbe' : s[j] = b := hbe
      rw [← hbe']; omega
    · have h3 := hpw j (j + i) hjl hlt (by omega)
      rw [hbe] at h3
      exact L.lt_le (by omega) h3
  have hmid : ∀ y ∈ (s.drop k).take (j - k), cmp (f x.u) (f y.u) = 0 := fun y hy => by
    obtain ⟨m, h1, h2, h3⟩ := mem_mid hy
    exact heq m y h1 h2 h3
  constructor
  · intro a ha b hb'
    rw [split_at s (Nat.le_of_lt hk)] at ha
    rcases List.mem_append.1 ha with ha | ha
    · exact L.lt_trans (hb a ha x hxk) (hlate b hb')
    · have h0 := hmid a ha
      have := L.swap (f x.u) (f a.u)
      exact L.le_lt (by omega) (hlate b hb')
  · rw [split_at s (Nat.le_of_lt hk), List.map_append, asm_append]
    · congr 1
      obtain ⟨hkl, hxe⟩ := List.getElem?_eq_some_iff.1 hx
      have hc : (s.drop k).take (j - k) = x :: ((s.drop (k + 1)).take (j - k - 1)) := by
        rw [List.drop_eq_getElem_cons hkl, hxe, show j - k = (j - k - 1) + 1 by omega, List.take_succ_cons]
        simp
      unfold gsum
      rw [hc] at hmid ⊢
      rw [List.map_cons, asm_group L (pL f x) _ fun y hy => ?_]
      · simp only [pL, List.map_map, List.map_cons, List.sum_cons]
        rfl
      · obtain ⟨z, hz, rfl⟩ := List.mem_map.1 hy
        exact hmid z (by simp [hz])
    · intro a ha b hb'
      obtain ⟨a', ha', rfl⟩ := List.mem_map.1 ha
      obtain ⟨b', hb'', rfl⟩ := List.mem_map.1 hb'
      exact hb a' ha' b' (List.mem_of_mem_take hb'')
theorem nz_step {t u : List (K × Int)} {k : K} {n : Int} (h : asm cmp u = asm cmp t ++ [(k, n)]) : nz cmp u = nz cmp t ++ if n = 0 then [] else [(k, n)] := by
  unfold nz
  rw [h, List.filter_append]
  congr 1
  by_cases hn : n = 0 <;> simp [hn]
theorem fit_step {t u : List (K × Int)} {k : K} {n : Int} (h : asm cmp u = asm cmp t ++ [(k, n)]) : (asm cmp u).all (fun x => fits x.2) = ((asm cmp t).all (fun x => fits x.2) && fits n) := by
  rw [h, List.all_append]
  simp
theorem bad_step {s : List (Ln I)} {j : Nat} (hb : Bound cmp f s j) (h : (asm cmp ((s.take j).map (pL f))).all (fun x => fits x.2) = false) : (asm cmp (s.map (pL f))).all (fun x => fits x.2) = false := by
  have : s.map (pL f) = (s.take j).map (pL f) ++ (s.drop j).map (pL f) := by rw [← List.map_append, List.take_append_drop]
  rw [this, asm_append, List.all_append, h]
  · rfl
  · intro a ha b hb'
    obtain ⟨a', ha', rfl⟩ := List.mem_map.1 ha
    obtain ⟨b', hb'', rfl⟩ := List.mem_map.1 hb'
    exact hb a' ha' b' hb''
theorem res_perm (L : Lin cmp R) {s l : List (Ln I)} (hp : s.Perm l) (hR : ∀ x ∈ l, R (f x.u)) : resL cmp (s.map (pL f)) = resL cmp (l.map (pL f)) ∧ resE cmp (s.map (pL f)) = resE cmp (l.map (pL f)) :=
  resL_ext L (fun x hx => by
    obtain ⟨y, hy, rfl⟩ := List.mem_map.1 hx
    exact hR y (hp.mem_iff.1 hy)) (fun x hx => by
    obtain ⟨y, hy, rfl⟩ := List.mem_map.1 hx
    exact hR y hy) fun k => sumOf_perm (hp.map _) k
end
end Go.Proofs.YtenjlhlighkenaaGreat
namespace Go.Proofs.YtenjlhlighkenaaGreat
open Go Go.RowKit Go.Sort Go.Lib Go.Shelf

theorem sortU_all (v : Value) (n bx base : Nat) (l : List (Ln Up)) (w : World) (hnl : n = l.length) (h : w.ownsRow base 145 8 v n (l.flatMap (Ln.cells Up.cells))) (hbx : w.cell? ⟨bx, 0, none⟩ = some (.func (.func 76) #[] #[])) (hin : ∀ x ∈ l, UIn w base x.u) (hok : ∀ x ∈ l, UOk x.u) (hn : l.length < 4611686018427387904) :
    ∃ A c, v = .slice A n c ∧ Calls Tryz.prog 107 #[.slice A n c, .func (.func 108) #[] #[.pointer (some ⟨bx, 0, none⟩)]] w fun e w' => e = .returned (.tuple #[]) ∧ ∃ l' : List (Ln Up), l'.Perm l ∧ l'.Pairwise (fun x y => x.u.k.cmp y.u.k ≤ 0) ∧ Lies 8 (Ln.cells Up.cells) w' w'.heap.size A l' ∧ RowKit.Below base w w' ∧ w'.cell? ⟨bx, 0, none⟩ = some (.func (.func 76) #[] #[]) := by
  subst hnl
  by_cases h0 : l.length = 0
  · obtain rfl : l = [] := List.eq_nil_of_length_eq_zero h0
    have key : ∀ A c, Calls Tryz.prog 107 #[.slice A 0 c, .func (.func 108) #[] #[.pointer (some ⟨bx, 0, none⟩)]] w fun e w' => e = .returned (.tuple #[]) ∧ ∃ l' : List (Ln Up), l'.Perm [] ∧ l'.Pairwise (fun x y => x.u.k.cmp y.u.k ≤ 0) ∧ Lies 8 (Ln.cells Up.cells) w' w'.heap.size A l' ∧ RowKit.Below base w w' ∧ w'.cell? ⟨bx, 0, none⟩ = some (.func (.func 76) #[] #[]) := fun A c =>
      (AnyF.slices_SortFunc_none Tryz.sortU A c _ w).mono fun e w' ⟨he, hw⟩ => ⟨he, [], List.Perm.refl _, List.Pairwise.nil, Lies.nil_, hw ▸ RowKit.Below.refl _ _, hw ▸ hbx⟩
    rcases h.2 with ⟨rfl, _⟩ | ⟨g, cap, cur, rfl, _⟩
    · exact ⟨_, _, rfl, key _ _⟩
    · exact ⟨_, _, rfl, key _ _⟩
  · rcases h.2 with ⟨_, hz⟩ | ⟨g, cap, cur, rfl, hb, hheap, _⟩
    · exact absurd hz h0
    · have hg : g < w.heap.size := (Array.getElem?_eq_some_iff.1 hheap).1
      have hrow : RowOf (Ln.cells Up.cells) 8 w g l := fun i x hx j u hj => by
        have hf := flat_of (cells := Ln.cells Up.cells) (size := 8) (fun _ => rfl) l i j x u hx hj
        have hlt : i * 8 + j < l.length * 8 := by have := (List.getElem?_eq_some_iff.1 hf).1; rwa [flat_size (cells := Ln.cells Up.cells) (size := 8) (fun _ => rfl)] at this
        exact ⟨by rw [h.cellAt _ hlt]; exact hf, h.frozenAt _⟩
      have hne : bx ≠ g := fun e => by
        subst e
        have := (hrow 0 _ (List.getElem?_eq_getElem (show 0 < l.length by omega)) 0 _ rfl).1
        rw [show 0 * 8 + 0 = 0 by rfl, hbx] at this
        cases this
      refine ⟨_, _, rfl, (sortU_any bx g cap l w hrow hg hbx hne (fun x hx => (hin x hx).wide hb) hok (by omega) hn).mono ?_⟩
      rintro e w' ⟨he, l', hp, hs, hr, hbe, ho⟩
      refine ⟨he, l', hp, hs, fun _ => ⟨g, 0, rfl, Nat.lt_of_lt_of_le hg hbe.size, fun i x hx j u hj => ?_⟩, hbe.mono hb, (cell_heap (ho bx hne (World.block_lt_of_cell? w _ hbx))).trans hbx⟩
      rw [Nat.zero_add]
      exact (hr i x hx j u hj).1
end Go.Proofs.YtenjlhlighkenaaGreat
namespace Go.Proofs.YtenjlhlighkenaaGreat
open Go Go.RowKit

theorem infoUp : (Tryz.prog.info? 57).map (fun i => (i.zero, i.size, i.bytes)) = some (some (.agg #[.slice none 0 0, .slice none 0 0, .int .u64 0, .int .u64 0, .int .u64 0, .int .i64 0]), 6, 80) := by kernel_rfl
theorem vals_grown {w w' : World} {A : Option Addr} {l : List Vl} {g : Option Nat} (h : Vals w w.heap.size A l) (hg : w.grownBy w' g) (hA : ∀ b o, A = some ⟨b, o, none⟩ → g ≠ some b) : Vals w' w'.heap.size A l := fun hp => by
  obtain ⟨b, o, e, hb, hc⟩ := h hp
  have hk : ∀ j, w'.cell? ⟨b, j, none⟩ = w.cell? ⟨b, j, none⟩ := fun j => by unfold World.cell?; rw [hg.block b hb (fun h => hA b o e h.symm)]
  refine ⟨b, o, e, Nat.lt_of_lt_of_le hb hg.size, fun i v hi => ?_⟩
  obtain ⟨a0, a1, a2⟩ := hc i v hi
  exact ⟨(hk _).trans a0, (hk _).trans a1, (hk _).trans a2⟩
def Far (B : Nat) (v : Value) (w : World) (u : Up) : Prop := ∀ b o, (u.kA = some ⟨b, o, none⟩ ∨ u.rA = some ⟨b, o, none⟩) → b < w.heap.size ∧ v.ownBlock ≠ some b ∧ B ≤ b
theorem Far.next {B : Nat} {v : Value} {w w' : World} {u : Up} (h : Far B v w u) (hs : w.heap.size ≤ w'.heap.size) : Far B v w' u := fun b o hb => ⟨Nat.lt_of_lt_of_le (h b o hb).1 hs, (h b o hb).2⟩
theorem uin_grown {B : Nat} {v : Value} {w w' : World} {u : Up} (h : UIn w w.heap.size u) (hf : Far B v w u) (hg : w.grownBy w' v.ownBlock) : UIn w' w'.heap.size u :=
  ⟨vals_grown h.key hg fun b o e => (hf b o (.inl e)).2.1, vals_grown h.row hg fun b o e => (hf b o (.inr e)).2.1⟩
def Lo (B : Nat) (A : Option Addr) (l : List Up) : Prop := (∀ b o, A = some ⟨b, o, none⟩ → B ≤ b) ∧ ∀ u ∈ l, ∀ b o, (u.kA = some ⟨b, o, none⟩ ∨ u.rA = some ⟨b, o, none⟩) → B ≤ b
theorem lo_nil (B : Nat) : Lo B none [] := ⟨fun b o e => (by cases e), fun u hu => (by cases hu)⟩
def TotSays (l : List (Uk × Int)) (base : Nat) (w : World) (x : Ending) (w' : World) : Prop :=
  ∃ A c, ∃ outL : List Up, x = .returned (.tuple #[.slice A outL.length c, .int .i64 (resE Uk.cmp l)]) ∧ outL.map Up.p = resL Uk.cmp l ∧ Ups w' w'.heap.size A outL ∧ (∀ u ∈ outL, UOk u) ∧ Below base w w' ∧ Lo base A outL
theorem fn_box (w : World) (v : Value) (t : TypeId) : ∃ W, W = w.alloc (.cells #[v] t) ∧ Below w.heap.size w W ∧ W.heap.size = w.heap.size + 1 ∧ W.cell? ⟨w.heap.size, 0, none⟩ = some v :=
  ⟨_, rfl, (Below.refl _ _).alloc (Nat.le_refl _) _, by simp, (Own.made w t [v]).at_ 0⟩
theorem ln_box (w : World) (x : Ln Up) : ∃ V, V = w.alloc (.cells #[.int .u64 (hiW x.S), .int .u64 (loW x.S), .slice x.u.kA x.u.key.length x.u.kc, .slice x.u.rA x.u.row.length x.u.rc, .int .u64 (x.u.t.e : Int), .int .u64 (x.u.t.a : Int), .int .u64 (x.u.t.b : Int), .int .i64 x.u.d] 145) ∧ Below w.heap.size w V ∧ V.heap.size = w.heap.size + 1 ∧ Own V w.heap.size 145 (Ln.cells Up.cells x) :=
  ⟨_, rfl, (Below.refl _ _).alloc (Nat.le_refl _) _, by simp, Own.made w 145 (Ln.cells Up.cells x)⟩
theorem own8a {w : World} {P : Nat} {t : TypeId} {a0 a1 a2 a3 a4 a5 a6 a7 : Value} (h : Own w P t [a0, a1, a2, a3, a4, a5, a6, a7]) : w.cell? ⟨P, 0, none⟩ = some a0 ∧ w.cell? ⟨P, 1, none⟩ = some a1 := ⟨h.at_ 0, h.at_ 1⟩
theorem ln_eight {w : World} {g o : Nat} {x : Ln Up} (h : ∀ (j : Nat) (u : Value), (Ln.cells Up.cells x)[j]? = some u → w.cell? ⟨g, o + j, none⟩ = some u) :
    w.cell? ⟨g, o, none⟩ = some (.int .u64 (hiW x.S)) ∧ w.cell? ⟨g, o + 1, none⟩ = some (.int .u64 (loW x.S)) ∧ w.cell? ⟨g, o + 2, none⟩ = some (.slice x.u.kA x.u.key.length x.u.kc) ∧ w.cell? ⟨g, o + 3, none⟩ = some (.slice x.u.rA x.u.row.length x.u.rc) ∧
      w.cell? ⟨g, o + 4, none⟩ = some (.int .u64 (x.u.t.e : Int)) ∧ w.cell? ⟨g, o + 5, none⟩ = some (.int .u64 (x.u.t.a : Int)) ∧ w.cell? ⟨g, o + 6, none⟩ = some (.int .u64 (x.u.t.b : Int)) ∧ w.cell? ⟨g, o + 7, none⟩ = some (.int .i64 x.u.d) :=
  ⟨h 0 _ rfl, h 1 _ rfl, h 2 _ rfl, h 3 _ rfl, h 4 _ rfl, h 5 _ rfl, h 6 _ rfl, h 7 _ rfl⟩
set_option maxRecDepth 100000 in
set_option maxHeartbeats 16000000 in
theorem totalU_any (v : Value) (n base : Nat) (l : List (Ln Up)) (w : World) (hnl : n = l.length) (h : w.ownsRow base 145 8 v n (l.flatMap (Ln.cells Up.cells))) (hbase : base ≤ w.heap.size) (hin : ∀ x ∈ l, UIn w base x.u) (hok : ∀ x ∈ l, UOk x.u) (hR : ∀ x ∈ l, UkR x.u.k)
    (hS : ∀ x ∈ l, -9223372036854775808 ≤ x.S ∧ x.S ≤ 9223372036854775807) (hn : n ≤ 1099511627776) :
    Calls Tryz.prog 75 #[v, .func (.func 76) #[] #[], .func (.func 77) #[] #[]] w (TotSays (l.map (pL Up.k)) base w) := by
  obtain ⟨i0, hi, hz0, hz1, hz2⟩ := info_parts infoUp
  have HI := Lib.hid (And.intro Tryz.underlying32 (And.intro hi (And.intro hz0 (And.intro hz1 hz2))))
  obtain ⟨W, hW, hwb, hws, hwc⟩ := fn_box w (.func (.func 76) #[] #[]) 147
  obtain ⟨A, c, rfl, hsort⟩ := sortU_all v n w.heap.size base l W hnl (own_below h hwb) hwc (fun x hx => (hin x hx).past hwb hbase) hok (by omega)
  have Hsort := Lib.hid hsort
  have HB := Lib.hid (And.intro (hwb.mono hbase) hbase)
  have HL := Lib.hid (And.intro hin (And.intro hok (And.intro hR (And.intro hS hnl))))
  clear hi hz0 hz1 hz2 hsort hwb hws hwc hin hok hR hS h hnl hbase
  go_enter Tryz.func75, Tryz.ntmps75
  go_upto_region 1 with fail
  rw [← hW]
  clear hW
  go_wp2_with fail
  refine Hsort.out.mono ?_
  rintro _ w1 ⟨rfl, s, hp, hpw, hlies, hb1, hbx⟩
  have hsn : s.length = n := by rw [hp.length_eq]; exact HL.out.2.2.2.2.symm
  have HS := Lib.hid (And.intro hp (And.intro hpw (And.intro hlies (And.intro (HB.out.1.trans hb1) (And.intro hbx hsn)))))
  have HX := Lib.hid (And.intro (fun x (hx : x ∈ s) => (HL.out.1 x (hp.mem_iff.1 hx)).past (HB.out.1.trans hb1) (Nat.le_refl _)) (And.intro (fun x (hx : x ∈ s) => HL.out.2.1 x (hp.mem_iff.1 hx)) (fun x (hx : x ∈ s) => HL.out.2.2.2.1 x (hp.mem_iff.1 hx))))
  have hbs : base ≤ w1.heap.size := Nat.le_trans HB.out.2 (HB.out.1.trans hb1).size
  have Hbs := Lib.hid hbs
  clear hp hpw hlies hb1 hbx hsn Hsort hbs
  go_wp2_with fail
  go_loopw [8, 9] (fun v8 v9 wr => ∃ (k : Nat) (outL : List Up), v9 = .int .i64 (k : Int) ∧ k ≤ n ∧ wr.ownsRow w1.heap.size 57 6 v8 outL.length (outL.flatMap Up.cells) ∧ (∀ u ∈ outL, UIn wr wr.heap.size u ∧ UOk u ∧ Far base v8 wr u) ∧ outL.map Up.p = nz Uk.cmp ((s.take k).map (pL Up.k)) ∧ Below w1.heap.size w1 wr ∧ Bound Uk.cmp Up.k s k ∧ (asm Uk.cmp ((s.take k).map (pL Up.k))).all (fun x => fits x.2) = true ∧ outL.length ≤ k)
    (fun _ v9 _ => n - (intOf v9).toNat)
  case atStart => exact ⟨0, [], rfl, by omega, World.ownsRow_nil _ _ _ _, fun u hu => (by cases hu), rfl, Below.refl _ _, fun a ha => (by cases ha), rfl, Nat.le_refl _⟩
  case round =>
    obtain ⟨k, outL, rfl, hk, hown, hout, hmap, hbw, hbound, hfit, hlen⟩ := hrel
    obtain ⟨wo, hwo⟩ : ∃ wo, wo = wr := ⟨_, rfl⟩
    subst hwo
    by_cases hlt : k < n
    · have hx : s[k]? = some (s[k]'(by rw [HS.out.2.2.2.2.2]; exact hlt)) := List.getElem?_eq_getElem _
      obtain ⟨g, o, rfl, hB, hxs⟩ := HS.out.2.2.1 (by rw [HS.out.2.2.2.2.2]; omega)
      have hmem := List.mem_of_getElem? hx
      generalize (s[k]'(by rw [HS.out.2.2.2.2.2]; exact hlt)) = x at *
      have hline := Lib.hid (fun (W : World) (hW : Below w1.heap.size w1 W) (i : Nat) (y : Ln Up) (hy : s[i]? = some y) => ln_eight (w := W) (g := g) (o := o + i * 8) (x := y) fun j u hj => (hW.cell (p := ⟨g, o + i * 8 + j, none⟩) hB).trans (hxs i y hy j u hj))
      have hrows := Lib.hid (fun (W : World) (hW : Below w1.heap.size w1 W) (y : Ln Up) (hy : y ∈ s) => ((HX.out.1 y hy).past hW Hbs.out).wide (Nat.le_trans Hbs.out hW.size))
      have hfn := Lib.hid (fun (W : World) (hW : Below w1.heap.size w1 W) => (hW.cell (p := ⟨w.heap.size, 0, none⟩) (World.block_lt_of_cell? w1 _ HS.out.2.2.2.2.1)).trans HS.out.2.2.2.2.1)
      obtain ⟨e0, e1, e2, e3, e4, e5, e6, e7⟩ := hline.out wo hbw k x hx
      obtain ⟨V, hV, hvb, hvs, hvo⟩ := ln_box wo x
      have HO := Lib.hid (And.intro hown (And.intro hout (And.intro hmap (And.intro hbw (And.intro hbound (And.intro hfit hlen))))))
      have HV := Lib.hid (And.intro hvb (And.intro hvo (And.intro hx hmem)))
      have hgs := gsum_one hx
      have q0 : (0 : Int) ≤ (k : Int) := by omega
      have q1 : (k : Int) < (n : Int) := by omega
      clear hx hmem hxs hown hout hmap hbw hbound hfit hvb hvo hlen hvs
      have HG := Lib.hid hgs
      clear hgs
      go_upto_region 6 with fail
      rw [← hV]
      clear hV e0 e1 e2 e3 e4 e5 e6 e7
      go_upto_block 2 with fail
      go_cut [9] (fun v9 wi => ∃ j : Nat, v9 = .int .i64 (j : Int) ∧ k + 1 ≤ j ∧ j ≤ n ∧ (∀ m y, k ≤ m → m < j → s[m]? = some y → x.u.k.cmp y.u.k = 0) ∧ (∀ y, s[j]? = some y → x.u.k.cmp y.u.k ≠ 0) ∧ Own wi wo.heap.size 145 (.int .u64 (hiW (gsum s k j)) :: .int .u64 (loW (gsum s k j)) :: x.u.cells) ∧ Below wo.heap.size wo wi)
      case first =>
        go_wp2_with fail
        go_loopw [9] (fun v9 wi => ∃ j : Nat, v9 = .int .i64 (j : Int) ∧ k + 1 ≤ j ∧ j ≤ n ∧ (∀ m y, k ≤ m → m < j → s[m]? = some y → x.u.k.cmp y.u.k = 0) ∧ Own wi wo.heap.size 145 (.int .u64 (hiW (gsum s k j)) :: .int .u64 (loW (gsum s k j)) :: x.u.cells) ∧ Below wo.heap.size wo wi)
          (fun v9 _ => n - (intOf v9).toNat)
        case atStart =>
          refine ⟨k + 1, by go_num, Nat.le_refl _, by omega, fun m y h1 h2 h3 => ?_, by rw [HG.out]; exact HV.out.2.1, HV.out.1⟩
          obtain rfl : m = k := by omega
          rw [HV.out.2.2.1] at h3
          obtain rfl := Option.some.inj h3
          exact uk_lin.self _
        case round =>
          obtain ⟨j, rfl, hj1, hj2, heq, howi, hbi⟩ := hrel
          obtain ⟨wi, hwi⟩ : ∃ wi, wi = wr := ⟨_, rfl⟩
          subst hwi
          have hbj : Below w1.heap.size w1 wi := HO.out.2.2.2.1.trans (hbi.mono HO.out.2.2.2.1.size)
          have HJ := Lib.hid (And.intro heq (And.intro howi (And.intro hbi hbj)))
          clear heq howi hbi hbj
          by_cases hjn : j < n
          · have hy : s[j]? = some (s[j]'(by rw [HS.out.2.2.2.2.2]; exact hjn)) := List.getElem?_eq_getElem _
            have hymem := List.mem_of_getElem? hy
            generalize (s[j]'(by rw [HS.out.2.2.2.2.2]; exact hjn)) = y at *
            have q2 : (0 : Int) ≤ (j : Int) := by omega
            have q3 : (j : Int) < (n : Int) := by omega
            have q4 : decide ((j : Int) < (n : Int)) = true := decide_eq_true q3
            have HY := Lib.hid (And.intro hy hymem)
            have u1 : ∀ p : Past wi, Calls Tryz.prog 76 #[.agg #[.slice x.u.kA x.u.key.length x.u.kc, .slice x.u.rA x.u.row.length x.u.rc, .int .u64 (x.u.t.e : Int), .int .u64 (x.u.t.a : Int), .int .u64 (x.u.t.b : Int), .int .i64 x.u.d], .agg #[.slice y.u.kA y.u.key.length y.u.kc, .slice y.u.rA y.u.row.length y.u.rc, .int .u64 (y.u.t.e : Int), .int .u64 (y.u.t.a : Int), .int .u64 (y.u.t.b : Int), .int .i64 y.u.d]] p.w fun e w'' => e = .returned (.int .i64 (x.u.k.cmp y.u.k)) ∧ ∃ q : Past wi, w'' = q.w := fun p =>
              calls_past ((dcompare_gr x.u y.u p.w (hrows.out p.w (HJ.out.2.2.2.trans (p.h.mono HJ.out.2.2.2.size)) x HV.out.2.2.2) (hrows.out p.w (HJ.out.2.2.2.trans (p.h.mono HJ.out.2.2.2.size)) y HY.out.2) (HX.out.2.1 x HV.out.2.2.2) (HX.out.2.1 y HY.out.2)).mono fun e w' h => ⟨h.1, h.2.below⟩)
            have u2 := fun p : Past wi => hfn.out p.w (HJ.out.2.2.2.trans (p.h.mono HJ.out.2.2.2.size))
            have u3 := fun p : Past wi => own8l (HJ.out.2.1.past p.h HJ.out.2.1.inside)
            have u4 := fun p : Past wi => (hline.out p.w (HJ.out.2.2.2.trans (p.h.mono HJ.out.2.2.2.size)) j y HY.out.1).2.2
            obtain ⟨r, hr⟩ : ∃ r, x.u.k.cmp y.u.k = r := ⟨_, rfl⟩
            rw [hr] at u1
            have HR := Lib.hid hr
            clear hr hy hymem
            by_cases hr0 : r = 0
            · have t1 : (r == 0) = true := beq_iff_eq.2 hr0
              have HR0 := Lib.hid hr0
              clear hr0
              go_upto_region 7 with fail
              refine wp_region_past wi (by kernel_rfl) (by kernel_rfl) (Below.refl _ _) ?_
              repeat (first | go_big_quiet_step ((go_at_call 76; exact u1 _)) | quiet_step ((go_at_call 76; exact u1 _)))
              refine wpQuiet_nil ?_
              intro wz hw'
              obtain ⟨⟨wy, hbz⟩, hw''⟩ := hw'
              dsimp only at hw''
              subst hw''
              have hz1 := HJ.out.2.2.2.trans (hbz.mono HJ.out.2.2.2.size)
              obtain ⟨e0, e1, _⟩ := hline.out wz hz1 j y HY.out.1
              have hadd := Lib.hid (add_line (gsum s k j) y.S wo.heap.size 145 x.u.cells wz (HJ.out.2.1.past hbz HJ.out.2.1.inside))
              have HZ := Lib.hid (HJ.out.2.2.1.trans (hbz.mono HJ.out.2.2.1.size))
              clear u1 u2 u3 u4 hbz hz1 t1
              go_wp2_with fail
              refine hadd.out.mono ?_
              rintro _ w5 ⟨rfl, ho5, hb5⟩
              have H5 := Lib.hid (And.intro ho5 (HZ.out.trans (hb5 _ (Nat.le_refl _))))
              clear ho5 hb5 e0 e1 hadd
              go_wp2_with fail
              go_roundw
              case rel =>
                refine ⟨j + 1, by go_num, by omega, by omega, fun m z h1 h2 h3 => ?_, by rw [gsum_next (by omega) HY.out.1]; exact H5.out.1, H5.out.2⟩
                by_cases hmj : m = j
                · subst hmj
                  rw [HY.out.1] at h3
                  obtain rfl := Option.some.inj h3
                  rw [HR.out, HR0.out]
                · exact HJ.out.1 m z h1 (by omega) h3
              case measure => simp [intOf]; omega
            · have t1 : (r == 0) = false := beq_eq_false_iff_ne.2 hr0
              have HR0 := Lib.hid hr0
              clear hr0
              go_upto_region 7 with fail
              refine wp_region_past wi (by kernel_rfl) (by kernel_rfl) (Below.refl _ _) ?_
              repeat (first | go_big_quiet_step ((go_at_call 76; exact u1 _)) | quiet_step ((go_at_call 76; exact u1 _)))
              refine wpQuiet_nil ?_
              intro wz hw'
              obtain ⟨⟨wy, hbz⟩, hw''⟩ := hw'
              dsimp only at hw''
              subst hw''
              have HZ := Lib.hid (And.intro (HJ.out.2.1.past hbz HJ.out.2.1.inside) (HJ.out.2.2.1.trans (hbz.mono HJ.out.2.2.1.size)))
              clear u1 u2 u3 u4 hbz t1
              go_wp2_with fail
              go_meet
              exact ⟨j, rfl, by omega, by omega, HJ.out.1, fun z hz => by
                rw [HY.out.1] at hz
                obtain rfl := Option.some.inj hz
                rw [HR.out]
                exact HR0.out, HZ.out.1, HZ.out.2⟩
          · have q4 : decide ((j : Int) < (n : Int)) = false := decide_eq_false (by omega)
            go_upto_region 7 with fail
            go_quiet (fail)
            go_wp2_with fail
            go_meet
            exact ⟨j, rfl, by omega, by omega, HJ.out.1, fun z hz => by
              have := (List.getElem?_eq_some_iff.1 hz).1
              rw [HS.out.2.2.2.2.2] at this
              omega, HJ.out.2.1.draws _, below_draws HJ.out.2.2.1 _⟩
      case rest =>
        obtain ⟨j, rfl, hj1, hj2, heq, hmax, hown, hbi⟩ := hcut
        obtain ⟨hB2, hasm⟩ := group_step (f := Up.k) uk_lin HS.out.2.1 (by omega) (by rw [HS.out.2.2.2.2.2]; exact hj2) HV.out.2.2.1 heq hmax HO.out.2.2.2.2.1
        have hnz := nz_step hasm
        have hfi := fit_step hasm
        have hgb := gsum_bound HX.out.2.2 (by rw [HS.out.2.2.2.2.2]; exact hn) k j
        rw [HO.out.2.2.2.2.2.1, Bool.true_and] at hfi
        have hcall := fun W => Lib.hid (number_any (gsum s k j) W hgb.1 hgb.2)
        have hbx1 := HO.out.2.2.2.1.trans (hbi.mono HO.out.2.2.2.1.size)
        obtain ⟨c0, c1⟩ := own8a hown
        obtain ⟨S, hSe⟩ : ∃ S, gsum s k j = S := ⟨_, rfl⟩
        rw [hSe] at hasm hnz hfi hcall c0 c1 hown
        have HC := Lib.hid (And.intro hB2 (And.intro hnz (And.intro hfi (And.intro hbx1 (And.intro hbi hown)))))
        clear hB2 hasm hnz hfi hgb heq hmax hown hbi hbx1 hSe
        go_wp2_with fail
        refine (hcall _).out.mono ?_
        rintro _ w2 ⟨rfl, b2⟩
        have H2 := Lib.hid (And.intro (HC.out.2.2.2.1.trans (b2.mono HC.out.2.2.2.1.size)) (And.intro (HC.out.2.2.2.2.2.past b2 HC.out.2.2.2.2.2.inside) (HC.out.2.2.2.2.1.trans (b2.mono HC.out.2.2.2.2.1.size))))
        clear b2 c0 c1 hcall
        cases hf : fits S
        case false =>
          have e1 : fitE S = 10 := by unfold fitE; rw [hf]; rfl
          have hres : resE Uk.cmp (l.map (pL Up.k)) = 10 ∧ resL Uk.cmp (l.map (pL Up.k)) = [] := by
            obtain ⟨p1, p2⟩ := res_perm (f := Up.k) uk_lin HS.out.1 HL.out.2.2.1
            have hbad := bad_step HC.out.1 (by rw [HC.out.2.2.1]; exact hf)
            rw [← p1, ← p2]
            unfold resE resL
            rw [hbad]
            exact ⟨rfl, rfl⟩
          have HR := Lib.hid hres
          have HE := Lib.hid e1
          rw [e1]
          clear hres hf e1
          go_wp2_with fail
          go_ret2
          exact ⟨none, 0, [], by rw [HR.out.1]; rfl, HR.out.2.symm, ⟨Lies.nil_, fun u hu => (by cases hu)⟩, fun u hu => (by cases hu), HS.out.2.2.2.1.trans (H2.out.1.mono Hbs.out), lo_nil _⟩
        case true =>
          have e1 : fitE S = 0 := by unfold fitE; rw [hf]; rfl
          have e2 : fitN S = S := by unfold fitN; rw [hf]; rfl
          have hfb := (fits_iff S).1 hf
          rw [e1, e2]
          have HF := Lib.hid (And.intro hf hfb)
          clear hf hfb e1 e2
          by_cases hS0 : S = 0
          · have t1 : (S != 0) = false := by simp [hS0]
            have HS0 := Lib.hid hS0
            have hkeep := own_below HO.out.1 H2.out.2.2
            have HK := Lib.hid hkeep
            clear hS0 hkeep
            go_wp2_with fail
            go_roundw
            case rel =>
              refine ⟨j, outL, rfl, hj2, HK.out, fun u hu => ⟨(HO.out.2.1 u hu).1.keep H2.out.2.2, (HO.out.2.1 u hu).2.1, (HO.out.2.1 u hu).2.2.next H2.out.2.2.size⟩, ?_, H2.out.1, HC.out.1, by rw [HC.out.2.2.1]; exact HF.out.1, by have := HO.out.2.2.2.2.2.2; omega⟩
              rw [HC.out.2.1, HS0.out, if_pos rfl, List.append_nil]
              exact HO.out.2.2.1
            case measure => simp [intOf]; omega
          · have t1 : (S != 0) = true := bne_iff_ne.2 hS0
            have HS0 := Lib.hid hS0
            obtain ⟨c2, c3, c4, c5, c6, c7⟩ := own8l H2.out.2.1
            have hxk := HX.out.2.1 x HV.out.2.2.2
            have hxr := chkK_zero (HL.out.2.2.1 x (HS.out.1.mem_iff.1 HV.out.2.2.2))
            have hx8 := (chkRow_zero hxr.1).2
            have hx9 := (chkRow_zero hxr.2.1).2
            have hret := Lib.hid (retain_any x.u S w2 (hrows.out w2 H2.out.1 x HV.out.2.2.2) ⟨by change x.u.key.length ≤ 8 at hx8; omega, by change x.u.row.length ≤ 8 at hx9; omega⟩)
            have HXK := Lib.hid hxk
            rw [show x.u.val = .agg #[.slice x.u.kA x.u.key.length x.u.kc, .slice x.u.rA x.u.row.length x.u.rc, .int .u64 (x.u.t.e : Int), .int .u64 (x.u.t.a : Int), .int .u64 (x.u.t.b : Int), .int .i64 x.u.d] from rfl] at hret
            clear hS0 hxk hxr hx8 hx9
            go_wp2_with fail
            refine hret.out.mono ?_
            rintro _ w3 ⟨u', rfl, k1, k2, k3, k4, hin3, hfar, b3⟩
            have hlen := HO.out.2.2.2.2.2.2
            have H3 := Lib.hid (And.intro (H2.out.1.trans (b3.mono H2.out.1.size)) (And.intro (H2.out.2.2.trans (b3.mono H2.out.2.2.size)) (And.intro hin3 (own_below HO.out.1 (H2.out.2.2.trans (b3.mono H2.out.2.2.size))))))
            have hfar' : Far base u8 w3 u' := fun b o hb => ⟨(hfar b o hb).2, fun e => by
              have h1 := (HO.out.1.lt b e).2
              have h2 := (hfar b o hb).1
              have h3 := H2.out.2.2.size
              omega, by
              have h2 := (hfar b o hb).1
              have h3 := H2.out.1.size
              have h4 := Hbs.out
              omega⟩
            have HU := Lib.hid (And.intro k1 (And.intro k2 (And.intro k3 (And.intro k4 hfar'))))
            rw [show u'.val = .agg #[.slice u'.kA u'.key.length u'.kc, .slice u'.rA u'.row.length u'.rc, .int .u64 (u'.t.e : Int), .int .u64 (u'.t.a : Int), .int .u64 (u'.t.b : Int), .int .i64 u'.d] from rfl]
            have hs3 := H3.out.1.size
            clear k1 k2 k3 k4 hin3 b3 hret hfar hfar' c2 c3 c4 c5 c6 c7
            go_wp2_with (at_builtin; refine wpList_push _ rfl _ _ 32 rfl w1.heap.size 57 i0 _ 6 80 HI.out.1 HI.out.2.1 HI.out.2.2.1 HI.out.2.2.2.1 HI.out.2.2.2.2 rfl (by decide) _ _ _ rfl H3.out.2.2.2 #[.slice u'.kA u'.key.length u'.kc, .slice u'.rA u'.row.length u'.rc, .int .u64 (u'.t.e : Int), .int .u64 (u'.t.a : Int), .int .u64 (u'.t.b : Int), .int .i64 u'.d] rfl rfl ?p1 ?p2 ?p3 ?p4 ?_)
            case p1 => exact ⟨rfl, rfl, rfl, rfl, rfl, rfl⟩
            case p2 => unfold maxLen; omega
            case p3 => omega
            case p4 => exact hs3
            intro v' w' ho' hb' hob hgw
            have hbw' := H3.out.1.trans hb'
            have hfarn : ∀ u, Far base u8 w3 u → Far base v' w' u := fun u hu b o hb => by
              obtain ⟨h1, h2, h3⟩ := hu b o hb
              refine ⟨Nat.lt_of_lt_of_le h1 hgw.size, fun e => ?_, h3⟩
              rcases hob with h | h
              · rw [h] at e; exact h2 e
              · rw [h] at e
                injection e with e
                omega
            have hall : ∀ u ∈ outL ++ [u'], UIn w' w'.heap.size u ∧ UOk u ∧ Far base v' w' u := fun u hu => by
              rcases List.mem_append.1 hu with hu | hu
              · have hf3 := (HO.out.2.1 u hu).2.2.next H3.out.2.1.size
                exact ⟨uin_grown ((HO.out.2.1 u hu).1.keep H3.out.2.1) hf3 hgw, (HO.out.2.1 u hu).2.1, hfarn u hf3⟩
              · obtain rfl : u = u' := by simpa using hu
                refine ⟨uin_grown H3.out.2.2.1 HU.out.2.2.2.2 hgw, ⟨?_, ?_, ?_, ?_, ?_⟩, hfarn u HU.out.2.2.2.2⟩
                · rw [HU.out.1]; exact HXK.out.kn
                · rw [HU.out.2.1]; exact HXK.out.rn
                · rw [HU.out.1]; exact HXK.out.ks
                · rw [HU.out.2.1]; exact HXK.out.rs
                · rw [HU.out.2.2.2.1]; exact HF.out.2
            have hmap2 : (outL ++ [u']).map Up.p = nz Uk.cmp ((s.take j).map (pL Up.k)) := by
              rw [List.map_append, HC.out.2.1, if_neg HS0.out, HO.out.2.2.1]
              have hpu : u'.p = (x.u.k, S) := by
                unfold Up.p Up.k
                rw [HU.out.1, HU.out.2.1, HU.out.2.2.1, HU.out.2.2.2.1]
              rw [List.map_cons, List.map_nil, hpu]
            have hrow2 : w'.ownsRow w1.heap.size 57 6 v' (outL ++ [u']).length ((outL ++ [u']).flatMap Up.cells) := by
              rw [List.length_append, List.flatMap_append]
              exact ho'
            have H4 := Lib.hid (And.intro hrow2 (And.intro hall (And.intro hmap2 hbw')))
            clear ho' hb' hob hgw hbw' hfarn hall hmap2 hrow2
            go_wp2_with fail
            go_roundw
            case rel => exact ⟨j, outL ++ [u'], rfl, hj2, H4.out.1, H4.out.2.1, H4.out.2.2.1, H4.out.2.2.2, HC.out.1, by rw [HC.out.2.2.1]; exact HF.out.1, by rw [List.length_append, List.length_singleton]; omega⟩
            case measure => simp [intOf]; omega
    · have hkn : k = n := by omega
      have htk : s.take k = s := by rw [List.take_of_length_le]; rw [HS.out.2.2.2.2.2, hkn]; exact Nat.le_refl _
      rw [htk] at hmap hfit
      obtain ⟨p1, p2⟩ := res_perm (f := Up.k) uk_lin HS.out.1 HL.out.2.2.1
      have hE : resE Uk.cmp (l.map (pL Up.k)) = 0 := by rw [← p2]; unfold resE; rw [hfit]; rfl
      have hLL : outL.map Up.p = resL Uk.cmp (l.map (pL Up.k)) := by rw [← p1]; unfold resL; rw [hfit, hmap]; rfl
      obtain ⟨A', c', rfl, _, _, hl'⟩ := lies_of_own (by decide) ucells_len rfl hown
      have hlo : Lo base A' outL := ⟨fun b o e => by subst e; exact Nat.le_trans Hbs.out (hown.lt b rfl).1, fun u hu b o hb => ((hout u hu).2.2 b o hb).2.2⟩
      have HLo := Lib.hid hlo
      clear hlo
      have HE := Lib.hid (And.intro hE (And.intro hLL (And.intro (⟨hl', fun u hu => (hout u hu).1⟩ : Ups wo wo.heap.size A' outL) (And.intro (fun u hu => (hout u hu).2.1) hbw))))
      have q4 : decide ((k : Int) < (n : Int)) = false := decide_eq_false (by omega)
      clear hown hout hmap hfit hbound hbw htk p1 p2 hE hLL hl'
      go_wp2_with fail
      go_ret2
      exact ⟨A', c', outL, by rw [HE.out.1]; rfl, HE.out.2.1, HE.out.2.2.1, HE.out.2.2.2.1, HS.out.2.2.2.1.trans (HE.out.2.2.2.2.mono Hbs.out), HLo.out⟩
end Go.Proofs.YtenjlhlighkenaaGreat
namespace Go.Proofs.YtenjlhlighkenaaGreat
open Go Go.RowKit Go.Sort

structure Ct where
  rA : Option Addr
  rc : Nat
  row : List Vl
  n : Int
instance : Inhabited Ct := ⟨⟨none, 0, [], 0⟩⟩
namespace Ct
def cells (u : Ct) : List Value := [.slice u.rA u.row.length u.rc, .int .i64 u.n]
def val (u : Ct) : Value := .agg #[.slice u.rA u.row.length u.rc, .int .i64 u.n]
def k (u : Ct) : List Vl := u.row
def p (u : Ct) : List Vl × Int := (u.row, u.n)
end Ct
theorem ccells_len (u : Ct) : u.cells.length = 2 := rfl
theorem ccells_one (u : Ct) : ∀ v ∈ u.cells, v.oneCell' = true := by
  intro v hv
  simp only [Ct.cells, List.mem_cons, List.not_mem_nil, or_false] at hv
  rcases hv with rfl | rfl <;> rfl
def RowR (r : List Vl) : Prop := chkRow r = 0
theorem row_lin : Lin cmpRows RowR where
  swap a b := cmpRows_swap a b
  le a b c h k := cmpRows_le a b c h k
  eq a b ha hb := cmpRows_right (chkRow_zero ha).1 (chkRow_zero hb).1
structure CIn (w : World) (B : Nat) (u : Ct) : Prop where
  row : Vals w B u.rA u.row
theorem CIn.past {w w' : World} {B B' : Nat} {u : Ct} (h : CIn w B u) (hb : RowKit.Below B' w w') (hB : B ≤ B') : CIn w' B u := ⟨h.row.past hb hB⟩
theorem CIn.wide {w : World} {B B' : Nat} {u : Ct} (h : CIn w B u) (hB : B ≤ B') : CIn w B' u := ⟨h.row.wide hB⟩
theorem CIn.keep {w w' : World} {u : Ct} (h : CIn w w.heap.size u) (hb : RowKit.Below w.heap.size w w') : CIn w' w'.heap.size u := (h.past hb (Nat.le_refl _)).wide hb.size
structure COk (u : Ct) : Prop where
  rn : u.row.length ≤ 140737488351232
  rs : ∀ v ∈ u.row, VOk v
  dn : -9223372036854775808 ≤ u.n ∧ u.n ≤ 9223372036854775807
structure Cts (w : World) (B : Nat) (A : Option Addr) (l : List Ct) : Prop where
  head : Lies 2 Ct.cells w B A l
  each_ : ∀ u ∈ l, CIn w B u
theorem Cts.past {w w' : World} {B B' : Nat} {A : Option Addr} {l : List Ct} (h : Cts w B A l) (hb : RowKit.Below B' w w') (hB : B ≤ B') : Cts w' B A l := ⟨h.head.past hb hB, fun u hu => (h.each_ u hu).past hb hB⟩
theorem Cts.wide {w : World} {B B' : Nat} {A : Option Addr} {l : List Ct} (h : Cts w B A l) (hB : B ≤ B') : Cts w B' A l := ⟨h.head.wide hB, fun u hu => (h.each_ u hu).wide hB⟩
theorem Cts.keep {w w' : World} {A : Option Addr} {l : List Ct} (h : Cts w w.heap.size A l) (hb : RowKit.Below w.heap.size w w') : Cts w' w'.heap.size A l := (h.past hb (Nat.le_refl _)).wide hb.size
def CAt (w : World) (b o : Nat) (u : Ct) : Prop := ∀ (j : Nat) (v : Value), u.cells[j]? = some v → w.cell? ⟨b, o + j, none⟩ = some v
theorem CAt.two {w : World} {b o : Nat} {u : Ct} (h : CAt w b o u) : w.cell? ⟨b, o, none⟩ = some (.slice u.rA u.row.length u.rc) ∧ w.cell? ⟨b, o + 1, none⟩ = some (.int .i64 u.n) := ⟨h 0 _ rfl, h 1 _ rfl⟩
theorem CAt.past_ {w w' : World} {B b o : Nat} {u : Ct} (h : CAt w b o u) (hb : RowKit.Below B w w') (hB : b < B) : CAt w' b o u := fun j v hj => (hb.cell (p := ⟨b, o + j, none⟩) hB).trans (h j v hj)
theorem lies_ct {w : World} {B : Nat} {A : Option Addr} {l : List Ct} (h : Lies 2 Ct.cells w B A l) (hp : 0 < l.length) :
    ∃ b o, A = some ⟨b, o, none⟩ ∧ b < B ∧ ∀ (i : Nat) (x : Ct), l[i]? = some x → CAt w b (o + i * 2) x := by
  obtain ⟨b, o, e, hb, hc⟩ := h hp
  exact ⟨b, o, e, hb, fun i x hi j u hj => hc i x hi j u hj⟩
theorem own2 {w : World} {P : Nat} {t : TypeId} {a0 a1 : Value} (h : Own w P t [a0, a1]) : w.cell? ⟨P, 0, none⟩ = some a0 ∧ w.cell? ⟨P, 1, none⟩ = some a1 := ⟨h.at_ 0, h.at_ 1⟩
theorem two_ct (w : World) (a b : Ct) : ∃ W, W = (w.alloc (.cells #[.slice a.rA a.row.length a.rc, .int .i64 a.n] 96)).alloc (.cells #[.slice b.rA b.row.length b.rc, .int .i64 b.n] 96) ∧ Gr w W ∧ Own W w.heap.size 96 a.cells ∧ Own W (w.heap.size + 1) 96 b.cells := by
  refine ⟨_, rfl, Gr.two w _ _, (Own.made w 96 a.cells).more _, ?_⟩
  have := Own.made (w.alloc (.cells #[.slice a.rA a.row.length a.rc, .int .i64 a.n] 96)) 96 b.cells
  rw [show (w.alloc (.cells #[.slice a.rA a.row.length a.rc, .int .i64 a.n] 96)).heap.size = w.heap.size + 1 by simp] at this
  exact this
set_option maxRecDepth 100000 in
set_option maxHeartbeats 3200000 in
theorem ccompare_gr (a b : Ct) (w : World) (ha : CIn w w.heap.size a) (hb : CIn w w.heap.size b) (oa : COk a) (ob : COk b) :
    Calls Tryz.prog 65 #[a.val, b.val] w fun e w' => e = .returned (.int .i64 (cmpRows a.k b.k)) ∧ Gr w w' := by
  obtain ⟨W, hW, hg, o1, o2⟩ := two_ct w a b
  have y1 := Lib.hid (rows_gr a.rA b.rA a.rc b.rc a.row b.row W (ha.keep hg.below).row (hb.keep hg.below).row (maxn oa.rn) (maxn ob.rn))
  have HG := Lib.hid hg
  obtain ⟨a0, a1⟩ := own2 o1
  obtain ⟨b0, b1⟩ := own2 o2
  rw [show a.val = .agg #[.slice a.rA a.row.length a.rc, .int .i64 a.n] from rfl, show b.val = .agg #[.slice b.rA b.row.length b.rc, .int .i64 b.n] from rfl, show cmpRows a.k b.k = cmpRows a.row b.row from rfl]
  generalize cmpRows a.row b.row = r at *
  clear ha hb oa ob hg o1 o2
  go_enter Tryz.func65, Tryz.ntmps65
  go_upto_region 1 with fail
  rw [← hW]
  clear hW
  go_wp2_with fail
  refine y1.out.mono ?_
  rintro _ w1 ⟨rfl, g1⟩
  have H1 := Lib.hid (HG.out.trans g1)
  clear g1
  go_wp2_with fail
  go_ret
  exact ⟨rfl, H1.out⟩
theorem keep_box (w : World) (u : Ct) : ∃ V, V = (w.alloc (.cells #[.slice u.rA u.row.length u.rc, .int .i64 u.n] 96)).alloc (.cells #[.slice none 0 0, .int .i64 0] 96) ∧ RowKit.Below w.heap.size w V ∧ Own V w.heap.size 96 u.cells ∧ Own V (w.heap.size + 1) 96 [.slice none 0 0, .int .i64 0] := by
  refine ⟨_, rfl, ((RowKit.Below.refl _ _).alloc (Nat.le_refl _) _).alloc (by simp) _, (Own.made w 96 u.cells).more _, ?_⟩
  have := Own.made (w.alloc (.cells #[.slice u.rA u.row.length u.rc, .int .i64 u.n] 96)) 96 [.slice none 0 0, .int .i64 0]
  rw [show (w.alloc (.cells #[.slice u.rA u.row.length u.rc, .int .i64 u.n] 96)).heap.size = w.heap.size + 1 by simp] at this
  exact this
theorem own_two {w : World} {P : Nat} {t : TypeId} {z0 z1 : Value} (h : Own w P t [z0, z1]) (a b : Value) :
    ∃ X, X = ((w.setCell ⟨P, 0, none⟩ a).setCell ⟨P, 1, none⟩ b) ∧ Own X P t [a, b] ∧ (∀ B u, RowKit.Below B u w → B ≤ P → RowKit.Below B u X) ∧ X.heap.size = w.heap.size ∧ (∀ b, b ≠ P → X.heap[b]? = w.heap[b]?) :=
  ⟨_, rfl, (h.set_ 0 a).set_ 1 b, fun B u hb hB => (hb.setCell (p := ⟨P, 0, none⟩) hB _).setCell (p := ⟨P, 1, none⟩) hB _, by simp [World.setCell], fun b hb => by
    have k := fun (W : World) (i : Nat) (v : Value) => Below.heap_setCell W ⟨P, i, none⟩ v b hb
    rw [k, k]⟩
def KeptC (u : Ct) (n : Int) (w : World) (x : Ending) (w' : World) : Prop :=
  ∃ u' : Ct, x = .returned u'.val ∧ u'.row = u.row ∧ u'.n = n ∧ CIn w' w'.heap.size u' ∧ (∀ b o, u'.rA = some ⟨b, o, none⟩ → w.heap.size ≤ b ∧ b < w'.heap.size) ∧ RowKit.Below w.heap.size w w'
set_option maxRecDepth 100000 in
set_option maxHeartbeats 6400000 in
theorem keepC_any (u : Ct) (n : Int) (w : World) (hu : CIn w w.heap.size u) (ok : u.row.length * 32 ≤ 281474976710656) :
    Calls Tryz.prog 68 #[u.val, .int .i64 n] w (KeptC u n w) := by
  obtain ⟨V, hV, hvb, hvo, hvz⟩ := keep_box w u
  have hin := hu.keep hvb
  have y1 := Lib.hid (listV_any u.rA u.rc u.row V hin.row ok)
  have HZ := Lib.hid hvz
  have HB := Lib.hid hvb
  obtain ⟨d0, d1⟩ := own2 hvo
  rw [show u.val = .agg #[.slice u.rA u.row.length u.rc, .int .i64 u.n] from rfl]
  have hsz := hvz.inside
  clear hu ok hvb hvo hvz hin
  go_enter Tryz.func68, Tryz.ntmps68
  go_upto_region 1 with fail
  rw [← hV]
  clear hV
  go_wp2_with (go_at_call 69; refine y1.out.mono ?_; rintro _ w2 ⟨A2, k2, rfl, v2, n2, b2⟩; have f0 := (HZ.out.past b2 HZ.out.inside).open_ 0; have f1 := (HZ.out.past b2 HZ.out.inside).open_ 1; have e0 := (HZ.out.past b2 HZ.out.inside).at_ 0; have e1 := (HZ.out.past b2 HZ.out.inside).at_ 1; simp only [List.getElem?_cons_zero, List.getElem?_cons_succ] at e0 e1)
  obtain ⟨X, hX, hXo, hXb, hXs, hXh⟩ := own_two (HZ.out.past b2 HZ.out.inside) (.slice A2 u.row.length k2) (.int .i64 n)
  have v2' := vals_other v2 (fun b o e => by have := (n2 b o e).1; omega) hXs hXh
  have hbX := hXb w.heap.size w (HB.out.trans (b2.mono HB.out.size)) (Nat.le_succ _)
  have hfar : ∀ b o, A2 = some (⟨b, o, none⟩ : Addr) → w.heap.size ≤ b ∧ b < X.heap.size := fun b o h => by
    have h1 := n2 b o h
    have h3 := h1.1
    have h4 := h1.2
    omega
  rw [← hX]
  obtain ⟨x0, x1⟩ := own2 hXo
  exact bodyPost_ret (v := .agg #[.slice A2 u.row.length k2, .int .i64 n]) (by simp [results, Tryz.results68, go_sem, x0, x1]) rfl ⟨⟨A2, k2, u.row, n⟩, rfl, rfl, rfl, ⟨v2'⟩, hfar, hbX⟩
end Go.Proofs.YtenjlhlighkenaaGreat
namespace Go.Proofs.YtenjlhlighkenaaGreat
open Go Go.RowKit Go.Sort Go.Lib Go.Shelf

theorem lccells_one (x : Ln Ct) : ∀ v ∈ Ln.cells Ct.cells x, v.oneCell' = true := by
  intro v hv
  unfold Ln.cells at hv
  rcases List.mem_cons.1 hv with rfl | hv
  · rfl
  · rcases List.mem_cons.1 hv with rfl | hv
    · rfl
    · exact ccells_one x.u v hv
theorem lc_box (w : World) (x y : Ln Ct) : ∃ W, W = (w.alloc (.cells #[.int .u64 (hiW x.S), .int .u64 (loW x.S), .slice x.u.rA x.u.row.length x.u.rc, .int .i64 x.u.n] 98)).alloc (.cells #[.int .u64 (hiW y.S), .int .u64 (loW y.S), .slice y.u.rA y.u.row.length y.u.rc, .int .i64 y.u.n] 98) ∧ Gr w W ∧ Own W w.heap.size 98 (Ln.cells Ct.cells x) ∧ Own W (w.heap.size + 1) 98 (Ln.cells Ct.cells y) := by
  refine ⟨_, rfl, Gr.two w _ _, (Own.made w 98 (Ln.cells Ct.cells x)).more _, ?_⟩
  have := Own.made (w.alloc (.cells #[.int .u64 (hiW x.S), .int .u64 (loW x.S), .slice x.u.rA x.u.row.length x.u.rc, .int .i64 x.u.n] 98)) 98 (Ln.cells Ct.cells y)
  rw [show (w.alloc (.cells #[.int .u64 (hiW x.S), .int .u64 (loW x.S), .slice x.u.rA x.u.row.length x.u.rc, .int .i64 x.u.n] 98)).heap.size = w.heap.size + 1 by simp] at this
  exact this
theorem own4l {w : World} {P : Nat} {t : TypeId} {a0 a1 a2 a3 : Value} (h : Own w P t [a0, a1, a2, a3]) : w.cell? ⟨P, 2, none⟩ = some a2 ∧ w.cell? ⟨P, 3, none⟩ = some a3 := ⟨h.at_ 2, h.at_ 3⟩
set_option maxRecDepth 100000 in
set_option maxHeartbeats 3200000 in
theorem closC_gr (x y : Ln Ct) (bx : Nat) (w : World) (hbx : w.cell? ⟨bx, 0, none⟩ = some (.func (.func 65) #[] #[])) (hx : CIn w w.heap.size x.u) (hy : CIn w w.heap.size y.u) (ox : COk x.u) (oy : COk y.u) :
    Calls Tryz.prog 97 #[.agg #[.int .u64 (hiW x.S), .int .u64 (loW x.S), .slice x.u.rA x.u.row.length x.u.rc, .int .i64 x.u.n], .agg #[.int .u64 (hiW y.S), .int .u64 (loW y.S), .slice y.u.rA y.u.row.length y.u.rc, .int .i64 y.u.n], .pointer (some ⟨bx, 0, none⟩)] w fun e w' => e = .returned (.int .i64 (cmpRows x.u.k y.u.k)) ∧ Gr w w' := by
  obtain ⟨W, hW, hg, o1, o2⟩ := lc_box w x y
  have hb := hg.below
  have hbW : W.cell? ⟨bx, 0, none⟩ = some (.func (.func 65) #[] #[]) := (hb.cell (p := ⟨bx, 0, none⟩) (World.block_lt_of_cell? w _ hbx)).trans hbx
  have hcall := Lib.hid (ccompare_gr x.u y.u W (hx.keep hb) (hy.keep hb) ox oy)
  obtain ⟨a0, a1⟩ := own4l o1
  obtain ⟨b0, b1⟩ := own4l o2
  have HG := Lib.hid hg
  rw [show x.u.val = .agg #[.slice x.u.rA x.u.row.length x.u.rc, .int .i64 x.u.n] from rfl, show y.u.val = .agg #[.slice y.u.rA y.u.row.length y.u.rc, .int .i64 y.u.n] from rfl] at hcall
  generalize cmpRows x.u.k y.u.k = r at *
  clear hg hb hx hy ox oy o1 o2 hbx
  go_enter Tryz.func97, Tryz.ntmps97
  go_upto_region 1 with fail
  rw [← hW]
  clear hW
  go_wp2_with fail
  refine hcall.out.mono ?_
  rintro _ w1 ⟨rfl, g1⟩
  have H1 := Lib.hid (HG.out.trans g1)
  clear g1
  go_wp2_with fail
  go_ret
  exact ⟨rfl, H1.out⟩
set_option maxRecDepth 100000 in
set_option maxHeartbeats 3200000 in
theorem sortC_any (bx g cap : Nat) (l : List (Ln Ct)) (w : World) (hrow : RowOf (Ln.cells Ct.cells) 4 w g l) (hg : g < w.heap.size) (hbx : w.cell? ⟨bx, 0, none⟩ = some (.func (.func 65) #[] #[])) (hne : bx ≠ g) (hin : ∀ x ∈ l, CIn w g x.u) (hok : ∀ x ∈ l, COk x.u) (hpos : 0 < l.length) (hn : l.length < 4611686018427387904) :
    Calls Tryz.prog 96 #[.slice (some ⟨g, 0, none⟩) l.length cap, .func (.func 97) #[] #[.pointer (some ⟨bx, 0, none⟩)]] w fun e w' => e = .returned (.tuple #[]) ∧ ∃ l' : List (Ln Ct), l'.Perm l ∧ l'.Pairwise (fun x y => cmpRows x.u.k y.u.k ≤ 0) ∧ RowOf (Ln.cells Ct.cells) 4 w' g l' ∧ RowKit.Below g w w' ∧ ∀ b, b ≠ g → b < w.heap.size → w'.heap[b]? = w.heap[b]? := by
  obtain ⟨m, rfl⟩ := map_pick (p := fun x : Ln Ct => CIn w g x.u ∧ COk x.u) l fun x hx => ⟨hin x hx, hok x hx⟩
  have eg : ∀ args w, (callFunc 97 args).run Tryz.prog w = .ok (.enter 97 args) w := enters_of Tryz.func97 (by kernel_rfl) rfl
  have hlen : (m.map (·.1)).length = m.length := List.length_map ..
  letI : Inhabited {x : Ln Ct // CIn w g x.u ∧ COk x.u} := ⟨m[0]'(by rw [hlen] at hpos; exact hpos)⟩
  have hbl := World.block_lt_of_cell? w _ hbx
  have hcon := sort_gen (α := {x : Ln Ct // CIn w g x.u ∧ COk x.u}) Tryz.sortC 4 Tryz.isAgg98 Tryz.sizeOf98 (fun x => Ln.cells Ct.cells x.1) (fun _ => rfl) (by decide) (fun x => lccells_one x.1)
    (fun x y => cmpRows x.1.u.k y.1.u.k) (swo_lin row_lin fun x : {x : Ln Ct // CIn w g x.u ∧ COk x.u} => x.1.u.k) 97 #[.pointer (some ⟨bx, 0, none⟩)] g cap m w eg
    (fun mm os dk _ x y => by
      have hb := sortWorld_below (enc := fun x : {x : Ln Ct // CIn w g x.u ∧ COk x.u} => Ln.cells Ct.cells x.1) (k := 4) (off := 0) (m := mm) (dk := dk) (os := os) (Nat.le_refl g) hg
      have hs := hb.size
      exact closC_gr x.1 y.1 bx _ ((cell_heap (sortWorld_other hne hbl)).trans hbx) ((x.2.1.past hb (Nat.le_refl _)).wide (by omega)) ((y.2.1.past hb (Nat.le_refl _)).wide (by omega)) x.2.2 y.2.2)
    (fun i x hx j v hv => hrow i x.1 (by rw [List.getElem?_map, hx]; rfl) j v hv) hg (by rw [hlen] at hn; exact hn)
  change Calls Tryz.prog 96 _ _ _ at hcon
  rw [hlen]
  refine hcon.mono ?_
  rintro e w' ⟨rfl, l', hp, hs, hr, hb, ho⟩
  refine ⟨rfl, l'.map (·.1), hp.map _, ?_, fun i x hx j v hv => ?_, hb, ho⟩
  · rw [List.pairwise_map]
    exact hs.imp fun {a b} h => by
      have := row_lin.swap a.1.u.k b.1.u.k
      omega
  · rw [List.getElem?_map] at hx
    obtain ⟨y, hy, rfl⟩ := Option.map_eq_some_iff.1 hx
    exact hr i y hy j v hv
theorem sortC_all (v : Value) (n bx base : Nat) (l : List (Ln Ct)) (w : World) (hnl : n = l.length) (h : w.ownsRow base 98 4 v n (l.flatMap (Ln.cells Ct.cells))) (hbx : w.cell? ⟨bx, 0, none⟩ = some (.func (.func 65) #[] #[])) (hin : ∀ x ∈ l, CIn w base x.u) (hok : ∀ x ∈ l, COk x.u) (hn : l.length < 4611686018427387904) :
    ∃ A c, v = .slice A n c ∧ Calls Tryz.prog 96 #[.slice A n c, .func (.func 97) #[] #[.pointer (some ⟨bx, 0, none⟩)]] w fun e w' => e = .returned (.tuple #[]) ∧ ∃ l' : List (Ln Ct), l'.Perm l ∧ l'.Pairwise (fun x y => cmpRows x.u.k y.u.k ≤ 0) ∧ Lies 4 (Ln.cells Ct.cells) w' w'.heap.size A l' ∧ RowKit.Below base w w' ∧ w'.cell? ⟨bx, 0, none⟩ = some (.func (.func 65) #[] #[]) := by
  subst hnl
  by_cases h0 : l.length = 0
  · obtain rfl : l = [] := List.eq_nil_of_length_eq_zero h0
    have key : ∀ A c, Calls Tryz.prog 96 #[.slice A 0 c, .func (.func 97) #[] #[.pointer (some ⟨bx, 0, none⟩)]] w fun e w' => e = .returned (.tuple #[]) ∧ ∃ l' : List (Ln Ct), l'.Perm [] ∧ l'.Pairwise (fun x y => cmpRows x.u.k y.u.k ≤ 0) ∧ Lies 4 (Ln.cells Ct.cells) w' w'.heap.size A l' ∧ RowKit.Below base w w' ∧ w'.cell? ⟨bx, 0, none⟩ = some (.func (.func 65) #[] #[]) := fun A c =>
      (AnyF.slices_SortFunc_none Tryz.sortC A c _ w).mono fun e w' ⟨he, hw⟩ => ⟨he, [], List.Perm.refl _, List.Pairwise.nil, Lies.nil_, hw ▸ RowKit.Below.refl _ _, hw ▸ hbx⟩
    rcases h.2 with ⟨rfl, _⟩ | ⟨g, cap, cur, rfl, _⟩
    · exact ⟨_, _, rfl, key _ _⟩
    · exact ⟨_, _, rfl, key _ _⟩
  · rcases h.2 with ⟨_, hz⟩ | ⟨g, cap, cur, rfl, hb, hheap, _⟩
    · exact absurd hz h0
    · have hg : g < w.heap.size := (Array.getElem?_eq_some_iff.1 hheap).1
      have hrow : RowOf (Ln.cells Ct.cells) 4 w g l := fun i x hx j u hj => by
        have hf := flat_of (cells := Ln.cells Ct.cells) (size := 4) (fun _ => rfl) l i j x u hx hj
        have hlt : i * 4 + j < l.length * 4 := by have := (List.getElem?_eq_some_iff.1 hf).1; rwa [flat_size (cells := Ln.cells Ct.cells) (size := 4) (fun _ => rfl)] at this
        exact ⟨by rw [h.cellAt _ hlt]; exact hf, h.frozenAt _⟩
      have hne : bx ≠ g := fun e => by
        subst e
        have := (hrow 0 _ (List.getElem?_eq_getElem (show 0 < l.length by omega)) 0 _ rfl).1
        rw [show 0 * 4 + 0 = 0 by rfl, hbx] at this
        cases this
      refine ⟨_, _, rfl, (sortC_any bx g cap l w hrow hg hbx hne (fun x hx => (hin x hx).wide hb) hok (by omega) hn).mono ?_⟩
      rintro e w' ⟨he, l', hp, hs, hr, hbe, ho⟩
      refine ⟨he, l', hp, hs, fun _ => ⟨g, 0, rfl, Nat.lt_of_lt_of_le hg hbe.size, fun i x hx j u hj => ?_⟩, hbe.mono hb, (cell_heap (ho bx hne (World.block_lt_of_cell? w _ hbx))).trans hbx⟩
      rw [Nat.zero_add]
      exact (hr i x hx j u hj).1
end Go.Proofs.YtenjlhlighkenaaGreat
namespace Go.Proofs.YtenjlhlighkenaaGreat
open Go Go.RowKit

theorem infoCt : (Tryz.prog.info? 96).map (fun i => (i.zero, i.size, i.bytes)) = some (some (.agg #[.slice none 0 0, .int .i64 0]), 2, 32) := by kernel_rfl
def FarC (B : Nat) (v : Value) (w : World) (u : Ct) : Prop := ∀ b o, u.rA = some ⟨b, o, none⟩ → b < w.heap.size ∧ v.ownBlock ≠ some b ∧ B ≤ b
theorem FarC.next {B : Nat} {v : Value} {w w' : World} {u : Ct} (h : FarC B v w u) (hs : w.heap.size ≤ w'.heap.size) : FarC B v w' u := fun b o hb => ⟨Nat.lt_of_lt_of_le (h b o hb).1 hs, (h b o hb).2⟩
theorem cin_grown {B : Nat} {v : Value} {w w' : World} {u : Ct} (h : CIn w w.heap.size u) (hf : FarC B v w u) (hg : w.grownBy w' v.ownBlock) : CIn w' w'.heap.size u := ⟨vals_grown h.row hg fun b o e => (hf b o e).2.1⟩
def LoC (B : Nat) (A : Option Addr) (l : List Ct) : Prop := (∀ b o, A = some ⟨b, o, none⟩ → B ≤ b) ∧ ∀ u ∈ l, ∀ b o, u.rA = some ⟨b, o, none⟩ → B ≤ b
theorem loC_nil (B : Nat) : LoC B none [] := ⟨fun b o e => (by cases e), fun u hu => (by cases hu)⟩
def TotCs (l : List (List Vl × Int)) (base : Nat) (w : World) (x : Ending) (w' : World) : Prop :=
  ∃ A c, ∃ outL : List Ct, x = .returned (.tuple #[.slice A outL.length c, .int .i64 (resE cmpRows l)]) ∧ outL.map Ct.p = resL cmpRows l ∧ Cts w' w'.heap.size A outL ∧ (∀ u ∈ outL, COk u) ∧ Below base w w' ∧ LoC base A outL
theorem lnc_box (w : World) (x : Ln Ct) : ∃ V, V = w.alloc (.cells #[.int .u64 (hiW x.S), .int .u64 (loW x.S), .slice x.u.rA x.u.row.length x.u.rc, .int .i64 x.u.n] 98) ∧ Below w.heap.size w V ∧ V.heap.size = w.heap.size + 1 ∧ Own V w.heap.size 98 (Ln.cells Ct.cells x) :=
  ⟨_, rfl, (Below.refl _ _).alloc (Nat.le_refl _) _, by simp, Own.made w 98 (Ln.cells Ct.cells x)⟩
theorem own4a {w : World} {P : Nat} {t : TypeId} {a0 a1 a2 a3 : Value} (h : Own w P t [a0, a1, a2, a3]) : w.cell? ⟨P, 0, none⟩ = some a0 ∧ w.cell? ⟨P, 1, none⟩ = some a1 := ⟨h.at_ 0, h.at_ 1⟩
theorem ln_four {w : World} {g o : Nat} {x : Ln Ct} (h : ∀ (j : Nat) (u : Value), (Ln.cells Ct.cells x)[j]? = some u → w.cell? ⟨g, o + j, none⟩ = some u) :
    w.cell? ⟨g, o, none⟩ = some (.int .u64 (hiW x.S)) ∧ w.cell? ⟨g, o + 1, none⟩ = some (.int .u64 (loW x.S)) ∧ w.cell? ⟨g, o + 2, none⟩ = some (.slice x.u.rA x.u.row.length x.u.rc) ∧ w.cell? ⟨g, o + 3, none⟩ = some (.int .i64 x.u.n) := ⟨h 0 _ rfl, h 1 _ rfl, h 2 _ rfl, h 3 _ rfl⟩
set_option maxRecDepth 100000 in
set_option maxHeartbeats 16000000 in
theorem totalC_any (v : Value) (n base : Nat) (l : List (Ln Ct)) (w : World) (hnl : n = l.length) (h : w.ownsRow base 98 4 v n (l.flatMap (Ln.cells Ct.cells))) (hbase : base ≤ w.heap.size) (hin : ∀ x ∈ l, CIn w base x.u) (hok : ∀ x ∈ l, COk x.u) (hR : ∀ x ∈ l, RowR x.u.k)
    (hS : ∀ x ∈ l, -9223372036854775808 ≤ x.S ∧ x.S ≤ 9223372036854775807) (hn : n ≤ 1099511627776) :
    Calls Tryz.prog 67 #[v, .func (.func 65) #[] #[], .func (.func 68) #[] #[]] w (TotCs (l.map (pL Ct.k)) base w) := by
  obtain ⟨i0, hi, hz0, hz1, hz2⟩ := info_parts infoCt
  have HI := Lib.hid (And.intro Tryz.underlying49 (And.intro hi (And.intro hz0 (And.intro hz1 hz2))))
  obtain ⟨W, hW, hwb, hws, hwc⟩ := fn_box w (.func (.func 65) #[] #[]) 136
  obtain ⟨A, c, rfl, hsort⟩ := sortC_all v n w.heap.size base l W hnl (own_below h hwb) hwc (fun x hx => (hin x hx).past hwb hbase) hok (by omega)
  have Hsort := Lib.hid hsort
  have HB := Lib.hid (And.intro (hwb.mono hbase) hbase)
  have HL := Lib.hid (And.intro hin (And.intro hok (And.intro hR (And.intro hS hnl))))
  clear hi hz0 hz1 hz2 hsort hwb hws hwc hin hok hR hS h hnl hbase
  go_enter Tryz.func67, Tryz.ntmps67
  go_upto_region 1 with fail
  rw [← hW]
  clear hW
  go_wp2_with fail
  refine Hsort.out.mono ?_
  rintro _ w1 ⟨rfl, s, hp, hpw, hlies, hb1, hbx⟩
  have hsn : s.length = n := by rw [hp.length_eq]; exact HL.out.2.2.2.2.symm
  have HS := Lib.hid (And.intro hp (And.intro hpw (And.intro hlies (And.intro (HB.out.1.trans hb1) (And.intro hbx hsn)))))
  have HX := Lib.hid (And.intro (fun x (hx : x ∈ s) => (HL.out.1 x (hp.mem_iff.1 hx)).past (HB.out.1.trans hb1) (Nat.le_refl _)) (And.intro (fun x (hx : x ∈ s) => HL.out.2.1 x (hp.mem_iff.1 hx)) (fun x (hx : x ∈ s) => HL.out.2.2.2.1 x (hp.mem_iff.1 hx))))
  have hbs : base ≤ w1.heap.size := Nat.le_trans HB.out.2 (HB.out.1.trans hb1).size
  have Hbs := Lib.hid hbs
  clear hp hpw hlies hb1 hbx hsn Hsort hbs
  go_wp2_with fail
  go_loopw [8, 9] (fun v8 v9 wr => ∃ (k : Nat) (outL : List Ct), v9 = .int .i64 (k : Int) ∧ k ≤ n ∧ wr.ownsRow w1.heap.size 96 2 v8 outL.length (outL.flatMap Ct.cells) ∧ (∀ u ∈ outL, CIn wr wr.heap.size u ∧ COk u ∧ FarC base v8 wr u) ∧ outL.map Ct.p = nz cmpRows ((s.take k).map (pL Ct.k)) ∧ Below w1.heap.size w1 wr ∧ Bound cmpRows Ct.k s k ∧ (asm cmpRows ((s.take k).map (pL Ct.k))).all (fun x => fits x.2) = true ∧ outL.length ≤ k)
    (fun _ v9 _ => n - (intOf v9).toNat)
  case atStart => exact ⟨0, [], rfl, by omega, World.ownsRow_nil _ _ _ _, fun u hu => (by cases hu), rfl, Below.refl _ _, fun a ha => (by cases ha), rfl, Nat.le_refl _⟩
  case round =>
    obtain ⟨k, outL, rfl, hk, hown, hout, hmap, hbw, hbound, hfit, hlen⟩ := hrel
    obtain ⟨wo, hwo⟩ : ∃ wo, wo = wr := ⟨_, rfl⟩
    subst hwo
    by_cases hlt : k < n
    · have hx : s[k]? = some (s[k]'(by rw [HS.out.2.2.2.2.2]; exact hlt)) := List.getElem?_eq_getElem _
      obtain ⟨g, o, rfl, hB, hxs⟩ := HS.out.2.2.1 (by rw [HS.out.2.2.2.2.2]; omega)
      have hmem := List.mem_of_getElem? hx
      generalize (s[k]'(by rw [HS.out.2.2.2.2.2]; exact hlt)) = x at *
      have hline := Lib.hid (fun (W : World) (hW : Below w1.heap.size w1 W) (i : Nat) (y : Ln Ct) (hy : s[i]? = some y) => ln_four (w := W) (g := g) (o := o + i * 4) (x := y) fun j u hj => (hW.cell (p := ⟨g, o + i * 4 + j, none⟩) hB).trans (hxs i y hy j u hj))
      have hrows := Lib.hid (fun (W : World) (hW : Below w1.heap.size w1 W) (y : Ln Ct) (hy : y ∈ s) => ((HX.out.1 y hy).past hW Hbs.out).wide (Nat.le_trans Hbs.out hW.size))
      have hfn := Lib.hid (fun (W : World) (hW : Below w1.heap.size w1 W) => (hW.cell (p := ⟨w.heap.size, 0, none⟩) (World.block_lt_of_cell? w1 _ HS.out.2.2.2.2.1)).trans HS.out.2.2.2.2.1)
      obtain ⟨e0, e1, e2, e3⟩ := hline.out wo hbw k x hx
      obtain ⟨V, hV, hvb, hvs, hvo⟩ := lnc_box wo x
      have HO := Lib.hid (And.intro hown (And.intro hout (And.intro hmap (And.intro hbw (And.intro hbound (And.intro hfit hlen))))))
      have HV := Lib.hid (And.intro hvb (And.intro hvo (And.intro hx hmem)))
      have hgs := gsum_one hx
      have q0 : (0 : Int) ≤ (k : Int) := by omega
      have q1 : (k : Int) < (n : Int) := by omega
      clear hx hmem hxs hown hout hmap hbw hbound hfit hvb hvo hlen hvs
      have HG := Lib.hid hgs
      clear hgs
      go_upto_region 6 with fail
      rw [← hV]
      clear hV e0 e1 e2 e3
      go_upto_block 2 with fail
      go_cut [9] (fun v9 wi => ∃ j : Nat, v9 = .int .i64 (j : Int) ∧ k + 1 ≤ j ∧ j ≤ n ∧ (∀ m y, k ≤ m → m < j → s[m]? = some y → cmpRows x.u.k y.u.k = 0) ∧ (∀ y, s[j]? = some y → cmpRows x.u.k y.u.k ≠ 0) ∧ Own wi wo.heap.size 98 (.int .u64 (hiW (gsum s k j)) :: .int .u64 (loW (gsum s k j)) :: x.u.cells) ∧ Below wo.heap.size wo wi)
      case first =>
        go_wp2_with fail
        go_loopw [9] (fun v9 wi => ∃ j : Nat, v9 = .int .i64 (j : Int) ∧ k + 1 ≤ j ∧ j ≤ n ∧ (∀ m y, k ≤ m → m < j → s[m]? = some y → cmpRows x.u.k y.u.k = 0) ∧ Own wi wo.heap.size 98 (.int .u64 (hiW (gsum s k j)) :: .int .u64 (loW (gsum s k j)) :: x.u.cells) ∧ Below wo.heap.size wo wi)
          (fun v9 _ => n - (intOf v9).toNat)
        case atStart =>
          refine ⟨k + 1, by go_num, Nat.le_refl _, by omega, fun m y h1 h2 h3 => ?_, by rw [HG.out]; exact HV.out.2.1, HV.out.1⟩
          obtain rfl : m = k := by omega
          rw [HV.out.2.2.1] at h3
          obtain rfl := Option.some.inj h3
          exact row_lin.self _
        case round =>
          obtain ⟨j, rfl, hj1, hj2, heq, howi, hbi⟩ := hrel
          obtain ⟨wi, hwi⟩ : ∃ wi, wi = wr := ⟨_, rfl⟩
          subst hwi
          have hbj : Below w1.heap.size w1 wi := HO.out.2.2.2.1.trans (hbi.mono HO.out.2.2.2.1.size)
          have HJ := Lib.hid (And.intro heq (And.intro howi (And.intro hbi hbj)))
          clear heq howi hbi hbj
          by_cases hjn : j < n
          · have hy : s[j]? = some (s[j]'(by rw [HS.out.2.2.2.2.2]; exact hjn)) := List.getElem?_eq_getElem _
            have hymem := List.mem_of_getElem? hy
            generalize (s[j]'(by rw [HS.out.2.2.2.2.2]; exact hjn)) = y at *
            have q2 : (0 : Int) ≤ (j : Int) := by omega
            have q3 : (j : Int) < (n : Int) := by omega
            have q4 : decide ((j : Int) < (n : Int)) = true := decide_eq_true q3
            have HY := Lib.hid (And.intro hy hymem)
            have u1 : ∀ p : Past wi, Calls Tryz.prog 65 #[.agg #[.slice x.u.rA x.u.row.length x.u.rc, .int .i64 x.u.n], .agg #[.slice y.u.rA y.u.row.length y.u.rc, .int .i64 y.u.n]] p.w fun e w'' => e = .returned (.int .i64 (cmpRows x.u.k y.u.k)) ∧ ∃ q : Past wi, w'' = q.w := fun p =>
              calls_past ((ccompare_gr x.u y.u p.w (hrows.out p.w (HJ.out.2.2.2.trans (p.h.mono HJ.out.2.2.2.size)) x HV.out.2.2.2) (hrows.out p.w (HJ.out.2.2.2.trans (p.h.mono HJ.out.2.2.2.size)) y HY.out.2) (HX.out.2.1 x HV.out.2.2.2) (HX.out.2.1 y HY.out.2)).mono fun e w' h => ⟨h.1, h.2.below⟩)
            have u2 := fun p : Past wi => hfn.out p.w (HJ.out.2.2.2.trans (p.h.mono HJ.out.2.2.2.size))
            have u3 := fun p : Past wi => own4l (HJ.out.2.1.past p.h HJ.out.2.1.inside)
            have u4 := fun p : Past wi => (hline.out p.w (HJ.out.2.2.2.trans (p.h.mono HJ.out.2.2.2.size)) j y HY.out.1).2.2
            obtain ⟨r, hr⟩ : ∃ r, cmpRows x.u.k y.u.k = r := ⟨_, rfl⟩
            rw [hr] at u1
            have HR := Lib.hid hr
            clear hr hy hymem
            by_cases hr0 : r = 0
            · have t1 : (r == 0) = true := beq_iff_eq.2 hr0
              have HR0 := Lib.hid hr0
              clear hr0
              go_upto_region 7 with fail
              refine wp_region_past wi (by kernel_rfl) (by kernel_rfl) (Below.refl _ _) ?_
              repeat (first | go_big_quiet_step ((go_at_call 65; exact u1 _)) | quiet_step ((go_at_call 65; exact u1 _)))
              refine wpQuiet_nil ?_
              intro wz hw'
              obtain ⟨⟨wy, hbz⟩, hw''⟩ := hw'
              dsimp only at hw''
              subst hw''
              have hz1 := HJ.out.2.2.2.trans (hbz.mono HJ.out.2.2.2.size)
              obtain ⟨e0, e1, _⟩ := hline.out wz hz1 j y HY.out.1
              have hadd := Lib.hid (add_line (gsum s k j) y.S wo.heap.size 98 x.u.cells wz (HJ.out.2.1.past hbz HJ.out.2.1.inside))
              have HZ := Lib.hid (HJ.out.2.2.1.trans (hbz.mono HJ.out.2.2.1.size))
              clear u1 u2 u3 u4 hbz hz1 t1
              go_wp2_with fail
              refine hadd.out.mono ?_
              rintro _ w5 ⟨rfl, ho5, hb5⟩
              have H5 := Lib.hid (And.intro ho5 (HZ.out.trans (hb5 _ (Nat.le_refl _))))
              clear ho5 hb5 e0 e1 hadd
              go_wp2_with fail
              go_roundw
              case rel =>
                refine ⟨j + 1, by go_num, by omega, by omega, fun m z h1 h2 h3 => ?_, by rw [gsum_next (by omega) HY.out.1]; exact H5.out.1, H5.out.2⟩
                by_cases hmj : m = j
                · subst hmj
                  rw [HY.out.1] at h3
                  obtain rfl := Option.some.inj h3
                  rw [HR.out, HR0.out]
                · exact HJ.out.1 m z h1 (by omega) h3
              case measure => simp [intOf]; omega
            · have t1 : (r == 0) = false := beq_eq_false_iff_ne.2 hr0
              have HR0 := Lib.hid hr0
              clear hr0
              go_upto_region 7 with fail
              refine wp_region_past wi (by kernel_rfl) (by kernel_rfl) (Below.refl _ _) ?_
              repeat (first | go_big_quiet_step ((go_at_call 65; exact u1 _)) | quiet_step ((go_at_call 65; exact u1 _)))
              refine wpQuiet_nil ?_
              intro wz hw'
              obtain ⟨⟨wy, hbz⟩, hw''⟩ := hw'
              dsimp only at hw''
              subst hw''
              have HZ := Lib.hid (And.intro (HJ.out.2.1.past hbz HJ.out.2.1.inside) (HJ.out.2.2.1.trans (hbz.mono HJ.out.2.2.1.size)))
              clear u1 u2 u3 u4 hbz t1
              go_wp2_with fail
              go_meet
              exact ⟨j, rfl, by omega, by omega, HJ.out.1, fun z hz => by
                rw [HY.out.1] at hz
                obtain rfl := Option.some.inj hz
                rw [HR.out]
                exact HR0.out, HZ.out.1, HZ.out.2⟩
          · have q4 : decide ((j : Int) < (n : Int)) = false := decide_eq_false (by omega)
            go_upto_region 7 with fail
            go_quiet (fail)
            go_wp2_with fail
            go_meet
            exact ⟨j, rfl, by omega, by omega, HJ.out.1, fun z hz => by
              have := (List.getElem?_eq_some_iff.1 hz).1
              rw [HS.out.2.2.2.2.2] at this
              omega, HJ.out.2.1.draws _, below_draws HJ.out.2.2.1 _⟩
      case rest =>
        obtain ⟨j, rfl, hj1, hj2, heq, hmax, hown, hbi⟩ := hcut
        obtain ⟨hB2, hasm⟩ := group_step (f := Ct.k) row_lin HS.out.2.1 (by omega) (by rw [HS.out.2.2.2.2.2]; exact hj2) HV.out.2.2.1 heq hmax HO.out.2.2.2.2.1
        have hnz := nz_step hasm
        have hfi := fit_step hasm
        have hgb := gsum_bound HX.out.2.2 (by rw [HS.out.2.2.2.2.2]; exact hn) k j
        rw [HO.out.2.2.2.2.2.1, Bool.true_and] at hfi
        have hcall := fun W => Lib.hid (number_any (gsum s k j) W hgb.1 hgb.2)
        have hbx1 := HO.out.2.2.2.1.trans (hbi.mono HO.out.2.2.2.1.size)
        obtain ⟨c0, c1⟩ := own4a hown
        obtain ⟨S, hSe⟩ : ∃ S, gsum s k j = S := ⟨_, rfl⟩
        rw [hSe] at hasm hnz hfi hcall c0 c1 hown
        have HC := Lib.hid (And.intro hB2 (And.intro hnz (And.intro hfi (And.intro hbx1 (And.intro hbi hown)))))
        clear hB2 hasm hnz hfi hgb heq hmax hown hbi hbx1 hSe
        go_wp2_with fail
        refine (hcall _).out.mono ?_
        rintro _ w2 ⟨rfl, b2⟩
        have H2 := Lib.hid (And.intro (HC.out.2.2.2.1.trans (b2.mono HC.out.2.2.2.1.size)) (And.intro (HC.out.2.2.2.2.2.past b2 HC.out.2.2.2.2.2.inside) (HC.out.2.2.2.2.1.trans (b2.mono HC.out.2.2.2.2.1.size))))
        clear b2 c0 c1 hcall
        cases hf : fits S
        case false =>
          have e1 : fitE S = 10 := by unfold fitE; rw [hf]; rfl
          have hres : resE cmpRows (l.map (pL Ct.k)) = 10 ∧ resL cmpRows (l.map (pL Ct.k)) = [] := by
            obtain ⟨p1, p2⟩ := res_perm (f := Ct.k) row_lin HS.out.1 HL.out.2.2.1
            have hbad := bad_step HC.out.1 (by rw [HC.out.2.2.1]; exact hf)
            rw [← p1, ← p2]
            unfold resE resL
            rw [hbad]
            exact ⟨rfl, rfl⟩
          have HR := Lib.hid hres
          have HE := Lib.hid e1
          rw [e1]
          clear hres hf e1
          go_wp2_with fail
          go_ret2
          exact ⟨none, 0, [], by rw [HR.out.1]; rfl, HR.out.2.symm, ⟨Lies.nil_, fun u hu => (by cases hu)⟩, fun u hu => (by cases hu), HS.out.2.2.2.1.trans (H2.out.1.mono Hbs.out), loC_nil _⟩
        case true =>
          have e1 : fitE S = 0 := by unfold fitE; rw [hf]; rfl
          have e2 : fitN S = S := by unfold fitN; rw [hf]; rfl
          have hfb := (fits_iff S).1 hf
          rw [e1, e2]
          have HF := Lib.hid (And.intro hf hfb)
          clear hf hfb e1 e2
          by_cases hS0 : S = 0
          · have t1 : (S != 0) = false := by simp [hS0]
            have HS0 := Lib.hid hS0
            have hkeep := own_below HO.out.1 H2.out.2.2
            have HK := Lib.hid hkeep
            clear hS0 hkeep
            go_wp2_with fail
            go_roundw
            case rel =>
              refine ⟨j, outL, rfl, hj2, HK.out, fun u hu => ⟨(HO.out.2.1 u hu).1.keep H2.out.2.2, (HO.out.2.1 u hu).2.1, (HO.out.2.1 u hu).2.2.next H2.out.2.2.size⟩, ?_, H2.out.1, HC.out.1, by rw [HC.out.2.2.1]; exact HF.out.1, by have := HO.out.2.2.2.2.2.2; omega⟩
              rw [HC.out.2.1, HS0.out, if_pos rfl, List.append_nil]
              exact HO.out.2.2.1
            case measure => simp [intOf]; omega
          · have t1 : (S != 0) = true := bne_iff_ne.2 hS0
            have HS0 := Lib.hid hS0
            obtain ⟨c2, c3⟩ := own4l H2.out.2.1
            have hxk := HX.out.2.1 x HV.out.2.2.2
            have hx9 := (chkRow_zero (HL.out.2.2.1 x (HS.out.1.mem_iff.1 HV.out.2.2.2))).2
            have hret := Lib.hid (keepC_any x.u S w2 (hrows.out w2 H2.out.1 x HV.out.2.2.2) (by change x.u.row.length ≤ 8 at hx9; omega))
            have HXK := Lib.hid hxk
            rw [show x.u.val = .agg #[.slice x.u.rA x.u.row.length x.u.rc, .int .i64 x.u.n] from rfl] at hret
            clear hS0 hxk hx9
            go_wp2_with fail
            refine hret.out.mono ?_
            rintro _ w3 ⟨u', rfl, k1, k2, hin3, hfar, b3⟩
            have hlen := HO.out.2.2.2.2.2.2
            have H3 := Lib.hid (And.intro (H2.out.1.trans (b3.mono H2.out.1.size)) (And.intro (H2.out.2.2.trans (b3.mono H2.out.2.2.size)) (And.intro hin3 (own_below HO.out.1 (H2.out.2.2.trans (b3.mono H2.out.2.2.size))))))
            have hfar' : FarC base u8 w3 u' := fun b o hb => ⟨(hfar b o hb).2, fun e => by
              have h1 := (HO.out.1.lt b e).2
              have h2 := (hfar b o hb).1
              have h3 := H2.out.2.2.size
              omega, by
              have h2 := (hfar b o hb).1
              have h3 := H2.out.1.size
              have h4 := Hbs.out
              omega⟩
            have HU := Lib.hid (And.intro k1 (And.intro k2 hfar'))
            rw [show u'.val = .agg #[.slice u'.rA u'.row.length u'.rc, .int .i64 u'.n] from rfl]
            have hs3 := H3.out.1.size
            clear k1 k2 hin3 b3 hret hfar hfar' c2 c3
            go_wp2_with (at_builtin; refine wpList_push _ rfl _ _ 49 rfl w1.heap.size 96 i0 _ 2 32 HI.out.1 HI.out.2.1 HI.out.2.2.1 HI.out.2.2.2.1 HI.out.2.2.2.2 rfl (by decide) _ _ _ rfl H3.out.2.2.2 #[.slice u'.rA u'.row.length u'.rc, .int .i64 u'.n] rfl rfl ?p1 ?p2 ?p3 ?p4 ?_)
            case p1 => exact ⟨rfl, rfl⟩
            case p2 => unfold maxLen; omega
            case p3 => omega
            case p4 => exact hs3
            intro v' w' ho' hb' hob hgw
            have hbw' := H3.out.1.trans hb'
            have hfarn : ∀ u, FarC base u8 w3 u → FarC base v' w' u := fun u hu b o hb => by
              obtain ⟨h1, h2, h3⟩ := hu b o hb
              refine ⟨Nat.lt_of_lt_of_le h1 hgw.size, fun e => ?_, h3⟩
              rcases hob with h | h
              · rw [h] at e; exact h2 e
              · rw [h] at e
                injection e with e
                omega
            have hall : ∀ u ∈ outL ++ [u'], CIn w' w'.heap.size u ∧ COk u ∧ FarC base v' w' u := fun u hu => by
              rcases List.mem_append.1 hu with hu | hu
              · have hf3 := (HO.out.2.1 u hu).2.2.next H3.out.2.1.size
                exact ⟨cin_grown ((HO.out.2.1 u hu).1.keep H3.out.2.1) hf3 hgw, (HO.out.2.1 u hu).2.1, hfarn u hf3⟩
              · obtain rfl : u = u' := by simpa using hu
                refine ⟨cin_grown H3.out.2.2.1 HU.out.2.2 hgw, ⟨?_, ?_, ?_⟩, hfarn u HU.out.2.2⟩
                · rw [HU.out.1]; exact HXK.out.rn
                · rw [HU.out.1]; exact HXK.out.rs
                · rw [HU.out.2.1]; exact HF.out.2
            have hmap2 : (outL ++ [u']).map Ct.p = nz cmpRows ((s.take j).map (pL Ct.k)) := by
              rw [List.map_append, HC.out.2.1, if_neg HS0.out, HO.out.2.2.1]
              have hpu : u'.p = (x.u.k, S) := by
                unfold Ct.p Ct.k
                rw [HU.out.1, HU.out.2.1]
              rw [List.map_cons, List.map_nil, hpu]
            have hrow2 : w'.ownsRow w1.heap.size 96 2 v' (outL ++ [u']).length ((outL ++ [u']).flatMap Ct.cells) := by
              rw [List.length_append, List.flatMap_append]
              exact ho'
            have H4 := Lib.hid (And.intro hrow2 (And.intro hall (And.intro hmap2 hbw')))
            clear ho' hb' hob hgw hbw' hfarn hall hmap2 hrow2
            go_wp2_with fail
            go_roundw
            case rel => exact ⟨j, outL ++ [u'], rfl, hj2, H4.out.1, H4.out.2.1, H4.out.2.2.1, H4.out.2.2.2, HC.out.1, by rw [HC.out.2.2.1]; exact HF.out.1, by rw [List.length_append, List.length_singleton]; omega⟩
            case measure => simp [intOf]; omega
    · have hkn : k = n := by omega
      have htk : s.take k = s := by rw [List.take_of_length_le]; rw [HS.out.2.2.2.2.2, hkn]; exact Nat.le_refl _
      rw [htk] at hmap hfit
      obtain ⟨p1, p2⟩ := res_perm (f := Ct.k) row_lin HS.out.1 HL.out.2.2.1
      have hE : resE cmpRows (l.map (pL Ct.k)) = 0 := by rw [← p2]; unfold resE; rw [hfit]; rfl
      have hLL : outL.map Ct.p = resL cmpRows (l.map (pL Ct.k)) := by rw [← p1]; unfold resL; rw [hfit, hmap]; rfl
      obtain ⟨A', c', rfl, _, _, hl'⟩ := lies_of_own (by decide) ccells_len rfl hown
      have hlo : LoC base A' outL := ⟨fun b o e => by subst e; exact Nat.le_trans Hbs.out (hown.lt b rfl).1, fun u hu b o hb => ((hout u hu).2.2 b o hb).2.2⟩
      have HLo := Lib.hid hlo
      clear hlo
      have HE := Lib.hid (And.intro hE (And.intro hLL (And.intro (⟨hl', fun u hu => (hout u hu).1⟩ : Cts wo wo.heap.size A' outL) (And.intro (fun u hu => (hout u hu).2.1) hbw))))
      have q4 : decide ((k : Int) < (n : Int)) = false := decide_eq_false (by omega)
      clear hown hout hmap hfit hbound hbw htk p1 p2 hE hLL hl'
      go_wp2_with fail
      go_ret2
      exact ⟨A', c', outL, by rw [HE.out.1]; rfl, HE.out.2.1, HE.out.2.2.1, HE.out.2.2.2.1, HS.out.2.2.2.1.trans (HE.out.2.2.2.2.mono Hbs.out), HLo.out⟩
end Go.Proofs.YtenjlhlighkenaaGreat
namespace Go.Proofs.YtenjlhlighkenaaGreat
open Go Go.RowKit

structure Rw (α : Type) where
  A : Option Addr
  c : Nat
  l : List α
instance {α : Type} : Inhabited (Rw α) := ⟨⟨none, 0, []⟩⟩
def Rw.cells {α : Type} (s : Rw α) : List Value := [.slice s.A s.l.length s.c]
def flatR {α : Type} (L : List (Rw α)) : List α := L.flatMap Rw.l
structure ULs (w : World) (B : Nat) (A : Option Addr) (L : List (Rw Up)) : Prop where
  head : Lies 1 Rw.cells w B A L
  each_ : ∀ s ∈ L, Ups w B s.A s.l
theorem ULs.past {w w' : World} {B B' : Nat} {A : Option Addr} {L : List (Rw Up)} (h : ULs w B A L) (hb : Below B' w w') (hB : B ≤ B') : ULs w' B A L := ⟨h.head.past hb hB, fun s hs => (h.each_ s hs).past hb hB⟩
theorem ULs.wide {w : World} {B B' : Nat} {A : Option Addr} {L : List (Rw Up)} (h : ULs w B A L) (hB : B ≤ B') : ULs w B' A L := ⟨h.head.wide hB, fun s hs => (h.each_ s hs).wide hB⟩
theorem ULs.keep {w w' : World} {A : Option Addr} {L : List (Rw Up)} (h : ULs w w.heap.size A L) (hb : Below w.heap.size w w') : ULs w' w'.heap.size A L := (h.past hb (Nat.le_refl _)).wide hb.size
theorem ULs.at_ {w : World} {B : Nat} {A : Option Addr} {L : List (Rw Up)} (h : ULs w B A L) {k : Nat} {s : Rw Up} (hx : L[k]? = some s) :
    ∃ b o, A = some ⟨b, o, none⟩ ∧ b < B ∧ w.cell? ⟨b, o + k, none⟩ = some (.slice s.A s.l.length s.c) ∧ Ups w B s.A s.l := by
  have hk := (List.getElem?_eq_some_iff.1 hx).1
  obtain ⟨b, o, e, hb, hc⟩ := h.head (by omega)
  refine ⟨b, o, e, hb, ?_, h.each_ s (List.mem_of_getElem? hx)⟩
  have := hc k s hx 0 _ rfl
  rwa [Nat.mul_one, Nat.add_zero] at this
def chkLs : List (List Up) → Int
  | [] => 0
  | l :: t => if chkUs l = 0 then chkLs t else chkUs l
theorem chkLs_take {L : List (List Up)} {k : Nat} {l : List Up} (h : L[k]? = some l) (h0 : chkLs (L.take k) = 0) : chkLs (L.take (k + 1)) = chkUs l := by
  induction L generalizing k with
  | nil => simp at h
  | cons x L ih =>
    cases k with
    | zero =>
      obtain rfl : x = l := by simpa using h
      simp only [List.take_succ_cons, List.take_zero, chkLs]
      split <;> simp [*]
    | succ k =>
      simp only [List.take_succ_cons, chkLs] at h0 ⊢
      split at h0
      · rename_i hx
        rw [if_pos hx]
        exact ih (by simpa using h) h0
      · rename_i hx; exact absurd h0 hx
theorem chkLs_bad {L : List (List Up)} {k : Nat} {l : List Up} (h : L[k]? = some l) (h0 : chkLs (L.take k) = 0) (hl : chkUs l ≠ 0) : chkLs L = chkUs l := by
  induction L generalizing k with
  | nil => simp at h
  | cons x L ih =>
    cases k with
    | zero =>
      obtain rfl : x = l := by simpa using h
      simp only [chkLs]
      rw [if_neg hl]
    | succ k =>
      simp only [List.take_succ_cons, chkLs] at h0 ⊢
      split at h0
      · rename_i hx
        rw [if_pos hx]
        exact ih (by simpa using h) h0
      · rename_i hx; exact absurd h0 hx
theorem chkLs_all {L : List (List Up)} : chkLs L = 0 ↔ ∀ l ∈ L, chkUs l = 0 := by
  induction L with
  | nil => simp [chkLs]
  | cons x L ih =>
    simp only [chkLs]
    by_cases hx : chkUs x = 0
    · rw [if_pos hx, ih]; simp [hx]
    · rw [if_neg hx]
      exact ⟨fun h => absurd h hx, fun h => h x (by simp)⟩
def consL (L : List (List Up)) : List (Uk × Int) := if chkLs L = 0 then resL Uk.cmp (L.flatten.map Up.p) else []
def consE (L : List (List Up)) : Int := if chkLs L = 0 then resE Uk.cmp (L.flatten.map Up.p) else chkLs L
def UpsSays (l : List (Uk × Int)) (e : Int) (w : World) (x : Ending) (w' : World) : Prop :=
  ∃ A c, ∃ outL : List Up, x = .returned (.tuple #[.slice A outL.length c, .int .i64 e]) ∧ outL.map Up.p = l ∧ Ups w' w'.heap.size A outL ∧ (∀ u ∈ outL, UOk u) ∧ Below w.heap.size w w'
def UpsNew (l : List (Uk × Int)) (e : Int) (w : World) (x : Ending) (w' : World) : Prop :=
  ∃ A c, ∃ outL : List Up, x = .returned (.tuple #[.slice A outL.length c, .int .i64 e]) ∧ outL.map Up.p = l ∧ Ups w' w'.heap.size A outL ∧ (∀ u ∈ outL, UOk u) ∧ Below w.heap.size w w' ∧ Lo w.heap.size A outL
def linesOf (us : List Up) : List (Ln Up) := us.map fun u => ⟨u.d, u⟩
theorem linesOf_len (us : List Up) : (linesOf us).length = us.length := List.length_map ..
theorem linesOf_pL (us : List Up) : (linesOf us).map (pL Up.k) = us.map Up.p := by unfold linesOf; rw [List.map_map]; rfl
theorem linesOf_snoc (us : List Up) (u : Up) : linesOf (us ++ [u]) = linesOf us ++ [⟨u.d, u⟩] := by unfold linesOf; simp
theorem flatR_take {α : Type} {L : List (Rw α)} {k : Nat} {s : Rw α} (h : L[k]? = some s) : flatR (L.take (k + 1)) = flatR (L.take k) ++ s.l := by
  unfold flatR
  rw [List.take_add_one, h, List.flatMap_append]
  simp
theorem flatR_flat {α : Type} (L : List (Rw α)) : flatR L = (L.map Rw.l).flatten := by unfold flatR; rw [List.flatMap_def]
theorem flatR_len {α : Type} {L : List (Rw α)} {k : Nat} {s : Rw α} (h : L[k]? = some s) {j : Nat} (hj : j ≤ s.l.length) : (flatR (L.take k)).length + j ≤ (flatR L).length := by
  have h1 : (flatR (L.take (k + 1))).length ≤ (flatR L).length := by
    have : flatR L = flatR (L.take (k + 1)) ++ flatR (L.drop (k + 1)) := by unfold flatR; rw [← List.flatMap_append, List.take_append_drop]
    rw [this, List.length_append]
    omega
  rw [flatR_take h, List.length_append] at h1
  omega
theorem infoLn : (Tryz.prog.info? 145).map (fun i => (i.zero, i.size, i.bytes)) = some (some (.agg #[.int .u64 0, .int .u64 0, .slice none 0 0, .slice none 0 0, .int .u64 0, .int .u64 0, .int .u64 0, .int .i64 0]), 8, 96) := by kernel_rfl
theorem ln_made (w : World) (u : Up) : Lies 8 (Ln.cells Up.cells) (w.alloc (.cells #[.int .u64 (hiW u.d), .int .u64 (loW u.d), .slice u.kA u.key.length u.kc, .slice u.rA u.row.length u.rc, .int .u64 (u.t.e : Int), .int .u64 (u.t.a : Int), .int .u64 (u.t.b : Int), .int .i64 u.d] 145)) (w.heap.size + 1) (some ⟨w.heap.size, 0, none⟩) [(⟨u.d, u⟩ : Ln Up)] := fun _ => by
  have ho := Own.made w 145 (Ln.cells Up.cells (⟨u.d, u⟩ : Ln Up))
  refine ⟨w.heap.size, 0, rfl, Nat.lt_succ_self _, fun i x hx j v hv => ?_⟩
  match i, hx with
  | 0, hx =>
    obtain rfl : (⟨u.d, u⟩ : Ln Up) = x := by simpa using hx
    rw [show 0 + 0 * 8 + j = j by omega]
    exact (ho.at_ j).trans hv
theorem own_drew' {w : World} {k : Nat} {t : TypeId} {l : List Value} (h : Own w k t l) : Own w.drew k t l := h
set_option maxRecDepth 100000 in
set_option maxHeartbeats 16000000 in
theorem consolidate_new (A : Option Addr) (c : Nat) (L : List (Rw Up)) (w : World) (hl : ULs w w.heap.size A L) (hok : ∀ s ∈ L, ∀ u ∈ s.l, UOk u) (hn : (flatR L).length ≤ 1099511627776) (hn2 : L.length ≤ 1099511627776) :
    Calls Tryz.prog 45 #[.slice A L.length c] w (UpsNew (consL (L.map Rw.l)) (consE (L.map Rw.l)) w) := by
  obtain ⟨i0, hi, hz0, hz1, hz2⟩ := info_parts infoLn
  have HI := Lib.hid (And.intro Tryz.underlying143 (And.intro hi (And.intro hz0 (And.intro hz1 hz2))))
  have HL := Lib.hid (And.intro hl hok)
  clear hl hok hi hz0 hz1 hz2
  go_enter Tryz.func45, Tryz.ntmps45
  go_wp2_with fail
  go_loopw [4, 12] (fun v4 v12 wr => ∃ k : Nat, v12 = .int .i64 (k : Int) ∧ k ≤ L.length ∧ wr.ownsRow w.heap.size 145 8 v4 (flatR (L.take k)).length ((linesOf (flatR (L.take k))).flatMap (Ln.cells Up.cells)) ∧ Below w.heap.size w wr ∧ chkLs ((L.map Rw.l).take k) = 0)
    (fun _ v12 _ => L.length - (intOf v12).toNat)
  case atStart => exact ⟨0, rfl, by omega, World.ownsRow_nil _ _ _ _, Below.refl _ _, rfl⟩
  case round =>
    obtain ⟨k, rfl, hk, hown, hbw, hchk⟩ := hrel
    obtain ⟨wo, hwo⟩ : ∃ wo, wo = wr := ⟨_, rfl⟩
    subst hwo
    by_cases hlt : k < L.length
    · have hx : L[k]? = some L[k] := List.getElem?_eq_getElem hlt
      have hxm := List.mem_of_getElem? hx
      generalize L[k] = s at *
      obtain ⟨b, o, rfl, hB, hc0, hups⟩ := HL.out.1.at_ hx
      have hc0 := (hbw.cell (p := ⟨b, o + k, none⟩) hB).trans hc0
      have hxl : (L.map Rw.l)[k]? = some s.l := by rw [List.getElem?_map, hx]; rfl
      have hsn : s.l.length ≤ 1099511627776 := by have := flatR_len hx (Nat.le_refl _); omega
      have hcall := Lib.hid (dcheck_any s.A s.c s.l wo ((hups.past hbw (Nat.le_refl _)).wide hbw.size) (by omega) (HL.out.2 s hxm))
      have hnx := chkLs_take hxl hchk
      have hbad := fun h => chkLs_bad hxl hchk h
      have HO := Lib.hid (And.intro hown (And.intro hbw (And.intro hx (And.intro hxm (And.intro hups (And.intro hnx hbad))))))
      have q0 : (0 : Int) ≤ (k : Int) := by omega
      have q1 : (k : Int) < (L.length : Int) := by omega
      have q2 : decide ((k : Int) < (L.length : Int)) = true := decide_eq_true q1
      obtain ⟨K, hK⟩ : ∃ K, chkUs s.l = K := ⟨_, rfl⟩
      obtain ⟨KA, hKA⟩ : ∃ KA, s.A = KA := ⟨_, rfl⟩
      rw [hK, hKA] at hcall
      rw [hKA] at hc0
      have HKA := Lib.hid hKA
      have HK := Lib.hid hK
      clear hown hbw hchk hx hxm hups hxl hnx hbad hK hKA
      go_wp2_with fail
      refine hcall.out.mono ?_
      rintro _ w1 ⟨rfl, b1⟩
      have H1 := Lib.hid (And.intro (HO.out.2.1.trans (b1.mono HO.out.2.1.size)) (own_below HO.out.1 b1))
      clear b1 hcall hc0
      by_cases hK0 : K = 0
      case neg =>
        have t1 : (K != 0) = true := bne_iff_ne.2 hK0
        have hb := HO.out.2.2.2.2.2.2 (by rw [HK.out]; exact hK0)
        have hcl : consL (L.map Rw.l) = [] := by unfold consL; rw [if_neg (by rw [hb, HK.out]; exact hK0)]
        have hce : consE (L.map Rw.l) = K := by unfold consE; rw [if_neg (by rw [hb, HK.out]; exact hK0), hb, HK.out]
        have HR := Lib.hid (And.intro hcl hce)
        clear hK0 hb hcl hce
        go_wp2_with fail
        go_ret2
        exact ⟨none, 0, [], by rw [HR.out.2]; rfl, HR.out.1.symm, ⟨Lies.nil_, fun u hu => (by cases hu)⟩, fun u hu => (by cases hu), H1.out.1, lo_nil _⟩
      subst hK0
      go_wp2_with fail
      go_loopw [4, 23] (fun v4 v23 wi => ∃ j : Nat, v23 = .int .i64 (j : Int) ∧ j ≤ s.l.length ∧ wi.ownsRow w.heap.size 145 8 v4 (flatR (L.take k) ++ s.l.take j).length ((linesOf (flatR (L.take k) ++ s.l.take j)).flatMap (Ln.cells Up.cells)) ∧ Below w.heap.size w wi)
        (fun _ v23 _ => s.l.length - (intOf v23).toNat)
      case atStart => exact ⟨0, rfl, by omega, by rw [List.take_zero, List.append_nil]; exact H1.out.2, H1.out.1⟩
      case round =>
        obtain ⟨j, rfl, hj, hownj, hbj⟩ := hrel
        obtain ⟨wi, hwi⟩ : ∃ wi, wi = wr := ⟨_, rfl⟩
        subst hwi
        by_cases hjt : j < s.l.length
        · have hy : s.l[j]? = some s.l[j] := List.getElem?_eq_getElem hjt
          have hym := List.mem_of_getElem? hy
          generalize s.l[j] = u at *
          have hys0 := HO.out.2.2.2.2.1.head
          rw [HKA.out] at hys0
          obtain ⟨b', o', rfl, hB', hys⟩ := lies_up hys0 (by omega)
          obtain ⟨e0, e1, e2, e3, e4, e5⟩ := ((hys j u hy).past_ hbj hB').six
          obtain ⟨V, hV, hvb, hvs, hvo⟩ := upbox wi u
          have hin0 : UOk u := HL.out.2 s HO.out.2.2.2.1 u hym
          have hlen : (flatR (L.take k)).length + j ≤ (flatR L).length := flatR_len HO.out.2.2.1 (by omega)
          have hlj : (flatR (L.take k) ++ s.l.take j).length = (flatR (L.take k)).length + j := by rw [List.length_append, List.length_take]; omega
          have hln : (flatR (L.take k) ++ s.l.take j).length ≤ 1099511627776 := by omega
          have hof := fun W => Lib.hid (of_any u.d W hin0.dn.1 hin0.dn.2)
          have hrowV := own_below hownj hvb
          have hPne : u4.ownBlock ≠ some wi.heap.size := fun e => by have := (hownj.lt _ e).2; omega
          have hbV := hbj.trans (hvb.mono hbj.size)
          have htk : s.l.take (j + 1) = s.l.take j ++ [u] := by rw [List.take_add_one, hy]; rfl
          have HJ := Lib.hid (And.intro htk (And.intro hbV (And.intro hlen hlj)))
          have q3 : (0 : Int) ≤ (j : Int) := by omega
          have q4 : (j : Int) < (s.l.length : Int) := by omega
          have q5 : decide ((j : Int) < (s.l.length : Int)) = true := decide_eq_true q4
          generalize hflat : flatR (L.take k) ++ s.l.take j = us at *
          have HF := Lib.hid hflat
          clear hy hym hys hys0 hvb hvs hin0 hlen hlj hownj hbj hbV htk hflat
          go_upto_region 11 with fail
          rw [← hV]
          clear hV e0 e1 e2 e3 e4 e5
          obtain ⟨e0, e1, e2, e3, e4, e5⟩ := own6 hvo
          have HS := Lib.hid (fun W (h : Own W wi.heap.size 57 u.cells) => (own6 h : W.cell? ⟨wi.heap.size, 0, none⟩ = some (.slice u.kA u.key.length u.kc) ∧ W.cell? ⟨wi.heap.size, 1, none⟩ = some (.slice u.rA u.row.length u.rc) ∧ W.cell? ⟨wi.heap.size, 2, none⟩ = some (.int .u64 (u.t.e : Int)) ∧ W.cell? ⟨wi.heap.size, 3, none⟩ = some (.int .u64 (u.t.a : Int)) ∧ W.cell? ⟨wi.heap.size, 4, none⟩ = some (.int .u64 (u.t.b : Int)) ∧ W.cell? ⟨wi.heap.size, 5, none⟩ = some (.int .i64 u.d)))
          go_region_held3 (fun w' => Own w' wi.heap.size 57 u.cells ∧ (w'.cell? ⟨wi.heap.size, 0, none⟩ = some (.slice u.kA u.key.length u.kc) ∧ w'.cell? ⟨wi.heap.size, 1, none⟩ = some (.slice u.rA u.row.length u.rc) ∧ w'.cell? ⟨wi.heap.size, 2, none⟩ = some (.int .u64 (u.t.e : Int)) ∧ w'.cell? ⟨wi.heap.size, 3, none⟩ = some (.int .u64 (u.t.a : Int)) ∧ w'.cell? ⟨wi.heap.size, 4, none⟩ = some (.int .u64 (u.t.b : Int)) ∧ w'.cell? ⟨wi.heap.size, 5, none⟩ = some (.int .i64 u.d)))
            ((refine (fun h => And.intro h (HS.out _ h)) ?_; repeat (first | with_reducible exact ho9 | with_reducible exact ho8 | with_reducible exact hvo | with_reducible refine Own.more ?_ _ | with_reducible refine own_drew' ?_)))
            (first | (go_at_call 37; refine (hof _).out.mono ?_; rintro _ w2 ⟨rfl, b2⟩; have ho8 : Own w2 wi.heap.size 57 u.cells := (own_drew' hvo).past b2 hvo.inside; have hrow2 := own_below hrowV.drew b2; have hb8 := (HJ.out.2.1.drew).trans (b2.mono (HJ.out.2.1.drew).size)) | (refine step_append_lies (size := 8) (cells := Ln.cells Up.cells) (l := [(⟨u.d, u⟩ : Ln Up)]) (B := w2.heap.size + 1) _ rfl (.tmp 27) (.tmp 33) 143 145 rfl i0 _ 96 HI.out.1 HI.out.2.1 HI.out.2.2.1 HI.out.2.2.2.1 HI.out.2.2.2.2 rfl (by decide) (fun _ => rfl) lucells_one w.heap.size u4 us.length _ rfl (hrow2.alloc _) 1 w2.heap.size 0 (by simp [Act.eval, Act.put]) (ln_made _ _) (by unfold maxLen; simp; omega) (by simp; omega) (by simp; exact Nat.le_succ_of_le hb8.size) ?_; intro v3 w3 ho3 hb3 hv3 hg3; have ho9 : Own w3 wi.heap.size 57 u.cells := (hg3.block _ (by have := ho8.inside; simp; omega) (fun e => hPne e.symm)).trans (ho8.more _)))
          all_goals
            have H3 := Lib.hid (And.intro ho3 ((Below.alloc hb8 hb8.size _).trans hb3))
            clear ho3 hb3 hv3 hg3 ho9 ho8 hb8 hrow2 hrowV hPne HS hvo b2 hof e0 e1 e2 e3 e4 e5
            go_wp2_with fail
            go_roundw
            case rel =>
              refine ⟨j + 1, by go_num, by omega, ?_, H3.out.2⟩
              rw [HJ.out.1, ← List.append_assoc, HF.out, linesOf_snoc, List.flatMap_append, List.length_append]
              exact H3.out.1
            case measure => simp [intOf]; omega
        · have hj2 : j = s.l.length := by omega
          have q5 : decide ((j : Int) < (s.l.length : Int)) = false := decide_eq_false (by omega)
          rw [hj2, List.take_length] at hownj
          have HJ := Lib.hid (And.intro hownj hbj)
          clear hownj hbj hj2
          go_wp2_with fail
          go_roundw
          case rel =>
            refine ⟨k + 1, by go_num, by omega, ?_, HJ.out.2, by rw [HO.out.2.2.2.2.2.1, HK.out]⟩
            rw [flatR_take HO.out.2.2.1]
            exact HJ.out.1
          case measure => simp [intOf]; omega
    · have hk2 : k = L.length := by omega
      have q2 : decide ((k : Int) < (L.length : Int)) = false := decide_eq_false (by omega)
      rw [hk2, List.take_length] at hown
      rw [hk2, List.take_of_length_le (by rw [List.length_map]; exact Nat.le_refl _)] at hchk
      have hgood : ∀ u ∈ flatR L, chkU u = 0 ∧ UOk u ∧ UIn w w.heap.size u := fun u hu => by
        obtain ⟨s, hs, hus⟩ := List.mem_flatMap.1 hu
        exact ⟨chkUs_all.1 (chkLs_all.1 hchk s.l (List.mem_map_of_mem hs)) u hus, HL.out.2 s hs u hus, (HL.out.1.each_ s hs).each_ u hus⟩
      have hmem : ∀ x ∈ linesOf (flatR L), x.u ∈ flatR L ∧ x.S = x.u.d := fun x hx => by
        unfold linesOf at hx
        obtain ⟨u, hu, rfl⟩ := List.mem_map.1 hx
        exact ⟨hu, rfl⟩
      have hcall := (totalU_any u4 (flatR L).length w.heap.size (linesOf (flatR L)) wo (linesOf_len _).symm hown hbw.size (fun x hx => (hgood x.u (hmem x hx).1).2.2.past hbw (Nat.le_refl _)) (fun x hx => (hgood x.u (hmem x hx).1).2.1) (fun x hx => (hgood x.u (hmem x hx).1).1)
        (fun x hx => by rw [(hmem x hx).2]; exact (hgood x.u (hmem x hx).1).2.1.dn) hn)
      rw [linesOf_pL, flatR_flat] at hcall
      obtain ⟨E, hE⟩ : ∃ E, resE Uk.cmp ((L.map Rw.l).flatten.map Up.p) = E := ⟨_, rfl⟩
      obtain ⟨RL, hRL⟩ : ∃ RL, resL Uk.cmp ((L.map Rw.l).flatten.map Up.p) = RL := ⟨_, rfl⟩
      have hcall : Hid (Calls Tryz.prog 75 #[u4, .func (.func 76) #[] #[], .func (.func 77) #[] #[]] wo fun x w' => ∃ A c, ∃ outL : List Up, x = .returned (.tuple #[.slice A outL.length c, .int .i64 E]) ∧ outL.map Up.p = RL ∧ Ups w' w'.heap.size A outL ∧ (∀ u ∈ outL, UOk u) ∧ Below w.heap.size wo w' ∧ Lo w.heap.size A outL) := by
        unfold TotSays at hcall
        rw [hE, hRL] at hcall
        exact Lib.hid hcall
      have hcl : consL (L.map Rw.l) = RL := by unfold consL; rw [if_pos hchk, hRL]
      have hce : consE (L.map Rw.l) = E := by unfold consE; rw [if_pos hchk, hE]
      have HC := Lib.hid (And.intro hcl (And.intro hce hbw))
      clear hown hchk hgood hmem hcl hce hbw hE hRL
      go_wp2_with fail
      refine hcall.out.mono ?_
      rintro _ w9 ⟨A', c', outL, rfl, k1, k2, k3, k4⟩
      have H9 := Lib.hid (And.intro k1 (And.intro k2 (And.intro k3 k4)))
      clear k1 k2 k3 k4 hcall
      go_wp2_with fail
      go_ret2
      exact ⟨A', c', outL, by rw [HC.out.2.1]; rfl, by rw [HC.out.1]; exact H9.out.1, H9.out.2.1, H9.out.2.2.1, HC.out.2.2.trans H9.out.2.2.2.1, H9.out.2.2.2.2⟩
end Go.Proofs.YtenjlhlighkenaaGreat
