/- slices.SortFunc at structs, said of lists: the row is a permutation, in order; all else is as it was. -/
import Derived.Test.YtpfjeibhklacbaaDKeep
import Derived.Test.YtpfjeibhklacbaaSortU
import Derived.Test.YtpfjeibhklacbaaSortC
import Derived.Shelf.SlSortCmp.NoneTotal
import Derived.Test.YtpfjeibhklacbaaSmLine
namespace Go.Proofs.Ytpfjeibhklacbaa
open Go Go.RowKit Go.Sort Go.Lib Go.Shelf

section
variable {α : Type} [Inhabited α] {enc : α → List Value} {k : Nat} {w : World} {blk off m : Nat} {dk : Array α} {os : Array Obj}
theorem sortWorld_other {b : Nat} (hb : b ≠ blk) (hlt : b < w.heap.size) : (sortWorldK enc k w blk off m dk os).heap[b]? = w.heap[b]? := by
  unfold sortWorldK putRowK putRow mapBlock
  show (_ ++ os)[b]? = _
  rw [Array.getElem?_append_left (by simp [ahead]; omega), Array.getElem?_modify, if_neg (Ne.symm hb)]
  rfl
theorem sortWorld_below {B : Nat} (hB : B ≤ blk) (hlt : blk < w.heap.size) : RowKit.Below B w (sortWorldK enc k w blk off m dk os) := by
  refine ⟨rfl, rfl, rfl, size_sortWorldK_c enc k w blk off m dk os, fun b hb => sortWorld_other (by omega) (by omega)⟩
theorem list_get!_some {l : List α} {i : Nat} {t : α} (h : l[i]? = some t) : l.toArray[i]! = t := by
  obtain ⟨hi, h⟩ := List.getElem?_eq_some_iff.1 h
  rw [getElem!_pos _ i (by simpa using hi)]
  simpa using h
/-- what lies in a row and may be sorted there -/
def RowOf (enc : α → List Value) (k : Nat) (w : World) (g : Nat) (l : List α) : Prop :=
  ∀ (i : Nat) (x : α), l[i]? = some x → ∀ (j : Nat) (v : Value), (enc x)[j]? = some v → w.cell? ⟨g, i * k + j, none⟩ = some v ∧ w.frozen? ⟨g, i * k + j, none⟩ = false
theorem holds_row (hk : ∀ x, (enc x).length = k) (hpos : 0 < k) {g : Nat} {l : List α} (h : RowOf enc k w g l) : HoldsK enc k w g 0 l.toArray := by
  intro j hj
  rw [size_flatK] at hj
  rw [get_flatK _ _ _ _ hj]
  have hs : l.toArray.size = l.length := by simp
  rw [hs] at hj
  have hi : j / k < l.length := (Nat.div_lt_iff_lt_mul hpos).2 hj
  have hr : j % k < k := Nat.mod_lt _ hpos
  have hx : l[j / k]? = some l[j / k] := List.getElem?_eq_getElem hi
  have hc : j % k < (enc l[j / k]).length := by rw [hk]; exact hr
  have := h (j / k) _ hx (j % k) _ (List.getElem?_eq_getElem hc)
  rw [Nat.div_add_mod' j k] at this
  rw [Nat.zero_add, list_get!_some hx, getElem!_pos (enc l[j / k]) (j % k) hc]
  exact this
theorem row_holds (hk : ∀ x, (enc x).length = k) {g : Nat} {d : Array α} (h : HoldsK enc k w g 0 d) : RowOf enc k w g d.toList := by
  intro i x hx j v hv
  have hi : i < d.size := by have := (List.getElem?_eq_some_iff.1 hx).1; simpa using this
  have hj : j < k := by have := (List.getElem?_eq_some_iff.1 hv).1; rwa [hk] at this
  have hxi : d[i]! = x := by
    have := list_get!_some hx
    simpa using this
  obtain ⟨h1, h2⟩ := h.cell hi hj
  rw [Nat.zero_add] at h1 h2
  rw [hxi, getElem!_pos (enc x) j (by rw [hk]; exact hj)] at h1
  rw [List.getElem?_eq_getElem (by rw [hk]; exact hj)] at hv
  injection hv with hv
  exact ⟨by rw [h1, hv], h2⟩
theorem perm_all {n : Nat} {d d' : Array α} (hn : d.size = n) (h : PermIn 0 n d d') : d'.toList.Perm d.toList := by
  obtain ⟨h1, _, h3⟩ := h
  have e1 : d'.extract 0 n = d' := by rw [← hn, ← h1]; exact Array.extract_size
  have e2 : d.extract 0 n = d := by rw [← hn]; exact Array.extract_size
  rwa [e1, e2] at h3
theorem sorted_all {lt : α → α → Bool} {n : Nat} {d : Array α} (hn : d.size = n) (h : SortedIn lt 0 n d) : d.toList.Pairwise fun x y => lt y x = false := by
  rw [List.pairwise_iff_getElem]
  intro i j hi hj hij
  have := h i j (Nat.zero_le _) hij (by simpa [hn] using hj)
  rw [getElem!_pos d j (by simpa using hj), getElem!_pos d i (by simpa using hi)] at this
  simpa using this
end
theorem sort_gen {P : Program} {ρ : Ren} {α : Type} [Inhabited α] (L : SlLaysF0.n6 P ρ) (k : Nat) (aE : ∀ w, (isAgg (ρ.t 24)).run P w = .ok true w) (zE : ∀ w, (Go.sizeOf (ρ.t 24)).run P w = .ok k w) (enc : α → List Value) (hk : ∀ x, (enc x).length = k) (hpos : 0 < k) (h1 : ∀ x, ∀ v ∈ enc x, v.oneCell' = true)
    (cf : α → α → Int) (hO : SWO (ltOf cf)) (fn : Nat) (cb : Array Value) (g cap : Nat) (l : List α) (w : World) (eg : ∀ args w, (callFunc fn args).run P w = .ok (.enter fn args) w) (hcmp : CmpLays P fn cb enc k cf g 0 l.length w) (hrow : RowOf enc k w g l) (hg : g < w.heap.size) (hn : l.length < 4611686018427387904) :
    Calls P (ρ.f 6) #[.slice (some ⟨g, 0, none⟩) l.length cap, .func (.func fn) #[] cb] w fun e w' => e = .returned (.tuple #[]) ∧ ∃ l' : List α, l'.Perm l ∧ l'.Pairwise (fun x y => ¬ cf y x < 0) ∧ RowOf enc k w' g l' ∧ RowKit.Below g w w' ∧ ∀ b, b ≠ g → b < w.heap.size → w'.heap[b]? = w.heap[b]? := by
  have hcon := AnyQ.slices_SortFunc L k aE zE enc hk h1 cf hO fn cb g 0 cap l.toArray w eg (by simpa using hcmp) (holds_row hk hpos hrow) hg (by simpa using hn)
  simp only [List.size_toArray] at hcon
  refine hcon.mono ?_
  rintro e w' ⟨rfl, d', n, os, hp, hs, rfl⟩
  have hsz : d'.size = l.length := by have := hp.1; simpa using this
  refine ⟨rfl, d'.toList, ?_, ?_, ?_, sortWorld_below (Nat.le_refl _) hg, fun b hb hlt => sortWorld_other hb hlt⟩
  · have := perm_all (d := l.toArray) (by simp) hp
    simpa using this
  · exact (sorted_all hsz hs).imp fun h => by unfold ltOf at h; simpa using h
  · exact row_holds hk (holdsK_sortWorldK_c enc k w g 0 l.toArray d' n os (holds_row hk hpos hrow) hg (by simpa using hsz))
theorem swo_lin {K α : Type} {cmp : K → K → Int} {R : K → Prop} (L : Lin cmp R) (f : α → K) : SWO (ltOf fun x y : α => cmp (f x) (f y)) where
  irrefl x := by
    show decide (cmp (f x) (f x) < 0) = false
    rw [L.self]
    rfl
  trans x y z h k := by
    unfold ltOf at *
    simp only [decide_eq_true_eq] at *
    exact L.lt_trans h k
  ntrans x y z h k := by
    unfold ltOf at *
    simp only [decide_eq_false_iff_not] at *
    have s1 := L.swap (f x) (f y)
    have s2 := L.swap (f y) (f z)
    have s3 := L.swap (f x) (f z)
    have := (L.le (f z) (f y) (f x) (by omega) (by omega)).1
    omega
end Go.Proofs.Ytpfjeibhklacbaa
namespace Go.Proofs.Ytpfjeibhklacbaa
open Go Go.RowKit Go.Sort Go.Lib Go.Shelf

/-- an item, and the sum of what is told of it -/
structure Ln (I : Type) where
  S : Int
  u : I
def Ln.cells {I : Type} (c : I → List Value) (x : Ln I) : List Value := .int .u64 (hiW x.S) :: .int .u64 (loW x.S) :: c x.u
theorem lucells_len (x : Ln Up) : (Ln.cells Up.cells x).length = 8 := rfl
theorem lucells_one (x : Ln Up) : ∀ v ∈ Ln.cells Up.cells x, v.oneCell' = true := by
  intro v hv
  unfold Ln.cells at hv
  rcases List.mem_cons.1 hv with rfl | hv
  · rfl
  · rcases List.mem_cons.1 hv with rfl | hv
    · rfl
    · exact ucells_one x.u v hv
theorem lu_box (w : World) (x y : Ln Up) : ∃ W, W = (w.alloc (.cells #[.int .u64 (hiW x.S), .int .u64 (loW x.S), .slice x.u.kA x.u.key.length x.u.kc, .slice x.u.rA x.u.row.length x.u.rc, .int .u64 (x.u.t.e : Int), .int .u64 (x.u.t.a : Int), .int .u64 (x.u.t.b : Int), .int .i64 x.u.d] 54)).alloc (.cells #[.int .u64 (hiW y.S), .int .u64 (loW y.S), .slice y.u.kA y.u.key.length y.u.kc, .slice y.u.rA y.u.row.length y.u.rc, .int .u64 (y.u.t.e : Int), .int .u64 (y.u.t.a : Int), .int .u64 (y.u.t.b : Int), .int .i64 y.u.d] 54) ∧ Gr w W ∧ Own W w.heap.size 54 (Ln.cells Up.cells x) ∧ Own W (w.heap.size + 1) 54 (Ln.cells Up.cells y) := by
  refine ⟨_, rfl, Gr.two w _ _, (Own.made w 54 (Ln.cells Up.cells x)).more _, ?_⟩
  have := Own.made (w.alloc (.cells #[.int .u64 (hiW x.S), .int .u64 (loW x.S), .slice x.u.kA x.u.key.length x.u.kc, .slice x.u.rA x.u.row.length x.u.rc, .int .u64 (x.u.t.e : Int), .int .u64 (x.u.t.a : Int), .int .u64 (x.u.t.b : Int), .int .i64 x.u.d] 54)) 54 (Ln.cells Up.cells y)
  rw [show (w.alloc (.cells #[.int .u64 (hiW x.S), .int .u64 (loW x.S), .slice x.u.kA x.u.key.length x.u.kc, .slice x.u.rA x.u.row.length x.u.rc, .int .u64 (x.u.t.e : Int), .int .u64 (x.u.t.a : Int), .int .u64 (x.u.t.b : Int), .int .i64 x.u.d] 54)).heap.size = w.heap.size + 1 by simp] at this
  exact this
theorem own8l {w : World} {P : Nat} {t : TypeId} {a0 a1 a2 a3 a4 a5 a6 a7 : Value} (h : Own w P t [a0, a1, a2, a3, a4, a5, a6, a7]) :
    w.cell? ⟨P, 2, none⟩ = some a2 ∧ w.cell? ⟨P, 3, none⟩ = some a3 ∧ w.cell? ⟨P, 4, none⟩ = some a4 ∧ w.cell? ⟨P, 5, none⟩ = some a5 ∧ w.cell? ⟨P, 6, none⟩ = some a6 ∧ w.cell? ⟨P, 7, none⟩ = some a7 :=
  ⟨h.at_ 2, h.at_ 3, h.at_ 4, h.at_ 5, h.at_ 6, h.at_ 7⟩
set_option maxRecDepth 100000 in
set_option maxHeartbeats 3200000 in
theorem closU_gr (x y : Ln Up) (bx : Nat) (w : World) (hbx : w.cell? ⟨bx, 0, none⟩ = some (.func (.func 17) #[] #[])) (hx : UIn w w.heap.size x.u) (hy : UIn w w.heap.size y.u) (ox : UOk x.u) (oy : UOk y.u) :
    Calls Try.prog 46 #[.agg #[.int .u64 (hiW x.S), .int .u64 (loW x.S), .slice x.u.kA x.u.key.length x.u.kc, .slice x.u.rA x.u.row.length x.u.rc, .int .u64 (x.u.t.e : Int), .int .u64 (x.u.t.a : Int), .int .u64 (x.u.t.b : Int), .int .i64 x.u.d], .agg #[.int .u64 (hiW y.S), .int .u64 (loW y.S), .slice y.u.kA y.u.key.length y.u.kc, .slice y.u.rA y.u.row.length y.u.rc, .int .u64 (y.u.t.e : Int), .int .u64 (y.u.t.a : Int), .int .u64 (y.u.t.b : Int), .int .i64 y.u.d], .pointer (some ⟨bx, 0, none⟩)] w fun e w' => e = .returned (.int .i64 (x.u.k.cmp y.u.k)) ∧ Gr w w' := by
  obtain ⟨W, hW, hg, o1, o2⟩ := lu_box w x y
  have hb := hg.below
  have hbW : W.cell? ⟨bx, 0, none⟩ = some (.func (.func 17) #[] #[]) := (hb.cell (p := ⟨bx, 0, none⟩) (World.block_lt_of_cell? w _ hbx)).trans hbx
  have hcall := Lib.hid (dcompare_gr x.u y.u W (hx.keep hb) (hy.keep hb) ox oy)
  obtain ⟨a0, a1, a2, a3, a4, a5⟩ := own8l o1
  obtain ⟨b0, b1, b2, b3, b4, b5⟩ := own8l o2
  have HG := Lib.hid hg
  rw [show x.u.val = .agg #[.slice x.u.kA x.u.key.length x.u.kc, .slice x.u.rA x.u.row.length x.u.rc, .int .u64 (x.u.t.e : Int), .int .u64 (x.u.t.a : Int), .int .u64 (x.u.t.b : Int), .int .i64 x.u.d] from rfl, show y.u.val = .agg #[.slice y.u.kA y.u.key.length y.u.kc, .slice y.u.rA y.u.row.length y.u.rc, .int .u64 (y.u.t.e : Int), .int .u64 (y.u.t.a : Int), .int .u64 (y.u.t.b : Int), .int .i64 y.u.d] from rfl] at hcall
  generalize x.u.k.cmp y.u.k = r at *
  clear hg hb hx hy ox oy o1 o2 hbx
  go_enter Try.func46, Try.ntmps46
  go_upto_region 1 with fail
  rw [← hW]
  clear hW
  go_wp2_with fail
  refine hcall.out.mono ?_
  rintro _ w1 ⟨rfl, g1⟩
  have H1 := Lib.hid (HG.out.trans g1)
  clear g1
  go_wp2_with fail
  go_ret
  exact ⟨rfl, H1.out⟩
end Go.Proofs.Ytpfjeibhklacbaa
namespace Go.Proofs.Ytpfjeibhklacbaa
open Go Go.RowKit Go.Sort Go.Lib Go.Shelf

theorem cell_heap {w w' : World} {b j : Nat} (h : w'.heap[b]? = w.heap[b]?) : w'.cell? ⟨b, j, none⟩ = w.cell? ⟨b, j, none⟩ := by unfold World.cell?; rw [h]
theorem map_pick {α : Type} {p : α → Prop} : ∀ (l : List α) (h : ∀ x ∈ l, p x), ∃ m : List {x : α // p x}, m.map (·.1) = l
  | [], _ => ⟨[], rfl⟩
  | x :: l, h => by
    obtain ⟨m, hm⟩ := map_pick l fun y hy => h y (by simp [hy])
    exact ⟨⟨x, h x (by simp)⟩ :: m, by rw [List.map_cons, hm]⟩
set_option maxRecDepth 100000 in
set_option maxHeartbeats 3200000 in
theorem sortU_any (bx g cap : Nat) (l : List (Ln Up)) (w : World) (hrow : RowOf (Ln.cells Up.cells) 8 w g l) (hg : g < w.heap.size) (hbx : w.cell? ⟨bx, 0, none⟩ = some (.func (.func 17) #[] #[])) (hne : bx ≠ g) (hin : ∀ x ∈ l, UIn w g x.u) (hok : ∀ x ∈ l, UOk x.u) (hpos : 0 < l.length) (hn : l.length < 4611686018427387904) :
    Calls Try.prog 45 #[.slice (some ⟨g, 0, none⟩) l.length cap, .func (.func 46) #[] #[.pointer (some ⟨bx, 0, none⟩)]] w fun e w' => e = .returned (.tuple #[]) ∧ ∃ l' : List (Ln Up), l'.Perm l ∧ l'.Pairwise (fun x y => x.u.k.cmp y.u.k ≤ 0) ∧ RowOf (Ln.cells Up.cells) 8 w' g l' ∧ RowKit.Below g w w' ∧ ∀ b, b ≠ g → b < w.heap.size → w'.heap[b]? = w.heap[b]? := by
  obtain ⟨m, rfl⟩ := map_pick (p := fun x : Ln Up => UIn w g x.u ∧ UOk x.u) l fun x hx => ⟨hin x hx, hok x hx⟩
  have eg : ∀ args w, (callFunc 46 args).run Try.prog w = .ok (.enter 46 args) w := enters_of Try.func46 (by kernel_rfl) rfl
  have hlen : (m.map (·.1)).length = m.length := List.length_map ..
  letI : Inhabited {x : Ln Up // UIn w g x.u ∧ UOk x.u} := ⟨m[0]'(by rw [hlen] at hpos; exact hpos)⟩
  have hbl := World.block_lt_of_cell? w _ hbx
  have hcon := sort_gen (α := {x : Ln Up // UIn w g x.u ∧ UOk x.u}) Try.sortU 8 Try.isAgg54 Try.sizeOf54 (fun x => Ln.cells Up.cells x.1) (fun _ => rfl) (by decide) (fun x => lucells_one x.1)
    (fun x y => x.1.u.k.cmp y.1.u.k) (swo_lin uk_lin fun x : {x : Ln Up // UIn w g x.u ∧ UOk x.u} => x.1.u.k) 46 #[.pointer (some ⟨bx, 0, none⟩)] g cap m w eg
    (fun mm os dk _ x y => by
      have hb := sortWorld_below (enc := fun x : {x : Ln Up // UIn w g x.u ∧ UOk x.u} => Ln.cells Up.cells x.1) (k := 8) (off := 0) (m := mm) (dk := dk) (os := os) (Nat.le_refl g) hg
      have hs := hb.size
      exact closU_gr x.1 y.1 bx _ ((cell_heap (sortWorld_other hne hbl)).trans hbx) ((x.2.1.past hb (Nat.le_refl _)).wide (by omega)) ((y.2.1.past hb (Nat.le_refl _)).wide (by omega)) x.2.2 y.2.2)
    (fun i x hx j v hv => hrow i x.1 (by rw [List.getElem?_map, hx]; rfl) j v hv) hg (by rw [hlen] at hn; exact hn)
  change Calls Try.prog 45 _ _ _ at hcon
  rw [hlen]
  refine hcon.mono ?_
  rintro e w' ⟨rfl, l', hp, hs, hr, hb, ho⟩
  refine ⟨rfl, l'.map (·.1), hp.map _, ?_, fun i x hx j v hv => ?_, hb, ho⟩
  · rw [List.pairwise_map]
    exact hs.imp fun {a b} h => by
      have := uk_lin.swap a.1.u.k b.1.u.k
      omega
  · rw [List.getElem?_map] at hx
    obtain ⟨y, hy, rfl⟩ := Option.map_eq_some_iff.1 hx
    exact hr i y hy j v hv
end Go.Proofs.Ytpfjeibhklacbaa
namespace Go.Proofs.Ytpfjeibhklacbaa
open Go Go.RowKit

section
variable {I K : Type} {cmp : K → K → Int} {R : K → Prop} {f : I → K}
def pL (f : I → K) (x : Ln I) : K × Int := (f x.u, x.S)
/-- the sum of the lines from k to j -/
def gsum (s : List (Ln I)) (k j : Nat) : Int := (((s.drop k).take (j - k)).map (·.S)).sum
theorem gsum_one {s : List (Ln I)} {k : Nat} {x : Ln I} (hx : s[k]? = some x) : gsum s k (k + 1) = x.S := by
  unfold gsum
  obtain ⟨h, rfl⟩ := List.getElem?_eq_some_iff.1 hx
  rw [show k + 1 - k = 1 by omega, List.drop_eq_getElem_cons h, List.take_succ_cons, List.take_zero]
  simp only [List.map_cons, List.map_nil, List.sum_cons, List.sum_nil, Int.add_zero]
theorem gsum_next {s : List (Ln I)} {k j : Nat} {y : Ln I} (hk : k ≤ j) (hy : s[j]? = some y) : gsum s k (j + 1) = gsum s k j + y.S := by
  unfold gsum
  rw [show j + 1 - k = (j - k) + 1 by omega, List.take_add_one, List.getElem?_drop, show k + (j - k) = j by omega, hy]
  simp
theorem gsum_bound {s : List (Ln I)} (h : ∀ x ∈ s, -9223372036854775808 ≤ x.S ∧ x.S ≤ 9223372036854775807) (hn : s.length ≤ 1099511627776) (k j : Nat) :
    -170141183460469231731687303715884105728 ≤ gsum s k j ∧ gsum s k j < 170141183460469231731687303715884105728 := by
  have h1 := sum_bound (((s.drop k).take (j - k)).map (·.S)) fun n hn => by
    obtain ⟨x, hx, rfl⟩ := List.mem_map.1 hn
    exact h x (List.mem_of_mem_drop (List.mem_of_mem_take hx))
  have h2 : (((s.drop k).take (j - k)).map (·.S)).length ≤ s.length := by
    rw [List.length_map, List.length_take, List.length_drop]; omega
  unfold gsum
  generalize (((s.drop k).take (j - k)).map (·.S)).length = a at *
  omega
/-- all ahead of place k stand before all behind it -/
def Bound (cmp : K → K → Int) (f : I → K) (s : List (Ln I)) (k : Nat) : Prop := ∀ a ∈ s.take k, ∀ b ∈ s.drop k, cmp (f a.u) (f b.u) < 0
theorem split_at (s : List (Ln I)) {k j : Nat} (hk : k ≤ j) : s.take j = s.take k ++ (s.drop k).take (j - k) := by
  rw [← List.take_append_drop k (s.take j), List.take_take, Nat.min_eq_left hk, List.drop_take]
theorem mem_mid {s : List (Ln I)} {k j : Nat} {y : Ln I} (h : y ∈ (s.drop k).take (j - k)) : ∃ m, k ≤ m ∧ m < j ∧ s[m]? = some y := by
  obtain ⟨i, hi⟩ := List.getElem?_of_mem h
  have h1 := (List.getElem?_eq_some_iff.1 hi).1
  rw [List.length_take, List.length_drop] at h1
  rw [List.getElem?_take_of_lt (by omega), List.getElem?_drop] at hi
  exact ⟨k + i, by omega, by omega, hi⟩
theorem group_step (L : Lin cmp R) {s : List (Ln I)} (hs : s.Pairwise fun x y => cmp (f x.u) (f y.u) ≤ 0) {k j : Nat} (hk : k < j) (hj : j ≤ s.length) {x : Ln I} (hx : s[k]? = some x)
    (heq : ∀ m y, k ≤ m → m < j → s[m]? = some y → cmp (f x.u) (f y.u) = 0) (hmax : ∀ y, s[j]? = some y → cmp (f x.u) (f y.u) ≠ 0) (hb : Bound cmp f s k) :
    Bound cmp f s j ∧ asm cmp ((s.take j).map (pL f)) = asm cmp ((s.take k).map (pL f)) ++ [(f x.u, gsum s k j)] := by
  have hpw := fun i j' (hi : i < s.length) (hj' : j' < s.length) (h : i < j') => List.pairwise_iff_getElem.1 hs i j' hi hj' h
  have hxk : x ∈ s.drop k := by
    have : (s.drop k)[0]? = some x := by rw [List.getElem?_drop]; exact hx
    exact List.mem_of_getElem? this
  have hlate : ∀ b ∈ s.drop j, cmp (f x.u) (f b.u) < 0 := fun b hb' => by
    obtain ⟨i, hi⟩ := List.getElem?_of_mem hb'
    rw [List.getElem?_drop] at hi
    obtain ⟨hlt, hbe⟩ := List.getElem?_eq_some_iff.1 hi
    have hjl : j < s.length := by omega
    have hy : s[j]? = some s[j] := List.getElem?_eq_getElem hjl
    obtain ⟨hkl, hxe⟩ := List.getElem?_eq_some_iff.1 hx
    have h1 := hpw k j hkl hjl hk
    rw [hxe] at h1
    have h2 := hmax _ hy
    rcases Nat.eq_zero_or_pos i with rfl | hi0
    · have hbe' : s[j] = b := hbe
      rw [← hbe']; omega
    · have h3 := hpw j (j + i) hjl hlt (by omega)
      rw [hbe] at h3
      exact L.lt_le (by omega) h3
  have hmid : ∀ y ∈ (s.drop k).take (j - k), cmp (f x.u) (f y.u) = 0 := fun y hy => by
    obtain ⟨m, h1, h2, h3⟩ := mem_mid hy
    exact heq m y h1 h2 h3
  constructor
  · intro a ha b hb'
    rw [split_at s (Nat.le_of_lt hk)] at ha
    rcases List.mem_append.1 ha with ha | ha
    · exact L.lt_trans (hb a ha x hxk) (hlate b hb')
    · have h0 := hmid a ha
      have := L.swap (f x.u) (f a.u)
      exact L.le_lt (by omega) (hlate b hb')
  · rw [split_at s (Nat.le_of_lt hk), List.map_append, asm_append]
    · congr 1
      obtain ⟨hkl, hxe⟩ := List.getElem?_eq_some_iff.1 hx
      have hc : (s.drop k).take (j - k) = x :: ((s.drop (k + 1)).take (j - k - 1)) := by
        rw [List.drop_eq_getElem_cons hkl, hxe, show j - k = (j - k - 1) + 1 by omega, List.take_succ_cons]
        simp
      unfold gsum
      rw [hc] at hmid ⊢
      rw [List.map_cons, asm_group L (pL f x) _ fun y hy => ?_]
      · simp only [pL, List.map_map, List.map_cons, List.sum_cons]
        rfl
      · obtain ⟨z, hz, rfl⟩ := List.mem_map.1 hy
        exact hmid z (by simp [hz])
    · intro a ha b hb'
      obtain ⟨a', ha', rfl⟩ := List.mem_map.1 ha
      obtain ⟨b', hb'', rfl⟩ := List.mem_map.1 hb'
      exact hb a' ha' b' (List.mem_of_mem_take hb'')
theorem nz_step {t u : List (K × Int)} {k : K} {n : Int} (h : asm cmp u = asm cmp t ++ [(k, n)]) : nz cmp u = nz cmp t ++ if n = 0 then [] else [(k, n)] := by
  unfold nz
  rw [h, List.filter_append]
  congr 1
  by_cases hn : n = 0 <;> simp [hn]
theorem fit_step {t u : List (K × Int)} {k : K} {n : Int} (h : asm cmp u = asm cmp t ++ [(k, n)]) : (asm cmp u).all (fun x => fits x.2) = ((asm cmp t).all (fun x => fits x.2) && fits n) := by
  rw [h, List.all_append]
  simp
/-- one sum that does not fit is enough -/
theorem bad_step {s : List (Ln I)} {j : Nat} (hb : Bound cmp f s j) (h : (asm cmp ((s.take j).map (pL f))).all (fun x => fits x.2) = false) : (asm cmp (s.map (pL f))).all (fun x => fits x.2) = false := by
  have : s.map (pL f) = (s.take j).map (pL f) ++ (s.drop j).map (pL f) := by rw [← List.map_append, List.take_append_drop]
  rw [this, asm_append, List.all_append, h]
  · rfl
  · intro a ha b hb'
    obtain ⟨a', ha', rfl⟩ := List.mem_map.1 ha
    obtain ⟨b', hb'', rfl⟩ := List.mem_map.1 hb'
    exact hb a' ha' b' hb''
theorem res_perm (L : Lin cmp R) {s l : List (Ln I)} (hp : s.Perm l) (hR : ∀ x ∈ l, R (f x.u)) : resL cmp (s.map (pL f)) = resL cmp (l.map (pL f)) ∧ resE cmp (s.map (pL f)) = resE cmp (l.map (pL f)) :=
  resL_ext L (fun x hx => by
    obtain ⟨y, hy, rfl⟩ := List.mem_map.1 hx
    exact hR y (hp.mem_iff.1 hy)) (fun x hx => by
    obtain ⟨y, hy, rfl⟩ := List.mem_map.1 hx
    exact hR y hy) fun k => sumOf_perm (hp.map _) k
end
end Go.Proofs.Ytpfjeibhklacbaa
namespace Go.Proofs.Ytpfjeibhklacbaa
open Go Go.RowKit Go.Sort Go.Lib Go.Shelf

theorem sortU_all (v : Value) (n bx base : Nat) (l : List (Ln Up)) (w : World) (hnl : n = l.length) (h : w.ownsRow base 54 8 v n (l.flatMap (Ln.cells Up.cells))) (hbx : w.cell? ⟨bx, 0, none⟩ = some (.func (.func 17) #[] #[])) (hin : ∀ x ∈ l, UIn w base x.u) (hok : ∀ x ∈ l, UOk x.u) (hn : l.length < 4611686018427387904) :
    ∃ A c, v = .slice A n c ∧ Calls Try.prog 45 #[.slice A n c, .func (.func 46) #[] #[.pointer (some ⟨bx, 0, none⟩)]] w fun e w' => e = .returned (.tuple #[]) ∧ ∃ l' : List (Ln Up), l'.Perm l ∧ l'.Pairwise (fun x y => x.u.k.cmp y.u.k ≤ 0) ∧ Lies 8 (Ln.cells Up.cells) w' w'.heap.size A l' ∧ RowKit.Below base w w' ∧ w'.cell? ⟨bx, 0, none⟩ = some (.func (.func 17) #[] #[]) := by
  subst hnl
  by_cases h0 : l.length = 0
  · obtain rfl : l = [] := List.eq_nil_of_length_eq_zero h0
    have key : ∀ A c, Calls Try.prog 45 #[.slice A 0 c, .func (.func 46) #[] #[.pointer (some ⟨bx, 0, none⟩)]] w fun e w' => e = .returned (.tuple #[]) ∧ ∃ l' : List (Ln Up), l'.Perm [] ∧ l'.Pairwise (fun x y => x.u.k.cmp y.u.k ≤ 0) ∧ Lies 8 (Ln.cells Up.cells) w' w'.heap.size A l' ∧ RowKit.Below base w w' ∧ w'.cell? ⟨bx, 0, none⟩ = some (.func (.func 17) #[] #[]) := fun A c =>
      (AnyF.slices_SortFunc_none Try.sortU A c _ w).mono fun e w' ⟨he, hw⟩ => ⟨he, [], List.Perm.refl _, List.Pairwise.nil, Lies.nil_, hw ▸ RowKit.Below.refl _ _, hw ▸ hbx⟩
    rcases h.2 with ⟨rfl, _⟩ | ⟨g, cap, cur, rfl, _⟩
    · exact ⟨_, _, rfl, key _ _⟩
    · exact ⟨_, _, rfl, key _ _⟩
  · rcases h.2 with ⟨_, hz⟩ | ⟨g, cap, cur, rfl, hb, hheap, _⟩
    · exact absurd hz h0
    · have hg : g < w.heap.size := (Array.getElem?_eq_some_iff.1 hheap).1
      have hrow : RowOf (Ln.cells Up.cells) 8 w g l := fun i x hx j u hj => by
        have hf := flat_of (cells := Ln.cells Up.cells) (size := 8) (fun _ => rfl) l i j x u hx hj
        have hlt : i * 8 + j < l.length * 8 := by have := (List.getElem?_eq_some_iff.1 hf).1; rwa [flat_size (cells := Ln.cells Up.cells) (size := 8) (fun _ => rfl)] at this
        exact ⟨by rw [h.cellAt _ hlt]; exact hf, h.frozenAt _⟩
      have hne : bx ≠ g := fun e => by
        subst e
        have := (hrow 0 _ (List.getElem?_eq_getElem (show 0 < l.length by omega)) 0 _ rfl).1
        rw [show 0 * 8 + 0 = 0 by rfl, hbx] at this
        cases this
      refine ⟨_, _, rfl, (sortU_any bx g cap l w hrow hg hbx hne (fun x hx => (hin x hx).wide hb) hok (by omega) hn).mono ?_⟩
      rintro e w' ⟨he, l', hp, hs, hr, hbe, ho⟩
      refine ⟨he, l', hp, hs, fun _ => ⟨g, 0, rfl, Nat.lt_of_lt_of_le hg hbe.size, fun i x hx j u hj => ?_⟩, hbe.mono hb, (cell_heap (ho bx hne (World.block_lt_of_cell? w _ hbx))).trans hbx⟩
      rw [Nat.zero_add]
      exact (hr i x hx j u hj).1
end Go.Proofs.Ytpfjeibhklacbaa
