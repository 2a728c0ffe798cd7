/- What the laws on updates ask at fixed lists. -/
import Derived.Test.YtpfjeibhklacbaaDSame
namespace Go.Proofs.Ytpfjeibhklacbaa
open Go Go.RowKit

def vnum (n : Int) : Vl := ⟨false, n, ⟨#[]⟩⟩
theorem vals_num (w : World) (n : Int) : Vals (w.alloc (.cells #[.bool false, .int .i64 n, .string ⟨#[]⟩] 86)) (w.alloc (.cells #[.bool false, .int .i64 n, .string ⟨#[]⟩] 86)).heap.size (some ⟨w.heap.size, 0, none⟩) [vnum n] := fun _ => by
  have ho := Own.made w 86 [.bool false, .int .i64 n, .string ⟨#[]⟩]
  refine ⟨w.heap.size, 0, rfl, by simp, fun i x hx => ?_⟩
  match i, hx with
  | 0, hx =>
    obtain rfl : vnum n = x := by simpa using hx
    exact ⟨ho.at_ 0, ho.at_ 1, ho.at_ 2⟩
set_option maxRecDepth 100000 in
set_option maxHeartbeats 1600000 in
theorem row_any (n : Int) (w : World) : Calls Try.prog 30 #[.int .i64 n] w fun x w' => ∃ G, x = .returned (.slice (some ⟨G, 0, none⟩) 1 1) ∧ Vals w' w'.heap.size (some ⟨G, 0, none⟩) [vnum n] ∧ Below w.heap.size w w' := by
  have hv := Lib.hid (vals_num w n)
  go_enter Try.func30, Try.ntmps30
  go_wp2_with fail
  go_ret
  exact ⟨_, rfl, hv.out, (Below.refl _ _).alloc (Nat.le_refl _) _⟩
def lu (G : Nat) (n d : Int) (e : Nat) : Up := ⟨none, 0, [], some ⟨G, 0, none⟩, 1, [vnum n], ⟨e, 0, 0⟩, d⟩
theorem lu_in {w : World} {G : Nat} {n d : Int} {e : Nat} (h : Vals w w.heap.size (some ⟨G, 0, none⟩) [vnum n]) : UIn w w.heap.size (lu G n d e) := ⟨Vals.nil_, h⟩
theorem lu_ok {G : Nat} {n d : Int} {e : Nat} (hn : -9223372036854775808 ≤ n ∧ n ≤ 9223372036854775807) (hd : -9223372036854775808 ≤ d ∧ d ≤ 9223372036854775807) : UOk (lu G n d e) :=
  ⟨Nat.zero_le _, by show 1 ≤ 140737488351232; omega, fun v hv => (by cases hv), fun v hv => by
    obtain rfl : v = vnum n := by simpa [lu] using hv
    exact ⟨Nat.zero_le _, hn⟩, hd⟩
theorem ups_own {w : World} {G : Nat} {t : TypeId} {l : List Up} (h : Own w G t (l.flatMap Up.cells)) (hin : ∀ u ∈ l, UIn w w.heap.size u) : Ups w w.heap.size (some ⟨G, 0, none⟩) l :=
  ⟨fun _ => ⟨G, 0, rfl, h.inside, fun i x hi j u hj => by rw [show 0 + i * 6 + j = i * 6 + j by omega, h.at_]; exact flat_of (size := 6) (cells := Up.cells) (fun _ => rfl) l i j x u hi hj⟩, hin⟩
theorem rw_own {α : Type} {w : World} {G : Nat} {t : TypeId} {l : List (Rw α)} (h : Own w G t (l.flatMap Rw.cells)) : Lies 1 Rw.cells w w.heap.size (some ⟨G, 0, none⟩) l :=
  fun _ => ⟨G, 0, rfl, h.inside, fun i x hi j u hj => by rw [show 0 + i * 1 + j = i * 1 + j by omega, h.at_]; exact flat_of (size := 1) (cells := Rw.cells) (fun _ => rfl) l i j x u hi hj⟩
theorem boxd (w : World) (l : List Value) (t : TypeId) : ∃ W, W = w.alloc (.cells l.toArray t) ∧ W.heap.size = w.heap.size + 1 ∧ Below w.heap.size w W ∧ Own W w.heap.size t l :=
  ⟨_, rfl, by simp, (Below.refl _ _).alloc (Nat.le_refl _) _, Own.made w t l⟩
/-- two updates in a row of their own -/
theorem box_two (w : World) (G1 G2 : Nat) (n1 n2 d1 d2 : Int) (e : Nat) (ei : Int) (he : (e : Int) = ei) (h1 : Vals w w.heap.size (some ⟨G1, 0, none⟩) [vnum n1]) (h2 : Vals w w.heap.size (some ⟨G2, 0, none⟩) [vnum n2]) :
    ∃ V, V = w.alloc (.cells #[.slice none 0 0, .slice (some ⟨G1, 0, none⟩) 1 1, .int .u64 0, .int .u64 0, .int .u64 0, .int .i64 d1, .slice none 0 0, .slice (some ⟨G2, 0, none⟩) 1 1, .int .u64 ei, .int .u64 0, .int .u64 0, .int .i64 d2] 38) ∧ Below w.heap.size w V ∧ Ups V V.heap.size (some ⟨w.heap.size, 0, none⟩) [lu G1 n1 d1 0, lu G2 n2 d2 e] := by
  subst he
  obtain ⟨W, e1, s1, b1, o1⟩ := boxd w [.slice none 0 0, .slice (some ⟨G1, 0, none⟩) 1 1, .int .u64 0, .int .u64 0, .int .u64 0, .int .i64 d1, .slice none 0 0, .slice (some ⟨G2, 0, none⟩) 1 1, .int .u64 (e : Int), .int .u64 0, .int .u64 0, .int .i64 d2] 38
  refine ⟨W, e1, b1, ups_own (t := 38) (l := [lu G1 n1 d1 0, lu G2 n2 d2 e]) o1 fun u hu => ?_⟩
  rcases List.mem_cons.1 hu with rfl | hu
  · exact lu_in (vals_keep h1 b1)
  · obtain rfl : u = lu G2 n2 d2 e := by simpa using hu
    exact lu_in (vals_keep h2 b1)
theorem box_lists (w : World) (A1 G3 : Nat) (l1 : List Up) (hl : l1.length = 2) (n3 d3 : Int) (h1 : Ups w w.heap.size (some ⟨A1, 0, none⟩) l1) (h3 : Vals w w.heap.size (some ⟨G3, 0, none⟩) [vnum n3]) :
    ∃ V, V = (w.alloc (.cells #[.slice none 0 0, .slice (some ⟨G3, 0, none⟩) 1 1, .int .u64 0, .int .u64 0, .int .u64 0, .int .i64 d3] 38)).alloc (.cells #[.slice (some ⟨A1, 0, none⟩) 2 2, .slice (some ⟨w.heap.size, 0, none⟩) 1 1] 23) ∧ Below w.heap.size w V ∧
      ULs V V.heap.size (some ⟨w.heap.size + 1, 0, none⟩) [⟨some ⟨A1, 0, none⟩, 2, l1⟩, ⟨some ⟨w.heap.size, 0, none⟩, 1, [lu G3 n3 d3 0]⟩] := by
  obtain ⟨W1, e1, s1, b1, o1⟩ := boxd w [.slice none 0 0, .slice (some ⟨G3, 0, none⟩) 1 1, .int .u64 0, .int .u64 0, .int .u64 0, .int .i64 d3] 38
  obtain ⟨W2, e2, s2, b2, o2⟩ := boxd W1 [.slice (some ⟨A1, 0, none⟩) 2 2, .slice (some ⟨w.heap.size, 0, none⟩) 1 1] 23
  rw [s1] at o2
  have hu3 : Ups W1 W1.heap.size (some ⟨w.heap.size, 0, none⟩) [lu G3 n3 d3 0] := ups_own (t := 38) (l := [lu G3 n3 d3 0]) o1 fun u hu => by
    obtain rfl : u = lu G3 n3 d3 0 := by simpa using hu
    exact lu_in (vals_keep h3 b1)
  refine ⟨W2, by rw [e2, e1], belows b1 b2, rw_own (t := 23) (by simp only [List.flatMap_cons, List.flatMap_nil, Rw.cells, hl]; exact o2), fun s hs => ?_⟩
  rcases List.mem_cons.1 hs with rfl | hs
  · exact (h1.keep b1).keep b2
  · obtain rfl : s = ⟨some ⟨w.heap.size, 0, none⟩, 1, [lu G3 n3 d3 0]⟩ := by simpa using hs
    exact hu3.keep b2
theorem cons0 (G1 G2 G3 : Nat) : consL [[lu G1 2 2 0, lu G2 1 1 0], [lu G3 2 (-2) 0]] = [((⟨[], [vnum 1], ⟨0, 0, 0⟩⟩ : Uk), (1 : Int))] ∧ consE [[lu G1 2 2 0, lu G2 1 1 0], [lu G3 2 (-2) 0]] = 0 := ⟨by kernel_rfl, by kernel_rfl⟩
theorem at0 (G1 G2 : Nat) : atL [lu G1 1 3 0, lu G2 1 4 2] ⟨1, 0, 0⟩ = [([vnum 1], (3 : Int))] ∧ atE [lu G1 1 3 0, lu G2 1 4 2] ⟨1, 0, 0⟩ = 0 := ⟨by kernel_rfl, by kernel_rfl⟩
theorem even0 {l : List Up} (h : l.map Up.p = [((⟨[], [vnum 1], ⟨0, 0, 0⟩⟩ : Uk), (1 : Int))]) : EvenP l := by
  have hl : l.length = 1 := by have := congrArg List.length h; simpa using this
  obtain ⟨u, rfl⟩ := List.length_eq_one_iff.1 hl
  · have hp : u.p = ((⟨[], [vnum 1], ⟨0, 0, 0⟩⟩ : Uk), (1 : Int)) := by simpa using h
    have hk : u.k = ⟨[], [vnum 1], ⟨0, 0, 0⟩⟩ := congrArg Prod.fst hp
    have hd : u.d = 1 := congrArg Prod.snd hp
    refine ⟨fun x hx => ?_, by unfold Srt; simp, ?_⟩
    · obtain rfl : x = u := by simpa using hx
      rw [hd]; decide
    · simp only [chkUs]
      unfold chkU
      rw [hk]
      exact if_pos (by kernel_rfl)
set_option maxRecDepth 100000 in
set_option maxHeartbeats 6400000 in
theorem lists_true (w : World) : Calls Try.prog 11 #[] w fun e w' => e = .returned (.bool true) ∧ Below w.heap.size w w' := by
  have y1 := fun W => Lib.hid (row_any 1 W)
  have y2 := fun W => Lib.hid (row_any 2 W)
  go_enter Try.func11, Try.ntmps11
  go_wp2_with fail
  refine (y2 _).out.mono ?_
  rintro _ w1 ⟨G1, rfl, v1, b1⟩
  have H1 := Lib.hid (And.intro b1 v1)
  clear b1 v1
  go_wp2_with fail
  refine (y1 _).out.mono ?_
  rintro _ w2 ⟨G2, rfl, v2, b2⟩
  obtain ⟨V2, hV2, hb2, hu2⟩ := box_two w2 G1 G2 2 1 2 1 0 0 rfl (vals_keep H1.out.2 b2) v2
  have H2 := Lib.hid (And.intro (belows H1.out.1 (belows b2 hb2)) hu2)
  clear b2 v2 hb2 hu2
  go_wp2_with fail
  rw [← hV2]
  clear hV2
  refine (y2 _).out.mono ?_
  rintro _ w3 ⟨G3, rfl, v3, b3⟩
  obtain ⟨V3, hV3, hb3, hu3⟩ := box_lists w3 w2.heap.size G3 [lu G1 2 2 0, lu G2 1 1 0] rfl 2 (-2) (H2.out.2.keep b3) v3
  have hcall := consolidate_any (some ⟨w3.heap.size + 1, 0, none⟩) 2 _ V3 hu3 (fun s hs u hu => by
    rcases List.mem_cons.1 hs with rfl | hs
    · rcases List.mem_cons.1 hu with rfl | hu
      · exact lu_ok (by decide) (by decide)
      · obtain rfl : u = lu G2 1 1 0 := by simpa using hu
        exact lu_ok (by decide) (by decide)
    · obtain rfl : s = ⟨some ⟨w3.heap.size, 0, none⟩, 1, [lu G3 2 (-2) 0]⟩ := by simpa using hs
      obtain rfl : u = lu G3 2 (-2) 0 := by simpa using hu
      exact lu_ok (by decide) (by decide)) (by simp [flatR]) (by simp)
  unfold UpsSays at hcall
  simp only [List.map_cons, List.map_nil] at hcall
  rw [(cons0 G1 G2 G3).1, (cons0 G1 G2 G3).2] at hcall
  have HC := Lib.hid hcall
  have H3 := Lib.hid (belows H2.out.1 (belows b3 hb3))
  clear b3 v3 hb3 hu3 hcall
  go_wp2_with fail
  rw [← hV3]
  clear hV3
  refine HC.out.mono ?_
  rintro _ w4 ⟨A4, k4, outL, rfl, hp4, hu4, ho4, b4⟩
  have hl4 : outL.length = 1 := by have := congrArg List.length hp4; simpa using this
  obtain ⟨u, rfl⟩ := List.length_eq_one_iff.1 hl4
  have hd : u.d = 1 := by have : u.p = ((⟨[], [vnum 1], ⟨0, 0, 0⟩⟩ : Uk), (1 : Int)) := by simpa using hp4
                          exact congrArg Prod.snd this
  have H4 := Lib.hid (And.intro (belows H3.out b4) (And.intro hu4 (And.intro (even0 hp4) (And.intro hd ho4))))
  clear b4 hp4 hu4 ho4 hl4 hd HC
  go_wp2_with fail
  refine (y1 _).out.mono ?_
  rintro _ w5 ⟨G5, rfl, v5, b5⟩
  have H5 := Lib.hid (And.intro (belows H4.out.1 b5) (And.intro (H4.out.2.1.keep b5) v5))
  clear b5 v5
  go_wp2_with fail
  refine (y1 _).out.mono ?_
  rintro _ w6 ⟨G6, rfl, v6, b6⟩
  obtain ⟨V6, hV6, hb6, hu6⟩ := box_two w6 G5 G6 1 1 3 4 2 2 rfl (vals_keep H5.out.2.2 b6) v6
  have hcall := at_any (some ⟨w6.heap.size, 0, none⟩) 2 [lu G5 1 3 0, lu G6 1 4 2] ⟨1, 0, 0⟩ V6 hu6 (fun u hu => by
      rcases List.mem_cons.1 hu with rfl | hu
      · exact lu_ok (by decide) (by decide)
      · obtain rfl : u = lu G6 1 4 2 := by simpa using hu
        exact lu_ok (by decide) (by decide)) (by simp)
  unfold CtsSays at hcall
  rw [(at0 G5 G6).1, (at0 G5 G6).2] at hcall
  have HC := Lib.hid hcall
  have H6 := Lib.hid (And.intro (belows H5.out.1 (belows b6 hb6)) ((H5.out.2.1.keep b6).keep hb6))
  clear b6 v6 hb6 hu6 hcall
  go_wp2_with fail
  rw [← hV6]
  clear hV6
  refine HC.out.mono ?_
  rintro _ w7 ⟨A7, k7, outC, rfl, hp7, hu7, _, b7⟩
  have hl7 : outC.length = 1 := by have := congrArg List.length hp7; simpa using this
  obtain ⟨ct, rfl⟩ := List.length_eq_one_iff.1 hl7
  have hd : ct.n = 3 := by have : ct.p = ([vnum 1], (3 : Int)) := by simpa using hp7
                           exact congrArg Prod.snd this
  have hU7 := H6.out.2.keep b7
  obtain ⟨b, o, rfl, hB, hc⟩ := lies_up hU7.head (by simp)
  have e5 := (hc 0 u rfl).six.2.2.2.2.2
  simp only [Nat.zero_mul, Nat.add_zero] at e5
  rw [H4.out.2.2.2.1] at e5
  have heven := Lib.hid (even_any (some ⟨b, o, none⟩) k4 [u] w7 hU7 H4.out.2.2.2.2 (by simp))
  have H7 := Lib.hid (And.intro (belows H6.out.1 b7) (And.intro hu7 hd))
  clear hp7 hu7 b7 hl7 hd hU7 hc
  go_wp2_with fail
  refine heven.out.mono ?_
  rintro _ w8 ⟨bb, rfl, hbb, b8⟩
  obtain rfl : bb = true := hbb.2 H4.out.2.2.1
  have hU8 := H7.out.2.1.keep b8
  obtain ⟨b', o', rfl, hB', hc'⟩ := lies_ct hU8.head (by simp)
  have f1 := (hc' 0 ct rfl).two.2
  simp only [Nat.zero_mul, Nat.add_zero] at f1
  rw [H7.out.2.2] at f1
  have H8 := Lib.hid (belows H7.out.1 b8)
  clear b8 hbb hU8 hc' e5 heven
  go_wp2_with fail
  go_ret
  exact ⟨rfl, H8.out⟩
end Go.Proofs.Ytpfjeibhklacbaa
namespace Go.Proofs.Ytpfjeibhklacbaa
open Go Go.RowKit

def Up.less (u : Up) : Up := { u with d := -u.d }
theorem less_k (u : Up) : u.less.k = u.k := rfl
def bothU (l : List Up) : List Up := l.flatMap fun u => if -9223372036854775807 < u.d then [u, u.less] else []
theorem both_next {l : List Up} {j : Nat} {u : Up} (h : l[j]? = some u) : bothU (l.take (j + 1)) = bothU (l.take j) ++ if -9223372036854775807 < u.d then [u, u.less] else [] := by
  unfold bothU
  rw [List.take_add_one, h, List.flatMap_append]
  simp
theorem both_len (l : List Up) : (bothU l).length ≤ 2 * l.length := by
  induction l with
  | nil => simp [bothU]
  | cons u l ih =>
    have : bothU (u :: l) = (if -9223372036854775807 < u.d then [u, u.less] else []) ++ bothU l := by unfold bothU; rw [List.flatMap_cons]
    rw [this, List.length_append, List.length_cons]
    have : (if -9223372036854775807 < u.d then [u, u.less] else []).length ≤ 2 := by split <;> simp
    omega
theorem both_sum (l : List Up) (k : Uk) : sumOf Uk.cmp ((bothU l).map Up.p) k = 0 := by
  induction l with
  | nil => simp [bothU, sumOf]
  | cons u l ih =>
    have : bothU (u :: l) = (if -9223372036854775807 < u.d then [u, u.less] else []) ++ bothU l := by unfold bothU; rw [List.flatMap_cons]
    rw [this, List.map_append, sumOf_append, ih]
    split
    · simp only [List.map_cons, List.map_nil]
      rw [show u.less.p = (u.k, -u.d) from rfl, show u.p = (u.k, u.d) from rfl]
      simp only [sumOf]
      split <;> omega
    · simp [sumOf]
theorem nz_none {K : Type} {cmp : K → K → Int} {R : K → Prop} (L : Lin cmp R) {l : List (K × Int)} (hR : ∀ x ∈ l, R x.1) (h : ∀ k, sumOf cmp l k = 0) : nz cmp l = [] :=
  List.eq_nil_iff_forall_not_mem.2 fun y hy => by
    obtain ⟨_, h2, h3⟩ := (nz_mem L hR y).1 hy
    exact h3 (h2.trans (h _))
theorem both_none (l : List Up) : consL [bothU l] = [] := by
  unfold consL
  split
  · rename_i hc
    have hc := chkLs_all.1 hc (bothU l) (by simp)
    unfold resL
    split
    · rw [List.flatten_cons, List.flatten_nil, List.append_nil]
      exact nz_none uk_lin (fun x hx => by
        obtain ⟨u, hu, rfl⟩ := List.mem_map.1 hx
        exact chkUs_all.1 hc u hu) (both_sum l)
    · rfl
  · rfl
theorem less_ok {u : Up} (h : UOk u) (hd : -9223372036854775807 < u.d) : UOk u.less := ⟨h.kn, h.rn, h.ks, h.rs, by show -9223372036854775808 ≤ -u.d ∧ -u.d ≤ 9223372036854775807; have := h.dn; omega⟩
theorem both_ok {l : List Up} (h : ∀ u ∈ l, UOk u) : ∀ u ∈ bothU l, UOk u := fun u hu => by
  obtain ⟨x, hx, hux⟩ := List.mem_flatMap.1 hu
  split at hux
  · rename_i hd
    rcases List.mem_cons.1 hux with rfl | hux
    · exact h _ hx
    · obtain rfl : u = x.less := by simpa using hux
      exact less_ok (h x hx) hd
  · cases hux
theorem both_in {w : World} {B : Nat} {l : List Up} (h : ∀ u ∈ l, UIn w B u) : ∀ u ∈ bothU l, UIn w B u := fun u hu => by
  obtain ⟨x, hx, hux⟩ := List.mem_flatMap.1 hu
  split at hux
  · rcases List.mem_cons.1 hux with rfl | hux
    · exact h _ hx
    · obtain rfl : u = x.less := by simpa using hux
      exact ⟨(h x hx).key, (h x hx).row⟩
  · cases hux
/-- two updates in a block of their own -/
theorem pair_up (w : World) (u v : Up) : Lies 6 Up.cells (w.alloc (.cells #[.slice u.kA u.key.length u.kc, .slice u.rA u.row.length u.rc, .int .u64 (u.t.e : Int), .int .u64 (u.t.a : Int), .int .u64 (u.t.b : Int), .int .i64 u.d, .slice v.kA v.key.length v.kc, .slice v.rA v.row.length v.rc, .int .u64 (v.t.e : Int), .int .u64 (v.t.a : Int), .int .u64 (v.t.b : Int), .int .i64 v.d] 38)) (w.heap.size + 1) (some ⟨w.heap.size, 0, none⟩) [u, v] := fun _ =>
  ⟨w.heap.size, 0, rfl, Nat.lt_succ_self _, fun i x hi j y hj => by
    rw [show 0 + i * 6 + j = i * 6 + j by omega]
    exact ((Own.made w 38 ([u, v].flatMap Up.cells)).at_ _).trans (flat_of (size := 6) (cells := Up.cells) (fun _ => rfl) [u, v] i j x y hi hj)⟩
theorem one_list (w : World) (A : Option Addr) (c : Nat) (l : List Up) (h : Ups w w.heap.size A l) : ∃ V, V = w.alloc (.cells #[.slice A l.length c] 23) ∧ Below w.heap.size w V ∧ ULs V V.heap.size (some ⟨w.heap.size, 0, none⟩) [⟨A, c, l⟩] := by
  obtain ⟨W, e1, s1, b1, o1⟩ := boxd w [.slice A l.length c] 23
  refine ⟨W, e1, b1, rw_own (t := 23) o1, fun s hs => ?_⟩
  obtain rfl : s = ⟨A, c, l⟩ := by simpa using hs
  exact h.keep b1
theorem two_lists (w : World) (A A' : Option Addr) (c c' : Nat) (l m : List Up) (h : Ups w w.heap.size A l) (h' : Ups w w.heap.size A' m) : ∃ V, V = w.alloc (.cells #[.slice A l.length c, .slice A' m.length c'] 23) ∧ Below w.heap.size w V ∧ ULs V V.heap.size (some ⟨w.heap.size, 0, none⟩) [⟨A, c, l⟩, ⟨A', c', m⟩] := by
  obtain ⟨W, e1, s1, b1, o1⟩ := boxd w [.slice A l.length c, .slice A' m.length c'] 23
  refine ⟨W, e1, b1, rw_own (t := 23) o1, fun s hs => ?_⟩
  rcases List.mem_cons.1 hs with rfl | hs
  · exact h.keep b1
  · obtain rfl : s = ⟨A', c', m⟩ := by simpa using hs
    exact h'.keep b1
end Go.Proofs.Ytpfjeibhklacbaa
