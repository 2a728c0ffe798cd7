/- Part 4 of the texts on which TopBoth rests: facts and contracts. -/
import Derived.Test.YtllpfngmnccejaaGreatTopBothM3
import Derived.BigQuiet
import Derived.Deep.RegionLaw
import Derived.StillTail
import Derived.Deep.Quiet
import Derived.Deep.QuietTactic
import Derived.Test.YtllpfngmnccejaaGreatShelf
import Derived.Outline
import Derived.WalkSpells
import Derived.WalkLawsBesides
import Derived.Deep.Onto
namespace Go.Proofs.YtllpfngmnccejaaGreat
open Go Go.RowKit

def vnum (n : Int) : Vl := ⟨false, n, ⟨#[]⟩⟩
theorem vals_num (w : World) (n : Int) : Vals (w.alloc (.cells #[.bool false, .int .i64 n, .string ⟨#[]⟩] 50)) (w.alloc (.cells #[.bool false, .int .i64 n, .string ⟨#[]⟩] 50)).heap.size (some ⟨w.heap.size, 0, none⟩) [vnum n] := fun _ => by
  have ho := Own.made w 50 [.bool false, .int .i64 n, .string ⟨#[]⟩]
  refine ⟨w.heap.size, 0, rfl, by simp, fun i x hx => ?_⟩
  match i, hx with
  | 0, hx =>
    obtain rfl : vnum n = x := by simpa using hx
    exact ⟨ho.at_ 0, ho.at_ 1, ho.at_ 2⟩
def lu (G : Nat) (n d : Int) (e : Nat) : Up := ⟨none, 0, [], some ⟨G, 0, none⟩, 1, [vnum n], ⟨e, 0, 0⟩, d⟩
theorem lu_in {w : World} {G : Nat} {n d : Int} {e : Nat} (h : Vals w w.heap.size (some ⟨G, 0, none⟩) [vnum n]) : UIn w w.heap.size (lu G n d e) := ⟨Vals.nil_, h⟩
theorem lu_ok {G : Nat} {n d : Int} {e : Nat} (hn : -9223372036854775808 ≤ n ∧ n ≤ 9223372036854775807) (hd : -9223372036854775808 ≤ d ∧ d ≤ 9223372036854775807) : UOk (lu G n d e) :=
  ⟨Nat.zero_le _, by show 1 ≤ 140737488351232; omega, fun v hv => (by cases hv), fun v hv => by
    obtain rfl : v = vnum n := by simpa [lu] using hv
    exact ⟨Nat.zero_le _, hn⟩, hd⟩
theorem ups_own {w : World} {G : Nat} {t : TypeId} {l : List Up} (h : Own w G t (l.flatMap Up.cells)) (hin : ∀ u ∈ l, UIn w w.heap.size u) : Ups w w.heap.size (some ⟨G, 0, none⟩) l :=
  ⟨fun _ => ⟨G, 0, rfl, h.inside, fun i x hi j u hj => by rw [show 0 + i * 6 + j = i * 6 + j by omega, h.at_]; exact flat_of (size := 6) (cells := Up.cells) (fun _ => rfl) l i j x u hi hj⟩, hin⟩
theorem rw_own {α : Type} {w : World} {G : Nat} {t : TypeId} {l : List (Rw α)} (h : Own w G t (l.flatMap Rw.cells)) : Lies 1 Rw.cells w w.heap.size (some ⟨G, 0, none⟩) l :=
  fun _ => ⟨G, 0, rfl, h.inside, fun i x hi j u hj => by rw [show 0 + i * 1 + j = i * 1 + j by omega, h.at_]; exact flat_of (size := 1) (cells := Rw.cells) (fun _ => rfl) l i j x u hi hj⟩
theorem boxd (w : World) (l : List Value) (t : TypeId) : ∃ W, W = w.alloc (.cells l.toArray t) ∧ W.heap.size = w.heap.size + 1 ∧ Below w.heap.size w W ∧ Own W w.heap.size t l :=
  ⟨_, rfl, by simp, (Below.refl _ _).alloc (Nat.le_refl _) _, Own.made w t l⟩
/-- two updates in a row of their own -/
theorem box_two (w : World) (G1 G2 : Nat) (n1 n2 d1 d2 : Int) (e : Nat) (ei : Int) (he : (e : Int) = ei) (h1 : Vals w w.heap.size (some ⟨G1, 0, none⟩) [vnum n1]) (h2 : Vals w w.heap.size (some ⟨G2, 0, none⟩) [vnum n2]) :
    ∃ V, V = w.alloc (.cells #[.slice none 0 0, .slice (some ⟨G1, 0, none⟩) 1 1, .int .u64 0, .int .u64 0, .int .u64 0, .int .i64 d1, .slice none 0 0, .slice (some ⟨G2, 0, none⟩) 1 1, .int .u64 ei, .int .u64 0, .int .u64 0, .int .i64 d2] 48) ∧ Below w.heap.size w V ∧ Ups V V.heap.size (some ⟨w.heap.size, 0, none⟩) [lu G1 n1 d1 0, lu G2 n2 d2 e] := by
  subst he
  obtain ⟨W, e1, s1, b1, o1⟩ := boxd w [.slice none 0 0, .slice (some ⟨G1, 0, none⟩) 1 1, .int .u64 0, .int .u64 0, .int .u64 0, .int .i64 d1, .slice none 0 0, .slice (some ⟨G2, 0, none⟩) 1 1, .int .u64 (e : Int), .int .u64 0, .int .u64 0, .int .i64 d2] 48
  refine ⟨W, e1, b1, ups_own (t := 48) (l := [lu G1 n1 d1 0, lu G2 n2 d2 e]) o1 fun u hu => ?_⟩
  rcases List.mem_cons.1 hu with rfl | hu
  · exact lu_in (vals_keep h1 b1)
  · obtain rfl : u = lu G2 n2 d2 e := by simpa using hu
    exact lu_in (vals_keep h2 b1)
theorem box_lists (w : World) (A1 G3 : Nat) (l1 : List Up) (hl : l1.length = 2) (n3 d3 : Int) (h1 : Ups w w.heap.size (some ⟨A1, 0, none⟩) l1) (h3 : Vals w w.heap.size (some ⟨G3, 0, none⟩) [vnum n3]) :
    ∃ V, V = (w.alloc (.cells #[.slice none 0 0, .slice (some ⟨G3, 0, none⟩) 1 1, .int .u64 0, .int .u64 0, .int .u64 0, .int .i64 d3] 48)).alloc (.cells #[.slice (some ⟨A1, 0, none⟩) 2 2, .slice (some ⟨w.heap.size, 0, none⟩) 1 1] 22) ∧ Below w.heap.size w V ∧
      ULs V V.heap.size (some ⟨w.heap.size + 1, 0, none⟩) [⟨some ⟨A1, 0, none⟩, 2, l1⟩, ⟨some ⟨w.heap.size, 0, none⟩, 1, [lu G3 n3 d3 0]⟩] := by
  obtain ⟨W1, e1, s1, b1, o1⟩ := boxd w [.slice none 0 0, .slice (some ⟨G3, 0, none⟩) 1 1, .int .u64 0, .int .u64 0, .int .u64 0, .int .i64 d3] 48
  obtain ⟨W2, e2, s2, b2, o2⟩ := boxd W1 [.slice (some ⟨A1, 0, none⟩) 2 2, .slice (some ⟨w.heap.size, 0, none⟩) 1 1] 22
  rw [s1] at o2
  have hu3 : Ups W1 W1.heap.size (some ⟨w.heap.size, 0, none⟩) [lu G3 n3 d3 0] := ups_own (t := 48) (l := [lu G3 n3 d3 0]) o1 fun u hu => by
    obtain rfl : u = lu G3 n3 d3 0 := by simpa using hu
    exact lu_in (vals_keep h3 b1)
  refine ⟨W2, by rw [e2, e1], belows b1 b2, rw_own (t := 22) (by simp only [List.flatMap_cons, List.flatMap_nil, Rw.cells, hl]; exact o2), fun s hs => ?_⟩
  rcases List.mem_cons.1 hs with rfl | hs
  · exact (h1.keep b1).keep b2
  · obtain rfl : s = ⟨some ⟨w.heap.size, 0, none⟩, 1, [lu G3 n3 d3 0]⟩ := by simpa using hs
    exact hu3.keep b2
theorem cons0 (G1 G2 G3 : Nat) : consL [[lu G1 2 2 0, lu G2 1 1 0], [lu G3 2 (-2) 0]] = [((⟨[], [vnum 1], ⟨0, 0, 0⟩⟩ : Uk), (1 : Int))] ∧ consE [[lu G1 2 2 0, lu G2 1 1 0], [lu G3 2 (-2) 0]] = 0 := ⟨by kernel_rfl, by kernel_rfl⟩
theorem at0 (G1 G2 : Nat) : atL [lu G1 1 3 0, lu G2 1 4 2] ⟨1, 0, 0⟩ = [([vnum 1], (3 : Int))] ∧ atE [lu G1 1 3 0, lu G2 1 4 2] ⟨1, 0, 0⟩ = 0 := ⟨by kernel_rfl, by kernel_rfl⟩
theorem even0 {l : List Up} (h : l.map Up.p = [((⟨[], [vnum 1], ⟨0, 0, 0⟩⟩ : Uk), (1 : Int))]) : EvenP l := by
  have hl : l.length = 1 := by have := congrArg List.length h; simpa using this
  obtain ⟨u, rfl⟩ := List.length_eq_one_iff.1 hl
  · have hp : u.p = ((⟨[], [vnum 1], ⟨0, 0, 0⟩⟩ : Uk), (1 : Int)) := by simpa using h
    have hk : u.k = ⟨[], [vnum 1], ⟨0, 0, 0⟩⟩ := congrArg Prod.fst hp
    have hd : u.d = 1 := congrArg Prod.snd hp
    refine ⟨fun x hx => ?_, by unfold Srt; simp, ?_⟩
    · obtain rfl : x = u := by simpa using hx
      rw [hd]; decide
    · simp only [chkUs]
      unfold chkU
      rw [hk]
      exact if_pos (by kernel_rfl)
end Go.Proofs.YtllpfngmnccejaaGreat
namespace Go.Proofs.YtllpfngmnccejaaGreat
open Go Go.RowKit

def Up.less (u : Up) : Up := { u with d := -u.d }
theorem less_k (u : Up) : u.less.k = u.k := rfl
def bothU (l : List Up) : List Up := l.flatMap fun u => if -9223372036854775807 < u.d then [u, u.less] else []
theorem both_next {l : List Up} {j : Nat} {u : Up} (h : l[j]? = some u) : bothU (l.take (j + 1)) = bothU (l.take j) ++ if -9223372036854775807 < u.d then [u, u.less] else [] := by
  unfold bothU
  rw [List.take_add_one, h, List.flatMap_append]
  simp
theorem both_len (l : List Up) : (bothU l).length ≤ 2 * l.length := by
  induction l with
  | nil => simp [bothU]
  | cons u l ih =>
    have : bothU (u :: l) = (if -9223372036854775807 < u.d then [u, u.less] else []) ++ bothU l := by unfold bothU; rw [List.flatMap_cons]
    rw [this, List.length_append, List.length_cons]
    have : (if -9223372036854775807 < u.d then [u, u.less] else []).length ≤ 2 := by split <;> simp
    omega
theorem both_sum (l : List Up) (k : Uk) : sumOf Uk.cmp ((bothU l).map Up.p) k = 0 := by
  induction l with
  | nil => simp [bothU, sumOf]
  | cons u l ih =>
    have : bothU (u :: l) = (if -9223372036854775807 < u.d then [u, u.less] else []) ++ bothU l := by unfold bothU; rw [List.flatMap_cons]
    rw [this, List.map_append, sumOf_append, ih]
    split
    · simp only [List.map_cons, List.map_nil]
      rw [show u.less.p = (u.k, -u.d) from rfl, show u.p = (u.k, u.d) from rfl]
      simp only [sumOf]
      split <;> omega
    · simp [sumOf]
theorem nz_none {K : Type} {cmp : K → K → Int} {R : K → Prop} (L : Lin cmp R) {l : List (K × Int)} (hR : ∀ x ∈ l, R x.1) (h : ∀ k, sumOf cmp l k = 0) : nz cmp l = [] :=
  List.eq_nil_iff_forall_not_mem.2 fun y hy => by
    obtain ⟨_, h2, h3⟩ := (nz_mem L hR y).1 hy
    exact h3 (h2.trans (h _))
theorem both_none (l : List Up) : consL [bothU l] = [] := by
  unfold consL
  split
  · rename_i hc
    have hc := chkLs_all.1 hc (bothU l) (by simp)
    unfold resL
    split
    · rw [List.flatten_cons, List.flatten_nil, List.append_nil]
      exact nz_none uk_lin (fun x hx => by
        obtain ⟨u, hu, rfl⟩ := List.mem_map.1 hx
        exact chkUs_all.1 hc u hu) (both_sum l)
    · rfl
  · rfl
theorem less_ok {u : Up} (h : UOk u) (hd : -9223372036854775807 < u.d) : UOk u.less := ⟨h.kn, h.rn, h.ks, h.rs, by show -9223372036854775808 ≤ -u.d ∧ -u.d ≤ 9223372036854775807; have := h.dn; omega⟩
theorem both_ok {l : List Up} (h : ∀ u ∈ l, UOk u) : ∀ u ∈ bothU l, UOk u := fun u hu => by
  obtain ⟨x, hx, hux⟩ := List.mem_flatMap.1 hu
  split at hux
  · rename_i hd
    rcases List.mem_cons.1 hux with rfl | hux
    · exact h _ hx
    · obtain rfl : u = x.less := by simpa using hux
      exact less_ok (h x hx) hd
  · cases hux
theorem both_in {w : World} {B : Nat} {l : List Up} (h : ∀ u ∈ l, UIn w B u) : ∀ u ∈ bothU l, UIn w B u := fun u hu => by
  obtain ⟨x, hx, hux⟩ := List.mem_flatMap.1 hu
  split at hux
  · rcases List.mem_cons.1 hux with rfl | hux
    · exact h _ hx
    · obtain rfl : u = x.less := by simpa using hux
      exact ⟨(h x hx).key, (h x hx).row⟩
  · cases hux
/-- two updates in a block of their own -/
theorem pair_up (w : World) (u v : Up) : Lies 6 Up.cells (w.alloc (.cells #[.slice u.kA u.key.length u.kc, .slice u.rA u.row.length u.rc, .int .u64 (u.t.e : Int), .int .u64 (u.t.a : Int), .int .u64 (u.t.b : Int), .int .i64 u.d, .slice v.kA v.key.length v.kc, .slice v.rA v.row.length v.rc, .int .u64 (v.t.e : Int), .int .u64 (v.t.a : Int), .int .u64 (v.t.b : Int), .int .i64 v.d] 48)) (w.heap.size + 1) (some ⟨w.heap.size, 0, none⟩) [u, v] := fun _ =>
  ⟨w.heap.size, 0, rfl, Nat.lt_succ_self _, fun i x hi j y hj => by
    rw [show 0 + i * 6 + j = i * 6 + j by omega]
    exact ((Own.made w 48 ([u, v].flatMap Up.cells)).at_ _).trans (flat_of (size := 6) (cells := Up.cells) (fun _ => rfl) [u, v] i j x y hi hj)⟩
theorem one_list (w : World) (A : Option Addr) (c : Nat) (l : List Up) (h : Ups w w.heap.size A l) : ∃ V, V = w.alloc (.cells #[.slice A l.length c] 22) ∧ Below w.heap.size w V ∧ ULs V V.heap.size (some ⟨w.heap.size, 0, none⟩) [⟨A, c, l⟩] := by
  obtain ⟨W, e1, s1, b1, o1⟩ := boxd w [.slice A l.length c] 22
  refine ⟨W, e1, b1, rw_own (t := 22) o1, fun s hs => ?_⟩
  obtain rfl : s = ⟨A, c, l⟩ := by simpa using hs
  exact h.keep b1
theorem two_lists (w : World) (A A' : Option Addr) (c c' : Nat) (l m : List Up) (h : Ups w w.heap.size A l) (h' : Ups w w.heap.size A' m) : ∃ V, V = w.alloc (.cells #[.slice A l.length c, .slice A' m.length c'] 22) ∧ Below w.heap.size w V ∧ ULs V V.heap.size (some ⟨w.heap.size, 0, none⟩) [⟨A, c, l⟩, ⟨A', c', m⟩] := by
  obtain ⟨W, e1, s1, b1, o1⟩ := boxd w [.slice A l.length c, .slice A' m.length c'] 22
  refine ⟨W, e1, b1, rw_own (t := 22) o1, fun s hs => ?_⟩
  rcases List.mem_cons.1 hs with rfl | hs
  · exact h.keep b1
  · obtain rfl : s = ⟨A', c', m⟩ := by simpa using hs
    exact h'.keep b1
end Go.Proofs.YtllpfngmnccejaaGreat
namespace Go.Proofs.YtllpfngmnccejaaGreat
open Go Go.RowKit

section
variable {K : Type} {cmp : K → K → Int}
theorem ins_len (x : K × Int) : ∀ l : List (K × Int), (ins cmp x l).length ≤ l.length + 1
  | [] => by simp [ins]
  | y :: t => by
    unfold ins
    have := ins_len x t
    repeat' split
    all_goals simp only [List.length_cons] at *
    all_goals omega
theorem asmF_len : ∀ (l a : List (K × Int)), (asmF cmp a l).length ≤ a.length + l.length
  | [], a => by simp [asmF]
  | x :: l, a => by
    have h1 := asmF_len l (ins cmp x a)
    have h2 := ins_len (cmp := cmp) x a
    show (asmF cmp (ins cmp x a) l).length ≤ _
    rw [List.length_cons]
    omega
theorem nz_len (l : List (K × Int)) : (nz cmp l).length ≤ l.length := by
  unfold nz asm
  have h1 := List.length_filter_le (fun x : K × Int => x.2 != 0) (asmF cmp [] l)
  have h2 := asmF_len (cmp := cmp) l []
  simp only [List.length_nil] at h2
  omega
theorem resL_len (l : List (K × Int)) : (resL cmp l).length ≤ l.length := by
  unfold resL
  split
  · exact nz_len l
  · simp
theorem resE_ne {l : List (K × Int)} (h : resE cmp l ≠ 0) : resL cmp l = [] := by
  unfold resE at h
  unfold resL
  split at h
  · exact absurd rfl h
  · rename_i h1; rw [if_neg h1]
theorem resE_zero {l : List (K × Int)} (h : resE cmp l = 0) : resL cmp l = nz cmp l ∧ (asm cmp l).all (fun x => fits x.2) = true := by
  unfold resE at h
  unfold resL
  split at h
  · rename_i h1; exact ⟨if_pos h1, h1⟩
  · omega
theorem res_again {R : K → Prop} (L : Lin cmp R) {l : List (K × Int)} (hl : ∀ x ∈ l, R x.1) (h : resE cmp l = 0) : resL cmp (resL cmp l) = resL cmp l ∧ resE cmp (resL cmp l) = 0 := by
  obtain ⟨h1, h2⟩ := resE_zero h
  have h3 : (asm cmp (nz cmp l)).all (fun x => fits x.2) = true := by rw [fit_all, nz_nz L hl, ← fit_all]; exact h2
  rw [h1]
  unfold resL resE
  rw [if_pos h3, if_pos h3, nz_nz L hl]
  exact ⟨rfl, rfl⟩
end
theorem consE_ne {L : List (List Up)} (h : consE L ≠ 0) : consL L = [] := by
  unfold consE at h
  unfold consL
  split at h
  · rename_i h1; rw [if_pos h1]; exact resE_ne h
  · rename_i h1; rw [if_neg h1]
theorem consL_len (L : List (List Up)) : (consL L).length ≤ L.flatten.length := by
  unfold consL
  split
  · have := resL_len (cmp := Uk.cmp) (L.flatten.map Up.p); rwa [List.length_map] at this
  · simp
theorem chk_all {L : List (List Up)} : chkLs L = 0 ↔ ∀ u ∈ L.flatten, chkU u = 0 := by
  rw [chkLs_all]
  constructor
  · intro h u hu
    obtain ⟨l, hl, hul⟩ := List.mem_flatten.1 hu
    exact chkUs_all.1 (h l hl) u hul
  · intro h l hl
    exact chkUs_all.2 fun u hu => h u (List.mem_flatten.2 ⟨l, hl, hu⟩)
theorem keys_right {l : List Up} (h : ∀ u ∈ l, chkU u = 0) : ∀ x ∈ l.map Up.p, UkR x.1 := fun x hx => by
  obtain ⟨u, hu, rfl⟩ := List.mem_map.1 hx
  exact h u hu
/-- the same updates, in whatever order and lists -/
theorem cons_perm {L M : List (List Up)} (h : L.flatten.Perm M.flatten) : (consE L = 0 ↔ consE M = 0) ∧ consL L = consL M := by
  by_cases h1 : chkLs L = 0
  · have h2 : chkLs M = 0 := chk_all.2 fun u hu => chk_all.1 h1 u (h.mem_iff.2 hu)
    have := resL_ext uk_lin (keys_right (chk_all.1 h1)) (keys_right (chk_all.1 h2)) fun k => sumOf_perm (h.map Up.p) k
    unfold consE consL
    rw [if_pos h1, if_pos h2, if_pos h1, if_pos h2, this.1, this.2]
    exact ⟨Iff.rfl, rfl⟩
  · have h2 : chkLs M ≠ 0 := fun h2 => h1 (chk_all.2 fun u hu => chk_all.1 h2 u (h.mem_iff.1 hu))
    unfold consE consL
    rw [if_neg h1, if_neg h2, if_neg h1, if_neg h2]
    exact ⟨⟨fun h => absurd h h1, fun h => absurd h h2⟩, rfl⟩
theorem cons_chk {L : List (List Up)} (h : consE L = 0) : chkLs L = 0 ∧ resE Uk.cmp (L.flatten.map Up.p) = 0 ∧ consL L = resL Uk.cmp (L.flatten.map Up.p) := by
  unfold consE at h
  split at h
  · rename_i h1; exact ⟨h1, h, by unfold consL; rw [if_pos h1]⟩
  · rename_i h1; exact absurd h h1
theorem cons_even {L : List (List Up)} {x : List Up} (h : consE L = 0) (hx : x.map Up.p = consL L) : EvenP x := by
  obtain ⟨h1, h2, h3⟩ := cons_chk h
  obtain ⟨h4, _⟩ := resE_zero h2
  rw [h3, h4] at hx
  refine ⟨fun u hu h0 => ?_, by rw [hx]; exact nz_srt uk_lin _, chkUs_all.2 fun u hu => ?_⟩
  · have : u.p ∈ nz Uk.cmp (L.flatten.map Up.p) := by rw [← hx]; exact List.mem_map.2 ⟨u, hu, rfl⟩
    exact ((nz_mem uk_lin (keys_right (chk_all.1 h1)) _).1 this).2.2 h0
  · have : u.p ∈ nz Uk.cmp (L.flatten.map Up.p) := by rw [← hx]; exact List.mem_map.2 ⟨u, hu, rfl⟩
    exact nz_right (R := UkR) (keys_right (chk_all.1 h1)) _ this
theorem cons_again {L : List (List Up)} {x : List Up} (h : consE L = 0) (hx : x.map Up.p = consL L) : consL [x] = consL L ∧ consE [x] = 0 := by
  obtain ⟨h1, h2, h3⟩ := cons_chk h
  have hc : chkLs [x] = 0 := chkLs_all.2 fun l hl => by
    obtain rfl : l = x := by simpa using hl
    exact (cons_even h hx).2.2
  have := res_again uk_lin (keys_right (chk_all.1 h1)) h2
  unfold consL consE at *
  rw [if_pos hc, if_pos hc]
  simp only [List.flatten_cons, List.flatten_nil, List.append_nil]
  rw [hx, if_pos h1]
  exact this
/-- a list from its end down to k -/
def upsT (l : List Up) (k : Nat) : List Up := (l.drop k).reverse
theorem upsT_end (l : List Up) : upsT l l.length = [] := by unfold upsT; simp
theorem upsT_next {l : List Up} {k : Nat} {u : Up} (h : l[k]? = some u) : upsT l k = upsT l (k + 1) ++ [u] := by
  unfold upsT
  obtain ⟨hk, rfl⟩ := List.getElem?_eq_some_iff.1 h
  rw [List.drop_eq_getElem_cons hk, List.reverse_cons]
theorem upsT_zero (l : List Up) : upsT l 0 = l.reverse := by unfold upsT; rw [List.drop_zero]
theorem upsT_len (l : List Up) (k : Nat) : (upsT l k).length ≤ l.length := by unfold upsT; simp
theorem upsT_perm (a b : List Up) : ([a, b] : List (List Up)).flatten.Perm ([upsT b 0 ++ a] : List (List Up)).flatten := by
  simp only [List.flatten_cons, List.flatten_nil, List.append_nil]
  rw [upsT_zero]
  exact List.perm_append_comm.trans (List.Perm.append_right a (List.reverse_perm b).symm)
theorem up_made (w : World) (u : Up) : Lies 6 Up.cells (w.alloc (.cells #[.slice u.kA u.key.length u.kc, .slice u.rA u.row.length u.rc, .int .u64 (u.t.e : Int), .int .u64 (u.t.a : Int), .int .u64 (u.t.b : Int), .int .i64 u.d] 48)) (w.heap.size + 1) (some ⟨w.heap.size, 0, none⟩) [u] := fun _ =>
  ⟨w.heap.size, 0, rfl, Nat.lt_succ_self _, fun i x hi j y hj => by
    rw [show 0 + i * 6 + j = i * 6 + j by omega]
    exact ((Own.made w 48 ([u].flatMap Up.cells)).at_ _).trans (flat_of (size := 6) (cells := Up.cells) (fun _ => rfl) [u] i j x y hi hj)⟩
end Go.Proofs.YtllpfngmnccejaaGreat
namespace Go.Proofs.YtllpfngmnccejaaGreat
open Go Go.RowKit

section
variable {K : Type} {cmp : K → K → Int} {R : K → Prop}
def psum (p : K → Bool) : List (K × Int) → Int
  | [] => 0
  | x :: l => (if p x.1 = true then x.2 else 0) + psum p l
theorem ins_right {x : K × Int} {l : List (K × Int)} (hx : R x.1) (hl : ∀ y ∈ l, R y.1) : ∀ y ∈ ins cmp x l, R y.1 := fun y hy => by
  rcases ins_keys x l y hy with e | ⟨z, hz, e⟩
  · rw [e]; exact hx
  · rw [← e]; exact hl z hz
theorem psum_ins (L : Lin cmp R) (p : K → Bool) (x : K × Int) (hx : R x.1) : ∀ l : List (K × Int), (∀ y ∈ l, R y.1) → psum p (ins cmp x l) = psum p l + if p x.1 = true then x.2 else 0
  | [], _ => by simp [ins, psum]
  | y :: t, h => by
    have ih := psum_ins L p x hx t fun z hz => h z (by simp [hz])
    unfold ins
    by_cases h0 : cmp y.1 x.1 = 0
    · have e : y.1 = x.1 := (L.eq y.1 x.1 (h y (by simp)) hx).1 h0
      rw [if_pos h0]
      simp only [psum, e]
      split <;> omega
    · rw [if_neg h0]
      split
      · simp only [psum, ih]; omega
      · simp only [psum]; omega
theorem psum_asmF (L : Lin cmp R) (p : K → Bool) : ∀ l a : List (K × Int), (∀ y ∈ l, R y.1) → (∀ y ∈ a, R y.1) → psum p (asmF cmp a l) = psum p a + psum p l
  | [], a, _, _ => by simp [asmF, psum]
  | x :: l, a, h, ha => by
    have hx := h x (by simp)
    have ih := psum_asmF L p l (ins cmp x a) (fun y hy => h y (by simp [hy])) (ins_right hx ha)
    show psum p (asmF cmp (ins cmp x a) l) = _
    rw [ih, psum_ins L p x hx a ha]
    simp only [psum]
    omega
theorem psum_nz0 (p : K → Bool) : ∀ l : List (K × Int), psum p (l.filter fun x => x.2 != 0) = psum p l
  | [] => rfl
  | x :: l => by
    have ih := psum_nz0 p l
    rw [List.filter_cons]
    split
    · simp only [psum, ih]
    · rename_i h
      have h0 : x.2 = 0 := by simpa using h
      simp only [psum, ih, h0]
      split <;> omega
theorem psum_nz (L : Lin cmp R) (p : K → Bool) {l : List (K × Int)} (h : ∀ y ∈ l, R y.1) : psum p (nz cmp l) = psum p l := by
  unfold nz asm
  rw [psum_nz0, psum_asmF L p l [] h fun y hy => (by cases hy)]
  simp [psum]
end
theorem at_sum (t : Tm) (r : List Vl) : ∀ l : List Up, sumOf cmpRows (atP l t) r = psum (fun k : Uk => k.t.le t && decide (cmpRows k.row r = 0)) (l.map Up.p)
  | [] => rfl
  | u :: l => by
    have ih := at_sum t r l
    have e : atP (u :: l) t = if u.t.le t = true then (u.row, u.d) :: atP l t else atP l t := by
      unfold atP
      rw [List.filter_cons]
      split <;> simp
    rw [e, List.map_cons]
    simp only [psum]
    rw [show u.p = (u.k, u.d) from rfl, ← ih]
    simp only [show u.k.t = u.t from rfl, show u.k.row = u.row from rfl]
    cases hle : u.t.le t
    · simp
    · by_cases h0 : cmpRows u.row r = 0
      · simp [sumOf, h0]
      · simp [sumOf, h0]
theorem at_append (a b : List Up) (t : Tm) : atP (a ++ b) t = atP a t ++ atP b t := by unfold atP; rw [List.filter_append, List.map_append]
theorem at_right {l : List Up} {t : Tm} (h : chkUs l = 0) : ∀ x ∈ atP l t, RowR x.1 := fun x hx => by
  obtain ⟨u, hu, rfl⟩ := List.mem_map.1 hx
  exact (chkK_zero (chkUs_all.1 h u (List.mem_filter.1 hu).1)).2.1
theorem at_ne {l : List Up} {t : Tm} (h : atE l t ≠ 0) : atL l t = [] := by
  unfold atE at h
  unfold atL
  split at h
  · rename_i h1; rw [if_pos h1]; exact resE_ne h
  · rename_i h1; rw [if_neg h1]
theorem at_zero {l : List Up} {t : Tm} (h : atE l t = 0) : chkUs l = 0 ∧ chk [t] = 0 ∧ resE cmpRows (atP l t) = 0 ∧ atL l t = nz cmpRows (atP l t) := by
  unfold atE at h
  split at h
  · rename_i h1
    have h2 : chkUs l = 0 ∧ chk [t] = 0 := by unfold chkAt orI at h1; split at h1 <;> simp_all
    exact ⟨h2.1, h2.2, h, by unfold atL; rw [if_pos h1]; exact (resE_zero h).1⟩
  · rename_i h1; exact absurd h h1
theorem at_of {l : List Up} {t : Tm} (h1 : chkUs l = 0) (h2 : chk [t] = 0) : atL l t = resL cmpRows (atP l t) ∧ atE l t = resE cmpRows (atP l t) := by
  have h : chkAt l t = 0 := by unfold chkAt orI; rw [if_pos h1]; exact h2
  unfold atL atE
  rw [if_pos h, if_pos h]
  exact ⟨rfl, rfl⟩
/-- of updates, and of them evened out -/
theorem at_same {l e : List Up} (t : Tm) (h : consE [l] = 0) (he : e.map Up.p = consL [l]) : atL l t = atL e t ∧ atE l t = atE e t := by
  have hev := (cons_even h he).2.2
  obtain ⟨h1, h2, h3⟩ := cons_chk h
  have hl : chkUs l = 0 := chkLs_all.1 h1 l (by simp)
  simp only [List.flatten_cons, List.flatten_nil, List.append_nil] at h2 h3
  by_cases ht : chk [t] = 0
  · rw [(at_of hl ht).1, (at_of hl ht).2, (at_of hev ht).1, (at_of hev ht).2]
    refine resL_ext row_lin (at_right hl) (at_right hev) fun r => ?_
    rw [at_sum, at_sum, he, h3, (resE_zero h2).1, psum_nz uk_lin _ (keys_right (chkUs_all.1 hl))]
  · have c1 : chkAt l t = chk [t] := by unfold chkAt orI; rw [if_pos hl]
    have c2 : chkAt e t = chk [t] := by unfold chkAt orI; rw [if_pos hev]
    unfold atL atE
    rw [c1, c2, if_neg ht, if_neg ht, if_neg ht, if_neg ht]
    exact ⟨rfl, rfl⟩
theorem merge_two {A B C : List (List Vl × Int)} {p q : List Ct} (hA : ∀ x ∈ A, RowR x.1) (hB : ∀ x ∈ B, RowR x.1) (hC : ∀ x ∈ C, RowR x.1) (hp : p.map Ct.p = nz cmpRows A) (hq : q.map Ct.p = nz cmpRows B)
    (hs : ∀ r, sumOf cmpRows A r + sumOf cmpRows B r = sumOf cmpRows C r) : mergeL [p, q] = resL cmpRows C ∧ mergeE [p, q] = resE cmpRows C := by
  have hall : ∀ x ∈ (p ++ q).map Ct.p, RowR x.1 := fun x hx => by
    rw [List.map_append, hp, hq] at hx
    rcases List.mem_append.1 hx with hx | hx
    · exact nz_right (R := RowR) hA x hx
    · exact nz_right (R := RowR) hB x hx
  have hc : chkCs ([p, q] : List (List Ct)).flatten = 0 := chkCs_all.2 fun c hc => by
    simp only [List.flatten_cons, List.flatten_nil, List.append_nil] at hc
    exact hall c.p (List.mem_map.2 ⟨c, hc, rfl⟩)
  unfold mergeL mergeE
  rw [if_pos hc, if_pos hc]
  simp only [List.flatten_cons, List.flatten_nil, List.append_nil]
  refine resL_ext row_lin hall hC fun r => ?_
  rw [List.map_append, sumOf_append, hp, hq, nz_sum row_lin, nz_sum row_lin]
  exact hs r
/-- of two lists -/
theorem at_merge {a b : List Up} {t : Tm} {p q : List Ct} (ha : atE a t = 0) (hb : atE b t = 0) (hp : p.map Ct.p = atL a t) (hq : q.map Ct.p = atL b t) : mergeL [p, q] = atL (a ++ b) t ∧ mergeE [p, q] = atE (a ++ b) t := by
  obtain ⟨a1, a2, a3, a4⟩ := at_zero ha
  obtain ⟨b1, b2, b3, b4⟩ := at_zero hb
  have hc : chkUs (a ++ b) = 0 := chkUs_all.2 fun u hu => by
    rcases List.mem_append.1 hu with hu | hu
    · exact chkUs_all.1 a1 u hu
    · exact chkUs_all.1 b1 u hu
  rw [(at_of hc a2).1, (at_of hc a2).2]
  exact merge_two (at_right a1) (at_right b1) (at_right hc) (hp.trans a4) (hq.trans b4) fun r => by rw [at_append, sumOf_append]
def betw (l : List Up) (a : Tm) : List Up := l.filter fun u => !u.t.le a
theorem betw_next {l : List Up} {a : Tm} {j : Nat} {u : Up} (h : l[j]? = some u) : betw (l.take (j + 1)) a = betw (l.take j) a ++ if u.t.le a = true then [] else [u] := by
  unfold betw
  rw [List.take_add_one, h, List.filter_append]
  cases hh : u.t.le a <;> simp [hh]
theorem betw_sub {l : List Up} {a : Tm} {u : Up} (h : u ∈ betw l a) : u ∈ l := (List.mem_filter.1 h).1
theorem betw_len (l : List Up) (a : Tm) : (betw l a).length ≤ l.length := List.length_filter_le ..
theorem betw_sum {a b : Tm} (hab : a.le b = true) (r : List Vl) : ∀ l : List Up, sumOf cmpRows (atP l a) r + sumOf cmpRows (atP (betw l a) b) r = sumOf cmpRows (atP l b) r
  | [] => rfl
  | u :: l => by
    have ih := betw_sum hab r l
    have e : ∀ t, atP (u :: l) t = if u.t.le t = true then (u.row, u.d) :: atP l t else atP l t := fun t => by
      unfold atP
      rw [List.filter_cons]
      split <;> simp
    have e2 : betw (u :: l) a = if u.t.le a = true then betw l a else u :: betw l a := by
      unfold betw
      rw [List.filter_cons]
      cases u.t.le a <;> simp
    have hle : u.t.le a = true → u.t.le b = true := fun h => by
      unfold Tm.le at *
      simp only [Bool.and_eq_true, decide_eq_true_eq] at *
      omega
    rw [e, e, e2]
    cases h1 : u.t.le a
    · have e3 : atP (u :: betw l a) b = if u.t.le b = true then (u.row, u.d) :: atP (betw l a) b else atP (betw l a) b := by
        unfold atP
        rw [List.filter_cons]
        split <;> simp
      simp only [Bool.false_eq_true, if_false]
      rw [e3]
      cases u.t.le b
      · simpa using ih
      · simp only [if_true, sumOf]; omega
    · rw [hle h1]
      simp only [if_true, sumOf]
      omega
/-- between two times -/
theorem at_later {l : List Up} {a b : Tm} {p q : List Ct} (hab : a.le b = true) (ha : atE l a = 0) (hb : atE l b = 0) (hz : atE (betw l a) b = 0) (hp : p.map Ct.p = atL l a) (hq : q.map Ct.p = atL (betw l a) b) : mergeL [p, q] = atL l b ∧ mergeE [p, q] = 0 := by
  obtain ⟨a1, a2, a3, a4⟩ := at_zero ha
  obtain ⟨b1, b2, b3, b4⟩ := at_zero hb
  obtain ⟨z1, z2, z3, z4⟩ := at_zero hz
  have := merge_two (at_right a1) (at_right z1) (at_right a1) (hp.trans a4) (hq.trans z4) fun r => betw_sum hab r l
  rw [b3] at this
  rw [(at_of a1 b2).1]
  exact this
theorem atL_len (l : List Up) (t : Tm) : (atL l t).length ≤ l.length := by
  unfold atL
  split
  · have h1 := resL_len (cmp := cmpRows) (atP l t)
    have h2 : (atP l t).length ≤ l.length := by unfold atP; rw [List.length_map]; exact List.length_filter_le ..
    omega
  · simp
theorem merge_len (L : List (List Ct)) : (mergeL L).length ≤ L.flatten.length := by
  unfold mergeL
  split
  · have := resL_len (cmp := cmpRows) (L.flatten.map Ct.p); rwa [List.length_map] at this
  · simp
end Go.Proofs.YtllpfngmnccejaaGreat
namespace Go.Proofs.YtllpfngmnccejaaGreat
open Go Go.RowKit

theorem empty_ups (w : World) : (w.alloc (.cells #[] 48)).ownsRow w.heap.size 48 6 (.slice (some ⟨w.heap.size, 0, none⟩) 0 0) 0 [] :=
  World.ownsRow_made w #[] 0 (Nat.le_refl _) (Nat.zero_le _) rfl
theorem two_clists (w : World) (A A' : Option Addr) (c c' : Nat) (l m : List Ct) (h : Cts w w.heap.size A l) (h' : Cts w w.heap.size A' m) : ∃ V, V = w.alloc (.cells #[.slice A l.length c, .slice A' m.length c'] 54) ∧ Below w.heap.size w V ∧ CLs V V.heap.size (some ⟨w.heap.size, 0, none⟩) [⟨A, c, l⟩, ⟨A', c', m⟩] := by
  obtain ⟨W, e1, s1, b1, o1⟩ := boxd w [.slice A l.length c, .slice A' m.length c'] 54
  refine ⟨W, e1, b1, rw_own (t := 54) o1, fun s hs => ?_⟩
  rcases List.mem_cons.1 hs with rfl | hs
  · exact h.keep b1
  · obtain rfl : s = ⟨A', c', m⟩ := by simpa using hs
    exact h'.keep b1
/-- the same, said of what is there at t -/
def There (l : List (List Vl × Int)) (e : Int) (w : World) (x : Ending) (w' : World) : Prop :=
  ∃ A c, ∃ outL : List Ct, x = .returned (.tuple #[.slice A outL.length c, .int .i64 e]) ∧ outL.map Ct.p = l ∧ Cts w' w'.heap.size A outL ∧ (∀ u ∈ outL, COk u) ∧ outL.length ≤ 1099511627776 ∧ Below w.heap.size w w'
theorem there_at (A : Option Addr) (c : Nat) (l : List Up) (t : Tm) (w : World) (hl : Ups w w.heap.size A l) (hok : ∀ u ∈ l, UOk u) (hn : l.length ≤ 1099511627776) :
    Calls Tryz.prog 21 #[.slice A l.length c, .agg #[.int .u64 (t.e : Int), .int .u64 (t.a : Int), .int .u64 (t.b : Int)]] w (There (atL l t) (atE l t) w) :=
  (at_any A c l t w hl hok hn).mono fun x w' ⟨A', c', outL, h1, h2, h3, h4, h5, _⟩ => ⟨A', c', outL, h1, h2, h3, h4, by
    have := atL_len l t
    rw [← h2, List.length_map] at this
    omega, h5⟩
/-- the same, and where it lies: in no block that was there -/
def ThereNew (l : List (List Vl × Int)) (e : Int) (w : World) (x : Ending) (w' : World) : Prop :=
  ∃ A c, ∃ outL : List Ct, x = .returned (.tuple #[.slice A outL.length c, .int .i64 e]) ∧ outL.map Ct.p = l ∧ Cts w' w'.heap.size A outL ∧ (∀ u ∈ outL, COk u) ∧ outL.length ≤ 1099511627776 ∧ Below w.heap.size w w' ∧ LoC w.heap.size A outL
theorem there_new (A : Option Addr) (c : Nat) (l : List Up) (t : Tm) (w : World) (hl : Ups w w.heap.size A l) (hok : ∀ u ∈ l, UOk u) (hn : l.length ≤ 1099511627776) :
    Calls Tryz.prog 21 #[.slice A l.length c, .agg #[.int .u64 (t.e : Int), .int .u64 (t.a : Int), .int .u64 (t.b : Int)]] w (ThereNew (atL l t) (atE l t) w) :=
  (at_any A c l t w hl hok hn).mono fun x w' ⟨A', c', outL, h1, h2, h3, h4, h5⟩ => ⟨A', c', outL, h1, h2, h3, h4, by
    have := atL_len l t
    rw [← h2, List.length_map] at this
    omega, h5⟩
/-- one list evened out -/
def Evened (l : List (Uk × Int)) (e : Int) (w : World) (x : Ending) (w' : World) : Prop :=
  ∃ A c, ∃ outL : List Up, x = .returned (.tuple #[.slice A outL.length c, .int .i64 e]) ∧ outL.map Up.p = l ∧ Ups w' w'.heap.size A outL ∧ (∀ u ∈ outL, UOk u) ∧ outL.length ≤ 1099511627776 ∧ Below w.heap.size w w'
theorem evened_one (A A1 : Option Addr) (c1 : Nat) (l : List Up) (w : World) (hl : ULs w w.heap.size A [⟨A1, c1, l⟩]) (hok : ∀ u ∈ l, UOk u) (hn : l.length ≤ 1099511627776) :
    Calls Tryz.prog 55 #[.slice A 1 1] w (Evened (consL [l]) (consE [l]) w) := by
  have h0 := consolidate_any A 1 [⟨A1, c1, l⟩] w hl (fun s hs u hu => by
    obtain rfl : s = ⟨A1, c1, l⟩ := by simpa using hs
    exact hok u hu) (by simpa [flatR] using hn) (by simp)
  refine h0.mono fun x w' ⟨A', c', outL, e1, e2, e3, e4, e5⟩ => ?_
  simp only [List.map_cons, List.map_nil] at e1 e2
  refine ⟨A', c', outL, e1, e2, e3, e4, ?_, e5⟩
  have := consL_len [l]
  rw [← e2, List.length_map] at this
  simp only [List.flatten_cons, List.flatten_nil, List.append_nil] at this
  omega
end Go.Proofs.YtllpfngmnccejaaGreat
namespace Go.Proofs.YtllpfngmnccejaaGreat
open Go Go.RowKit

/-- the blocks in which the rows of an update lie -/
def Awn (Q : Nat → Prop) (u : Up) : Prop := (0 < u.key.length → ∀ b o, u.kA = some ⟨b, o, none⟩ → Q b) ∧ (0 < u.row.length → ∀ b o, u.rA = some ⟨b, o, none⟩ → Q b)
theorem Awn.imp {Q R : Nat → Prop} {u : Up} (h : Awn Q u) (k : ∀ b, Q b → R b) : Awn R u := ⟨fun hp b o e => k b (h.1 hp b o e), fun hp b o e => k b (h.2 hp b o e)⟩
theorem Awn.and {Q R : Nat → Prop} {u : Up} (h : Awn Q u) (k : Awn R u) : Awn (fun b => Q b ∧ R b) u := ⟨fun hp b o e => ⟨h.1 hp b o e, k.1 hp b o e⟩, fun hp b o e => ⟨h.2 hp b o e, k.2 hp b o e⟩⟩
theorem Awn.all {Q : Nat → Prop} (u : Up) (h : ∀ b, Q b) : Awn Q u := ⟨fun _ b _ _ => h b, fun _ b _ _ => h b⟩
theorem awn_lt {w : World} {B : Nat} {u : Up} (h : UIn w B u) : Awn (fun b => b < B) u := by
  refine ⟨fun hp b o e => ?_, fun hp b o e => ?_⟩
  · obtain ⟨b', o', e', hb, _⟩ := h.key hp
    rw [e] at e'
    simp only [Option.some.injEq, Addr.mk.injEq, and_true] at e'
    omega
  · obtain ⟨b', o', e', hb, _⟩ := h.row hp
    rw [e] at e'
    simp only [Option.some.injEq, Addr.mk.injEq, and_true] at e'
    omega
theorem awn_lo {B : Nat} {A : Option Addr} {l : List Up} (h : Lo B A l) {u : Up} (hu : u ∈ l) : Awn (fun b => B ≤ b) u := ⟨fun _ b o e => h.2 u hu b o (.inl e), fun _ b o e => h.2 u hu b o (.inr e)⟩
/-- the rows of an update lie neither in block PB nor in the one that v owns -/
def Aw (PB : Nat) (v : Value) (u : Up) : Prop := Awn (fun b => b ≠ PB ∧ v.ownBlock ≠ some b) u
/-- all that was there is as it was, but block PB and the one that v owns -/
structure PKeep (w w' : World) (PB : Nat) (v : Value) : Prop where
  os : w'.os = w.os
  tape : w'.tape = w.tape
  output : w'.output = w.output
  size : w.heap.size ≤ w'.heap.size
  block : ∀ k, k < w.heap.size → k ≠ PB → v.ownBlock ≠ some k → w'.heap[k]? = w.heap[k]?
/-- v' owns the block that v owns, or a newer one than all of w -/
def Grew (w : World) (v v' : Value) : Prop := v'.ownBlock = v.ownBlock ∨ ∃ k, v'.ownBlock = some k ∧ w.heap.size ≤ k
section
variable {w w' w'' : World} {PB : Nat} {v v' v'' : Value}
theorem PKeep.refl : PKeep w w PB v := ⟨rfl, rfl, rfl, Nat.le_refl _, fun _ _ _ _ => rfl⟩
theorem PKeep.trans (h : PKeep w w' PB v) (hg : Grew w v v') (k : PKeep w' w'' PB v') : PKeep w w'' PB v :=
  ⟨k.os.trans h.os, k.tape.trans h.tape, k.output.trans h.output, Nat.le_trans h.size k.size, fun i hi h1 h2 => (k.block i (Nat.lt_of_lt_of_le hi h.size) h1 fun e => by
    rcases hg with hg | ⟨j, hj, hl⟩
    · rw [hg] at e; exact h2 e
    · rw [hj] at e; injection e with e; omega).trans (h.block i hi h1 h2)⟩
theorem PKeep.quiet (h : PKeep w w' PB v) (hb : Below w'.heap.size w' w'') : PKeep w w'' PB v :=
  ⟨hb.os.trans h.os, hb.tape.trans h.tape, hb.output.trans h.output, Nat.le_trans h.size hb.size, fun i hi h1 h2 => (hb.block i (Nat.lt_of_lt_of_le hi h.size)).trans (h.block i hi h1 h2)⟩
theorem PKeep.after (hb : Below w.heap.size w w') (k : PKeep w' w'' PB v) : PKeep w w'' PB v :=
  ⟨k.os.trans hb.os, k.tape.trans hb.tape, k.output.trans hb.output, Nat.le_trans hb.size k.size, fun i hi h1 h2 => (k.block i (Nat.lt_of_lt_of_le hi hb.size) h1 h2).trans (hb.block i hi)⟩
theorem PKeep.of_quiet (hb : Below w.heap.size w w') : PKeep w w' PB v := PKeep.refl.quiet hb
theorem PKeep.below (h : PKeep w w' PB v) {B : Nat} (hw : B ≤ w.heap.size) (hB : B ≤ PB) (hv : ∀ k, v.ownBlock = some k → B ≤ k) : Below B w w' :=
  ⟨h.os, h.tape, h.output, h.size, fun k hk => h.block k (by omega) (by omega) fun e => by have := hv k e; omega⟩
theorem Grew.same : Grew w v v := .inl rfl
theorem Grew.trans (h : Grew w v v') (hs : w.heap.size ≤ w'.heap.size) (k : Grew w' v' v'') : Grew w v v'' := by
  rcases k with k | ⟨j, hj, hl⟩
  · rcases h with h | ⟨i, hi, hl⟩
    · exact .inl (k.trans h)
    · exact .inr ⟨i, k.trans hi, hl⟩
  · exact .inr ⟨j, hj, Nat.le_trans hs hl⟩
theorem Grew.later (h : Grew w' v v') (hs : w.heap.size ≤ w'.heap.size) : Grew w v v' := by
  rcases h with h | ⟨i, hi, hl⟩
  · exact .inl h
  · exact .inr ⟨i, hi, Nat.le_trans hs hl⟩
theorem vals_pk {A : Option Addr} {l : List Vl} (h : Vals w w.heap.size A l) (hg : PKeep w w' PB v) (hA : 0 < l.length → ∀ b o, A = some ⟨b, o, none⟩ → b ≠ PB ∧ v.ownBlock ≠ some b) : Vals w' w'.heap.size A l := fun hp => by
  obtain ⟨b, o, e, hb, hc⟩ := h hp
  obtain ⟨h1, h2⟩ := hA hp b o e
  have hk : ∀ j, w'.cell? ⟨b, j, none⟩ = w.cell? ⟨b, j, none⟩ := fun j => by unfold World.cell?; rw [hg.block b hb h1 h2]
  refine ⟨b, o, e, Nat.lt_of_lt_of_le hb hg.size, fun i v hi => ?_⟩
  obtain ⟨a0, a1, a2⟩ := hc i v hi
  exact ⟨(hk _).trans a0, (hk _).trans a1, (hk _).trans a2⟩
theorem uin_pk {u : Up} (h : UIn w w.heap.size u) (ha : Aw PB v u) (hg : PKeep w w' PB v) : UIn w' w'.heap.size u :=
  ⟨vals_pk h.key hg ha.1, vals_pk h.row hg ha.2⟩
theorem lies_pk {α : Type} {size : Nat} {cells : α → List Value} {A : Option Addr} {l : List α} (h : Lies size cells w w.heap.size A l) (hg : PKeep w w' PB v) (hA : 0 < l.length → ∀ b o, A = some ⟨b, o, none⟩ → b ≠ PB ∧ v.ownBlock ≠ some b) : Lies size cells w' w'.heap.size A l := fun hp => by
  obtain ⟨b, o, e, hb, hc⟩ := h hp
  obtain ⟨h1, h2⟩ := hA hp b o e
  have hk : ∀ j, w'.cell? ⟨b, j, none⟩ = w.cell? ⟨b, j, none⟩ := fun j => by unfold World.cell?; rw [hg.block b hb h1 h2]
  exact ⟨b, o, e, Nat.lt_of_lt_of_le hb hg.size, fun i x hi j u hj => (hk _).trans (hc i x hi j u hj)⟩
/-- what lies in blocks that are there, and apart, is apart from what v has grown into -/
theorem Aw.grew {u : Up} (ha : Aw PB v u) (hl : UIn w w.heap.size u) (hg : Grew w v v') : Aw PB v' u := (Awn.and ha (awn_lt hl)).imp fun b h => by
  refine ⟨h.1.1, fun e => ?_⟩
  rcases hg with hg | ⟨j, hj, hlj⟩
  · rw [hg] at e; exact h.1.2 e
  · rw [hj] at e; injection e with e; have := h.2; omega
end
/-- a block's cells, whatever type it was made of: a producer may stand at the beginning of a greater struct -/
def OwnP (w : World) (g : Nat) (l : List Value) : Prop := ∃ T, Own w g T l
section
variable {w w' : World} {g : Nat} {l : List Value}
theorem OwnP.inside (h : OwnP w g l) : g < w.heap.size := h.choose_spec.inside
theorem OwnP.at_ (h : OwnP w g l) (i : Nat) : w.cell? ⟨g, i, none⟩ = l[i]? := h.choose_spec.at_ i
theorem OwnP.open_ (h : OwnP w g l) (i : Nat) : w.frozen? ⟨g, i, none⟩ = false := h.choose_spec.open_ i
theorem OwnP.more (h : OwnP w g l) (o : Obj) : OwnP (w.alloc o) g l := h.imp fun _ k => k.more o
theorem OwnP.drew' (h : OwnP w g l) : OwnP w.drew g l := h.imp fun _ k => k
theorem OwnP.set_ (h : OwnP w g l) (i : Nat) (u : Value) : OwnP (w.setCell ⟨g, i, none⟩ u) g (l.set i u) := h.imp fun _ k => k.set_ i u
theorem OwnP.other (h : OwnP w g l) {p : Addr} (hp : p.block ≠ g) (u : Value) : OwnP (w.setCell p u) g l := h.imp fun _ k => k.other hp u
theorem OwnP.past {B : Nat} (h : OwnP w g l) (hb : Below B w w') (hg : g < B) : OwnP w' g l := h.imp fun _ k => k.past hb hg
theorem OwnP.kept (h : OwnP w g l) (k : w'.heap[g]? = w.heap[g]?) : OwnP w' g l := h.imp fun _ e => k.trans e
end
/-- a producer: a block of the call's own, and a row -/
structure Prod (w : World) (PB : Nat) (t : Tm) (why : Int) (v : Value) (M : List Up) : Prop where
  own : OwnP w PB [.int .u64 (t.e : Int), .int .u64 (t.a : Int), .int .u64 (t.b : Int), .int .i64 why, v]
  row : w.ownsRow (PB + 1) 48 6 v M.length (M.flatMap Up.cells)
  each_ : ∀ u ∈ M, UIn w w.heap.size u ∧ UOk u ∧ Aw PB v u
  zero : why = 0 → t = ⟨0, 0, 0⟩
section
variable {w w' : World} {PB : Nat} {t : Tm} {why : Int} {v : Value} {M : List Up}
theorem Prod.quiet (h : Prod w PB t why v M) (hb : Below w.heap.size w w') : Prod w' PB t why v M :=
  ⟨h.own.past hb h.own.inside, own_below h.row hb, fun u hu => ⟨(h.each_ u hu).1.keep hb, (h.each_ u hu).2.1, (h.each_ u hu).2.2⟩, h.zero⟩
theorem Prod.later (h : Prod w PB t why v M) : ∀ k, v.ownBlock = some k → PB + 1 ≤ k ∧ k < w.heap.size := fun k hk => h.row.lt k hk
theorem Prod.five (h : Prod w PB t why v M) : w.cell? ⟨PB, 0, none⟩ = some (.int .u64 (t.e : Int)) ∧ w.cell? ⟨PB, 1, none⟩ = some (.int .u64 (t.a : Int)) ∧ w.cell? ⟨PB, 2, none⟩ = some (.int .u64 (t.b : Int)) ∧ w.cell? ⟨PB, 3, none⟩ = some (.int .i64 why) ∧ w.cell? ⟨PB, 4, none⟩ = some v :=
  ⟨h.own.at_ 0, h.own.at_ 1, h.own.at_ 2, h.own.at_ 3, h.own.at_ 4⟩
theorem Prod.unfrozen (h : Prod w PB t why v M) : w.frozen? ⟨PB, 0, none⟩ = false ∧ w.frozen? ⟨PB, 1, none⟩ = false ∧ w.frozen? ⟨PB, 2, none⟩ = false ∧ w.frozen? ⟨PB, 3, none⟩ = false ∧ w.frozen? ⟨PB, 4, none⟩ = false :=
  ⟨h.own.open_ 0, h.own.open_ 1, h.own.open_ 2, h.own.open_ 3, h.own.open_ 4⟩
end
end Go.Proofs.YtllpfngmnccejaaGreat
namespace Go.Proofs.YtllpfngmnccejaaGreat
open Go Go.RowKit

theorem tm_cells3 (t : Tm) : t.cells = [.int .u64 (t.e : Int), .int .u64 (t.a : Int), .int .u64 (t.b : Int)] := rfl
theorem tbox (w : World) (t : Tm) : ∃ W, W = w.alloc (.cells #[.int .u64 (t.e : Int), .int .u64 (t.a : Int), .int .u64 (t.b : Int)] 46) ∧ Below w.heap.size w W ∧ W.heap.size = w.heap.size + 1 ∧ Own W w.heap.size 46 [.int .u64 (t.e : Int), .int .u64 (t.a : Int), .int .u64 (t.b : Int)] :=
  ⟨_, rfl, (Below.refl _ _).alloc (Nat.le_refl _) _, by simp, Own.made w 46 [.int .u64 (t.e : Int), .int .u64 (t.a : Int), .int .u64 (t.b : Int)]⟩
/-- four cells of the block written -/
theorem own_four {w : World} {P : Nat} {t : TypeId} {z0 z1 z2 z3 z4 : Value} (h : Own w P t [z0, z1, z2, z3, z4]) (a b c d : Value) :
    ∃ X, X = (((w.setCell ⟨P, 0, none⟩ a).setCell ⟨P, 1, none⟩ b).setCell ⟨P, 2, none⟩ c).setCell ⟨P, 3, none⟩ d ∧ Own X P t [a, b, c, d, z4] ∧ PKeep w X P (.slice none 0 0) ∧ X.heap.size = w.heap.size := by
  refine ⟨_, rfl, (((h.set_ 0 a).set_ 1 b).set_ 2 c).set_ 3 d, ⟨rfl, rfl, rfl, by simp [World.setCell], fun k _ hk _ => ?_⟩, by simp [World.setCell]⟩
  have q := fun (W : World) (i : Nat) (v : Value) => Below.heap_setCell W ⟨P, i, none⟩ v k hk
  rw [q, q, q, q]
theorem own_fourP {w : World} {P : Nat} {z0 z1 z2 z3 z4 : Value} (h : OwnP w P [z0, z1, z2, z3, z4]) (a b c d : Value) :
    ∃ X, X = (((w.setCell ⟨P, 0, none⟩ a).setCell ⟨P, 1, none⟩ b).setCell ⟨P, 2, none⟩ c).setCell ⟨P, 3, none⟩ d ∧ OwnP X P [a, b, c, d, z4] ∧ PKeep w X P (.slice none 0 0) ∧ X.heap.size = w.heap.size := by
  obtain ⟨T, h⟩ := h
  obtain ⟨X, h1, h2, h3, h4⟩ := own_four h a b c d
  exact ⟨X, h1, ⟨T, h2⟩, h3, h4⟩
/-- what Fail leaves: a failure, at some time -/
def FailSays (PB : Nat) (v : Value) (w : World) (x : Ending) (w' : World) : Prop :=
  x = .returned (.tuple #[]) ∧ ∃ t : Tm, OwnP w' PB [.int .u64 (t.e : Int), .int .u64 (t.a : Int), .int .u64 (t.b : Int), .int .i64 10, v] ∧ PKeep w w' PB (.slice none 0 0)
set_option maxRecDepth 100000 in
set_option maxHeartbeats 3200000 in
theorem failL_any (PB : Nat) (t : Tm) (why : Int) (v : Value) (tf : Tm) (w : World) (h : OwnP w PB [.int .u64 (t.e : Int), .int .u64 (t.a : Int), .int .u64 (t.b : Int), .int .i64 why, v]) (hw : why = 0 ∨ why = 10) :
    Calls Tryz.prog 113 #[.pointer (some ⟨PB, 0, none⟩), .agg #[.int .u64 (tf.e : Int), .int .u64 (tf.a : Int), .int .u64 (tf.b : Int)]] w (FailSays PB v w) := by
  obtain ⟨V, hV, hvb, hvs, hvo⟩ := tbox w tf
  have hbig := h.past hvb h.inside
  have hlt := h.inside
  obtain ⟨X, hX, hxo, hxk, hxs⟩ := own_fourP hbig (.int .u64 (tf.e : Int)) (.int .u64 (tf.a : Int)) (.int .u64 (tf.b : Int)) (.int .i64 10)
  have HX := Lib.hid (And.intro hxo (PKeep.after hvb hxk))
  have HB := Lib.hid (And.intro hbig hvb)
  have HVo := Lib.hid hvo
  have c0 := hbig.at_ 0
  have c1 := hbig.at_ 1
  have c2 := hbig.at_ 2
  have c3 := hbig.at_ 3
  have f0 := hbig.open_ 0
  have f1 := hbig.open_ 1
  have f2 := hbig.open_ 2
  have f3 := hbig.open_ 3
  have d0 := hvo.at_ 0
  have d1 := hvo.at_ 1
  have d2 := hvo.at_ 2
  simp only [List.getElem?_cons_zero, List.getElem?_cons_succ] at c0 c1 c2 c3 d0 d1 d2
  have hcmp := fun W => Lib.hid (compare_grows tf t W)
  unfold Tm.val at hcmp
  clear h hvb hvs hvo hxo hxk hxs hbig hlt
  have u1 : ∀ p : Past V, Calls Tryz.prog 69 #[.agg #[.int .u64 (tf.e : Int), .int .u64 (tf.a : Int), .int .u64 (tf.b : Int)], .agg #[.int .u64 (t.e : Int), .int .u64 (t.a : Int), .int .u64 (t.b : Int)]] p.w fun e w'' => e = .returned (.int .i64 (tf.cmp t)) ∧ ∃ q : Past V, w'' = q.w := fun p => calls_past (compare_any tf t p.w)
  have u2 := fun p : Past V => (HB.out.1.past p.h HB.out.1.inside).at_ 0
  have u3 := fun p : Past V => (HB.out.1.past p.h HB.out.1.inside).at_ 1
  have u4 := fun p : Past V => (HB.out.1.past p.h HB.out.1.inside).at_ 2
  have u5 := fun p : Past V => (HB.out.1.past p.h HB.out.1.inside).at_ 3
  have u6 := fun p : Past V => (HVo.out.past p.h HVo.out.inside).at_ 0
  have u7 := fun p : Past V => (HVo.out.past p.h HVo.out.inside).at_ 1
  have u8 := fun p : Past V => (HVo.out.past p.h HVo.out.inside).at_ 2
  simp only [List.getElem?_cons_zero, List.getElem?_cons_succ] at u2 u3 u4 u5 u6 u7 u8
  obtain ⟨r, hr⟩ : ∃ r, tf.cmp t = r := ⟨_, rfl⟩
  rw [hr] at u1
  clear hr
  rcases hw with rfl | rfl
  · skip
    go_enter Tryz.func113, Tryz.ntmps113
    go_upto_region 1 with fail
    rw [← hV]
    clear hV
    refine wp_region_past V (by kernel_rfl) (by kernel_rfl) (Below.refl _ _) ?_
    repeat (first | go_big_quiet_step ((go_at_call 69; exact u1 _)) | quiet_step ((go_at_call 69; exact u1 _)))
    refine wpQuiet_nil ?_
    intro wz hw'
    obtain ⟨⟨wy, hbz⟩, hw''⟩ := hw'
    dsimp only at hw''
    subst hw''
    clear u1 u2 u3 u4 u5 u6 u7 u8 c0 c1 c2 c3 f0 f1 f2 f3 d0 d1 d2 hX
    have hbig := HB.out.1.past hbz HB.out.1.inside
    have hvo := HVo.out.past hbz HVo.out.inside
    obtain ⟨X, hX, hxo, hxk, hxs⟩ := own_fourP hbig (.int .u64 (tf.e : Int)) (.int .u64 (tf.a : Int)) (.int .u64 (tf.b : Int)) (.int .i64 10)
    have HX := Lib.hid (And.intro hxo (PKeep.after HB.out.2 (PKeep.after hbz hxk)))
    have f0 := hbig.open_ 0
    have f1 := hbig.open_ 1
    have f2 := hbig.open_ 2
    have f3 := hbig.open_ 3
    have c0 := hbig.at_ 0
    have c1 := hbig.at_ 1
    have c2 := hbig.at_ 2
    have c3 := hbig.at_ 3
    have d0 := hvo.at_ 0
    have d1 := hvo.at_ 1
    have d2 := hvo.at_ 2
    simp only [List.getElem?_cons_zero, List.getElem?_cons_succ] at c0 c1 c2 c3 d0 d1 d2
    clear hbig hvo hxo hxk hxs hbz
    go_wp2_with fail
    rw [← hX]
    exact bodyPost_end (results_none rfl _ _ _) rfl ⟨rfl, tf, HX.out.1, HX.out.2⟩
  · by_cases hr0 : r < 0
    · have t1 : decide (r < 0) = true := decide_eq_true hr0
      clear hr0
      go_enter Tryz.func113, Tryz.ntmps113
      go_upto_region 1 with fail
      rw [← hV]
      clear hV
      refine wp_region_past V (by kernel_rfl) (by kernel_rfl) (Below.refl _ _) ?_
      repeat (first | go_big_quiet_step ((go_at_call 69; exact u1 _)) | quiet_step ((go_at_call 69; exact u1 _)))
      refine wpQuiet_nil ?_
      intro wz hw'
      obtain ⟨⟨wy, hbz⟩, hw''⟩ := hw'
      dsimp only at hw''
      subst hw''
      clear u1 u2 u3 u4 u5 u6 u7 u8 c0 c1 c2 c3 f0 f1 f2 f3 d0 d1 d2 hX
      have hbig := HB.out.1.past hbz HB.out.1.inside
      have hvo := HVo.out.past hbz HVo.out.inside
      obtain ⟨X, hX, hxo, hxk, hxs⟩ := own_fourP hbig (.int .u64 (tf.e : Int)) (.int .u64 (tf.a : Int)) (.int .u64 (tf.b : Int)) (.int .i64 10)
      have HX := Lib.hid (And.intro hxo (PKeep.after HB.out.2 (PKeep.after hbz hxk)))
      have f0 := hbig.open_ 0
      have f1 := hbig.open_ 1
      have f2 := hbig.open_ 2
      have f3 := hbig.open_ 3
      have c0 := hbig.at_ 0
      have c1 := hbig.at_ 1
      have c2 := hbig.at_ 2
      have c3 := hbig.at_ 3
      have d0 := hvo.at_ 0
      have d1 := hvo.at_ 1
      have d2 := hvo.at_ 2
      simp only [List.getElem?_cons_zero, List.getElem?_cons_succ] at c0 c1 c2 c3 d0 d1 d2
      clear hbig hvo hxo hxk hxs hbz
      go_wp2_with fail
      rw [← hX]
      exact bodyPost_end (results_none rfl _ _ _) rfl ⟨rfl, tf, HX.out.1, HX.out.2⟩
    · have t1 : decide (r < 0) = false := decide_eq_false hr0
      clear hr0
      go_enter Tryz.func113, Tryz.ntmps113
      go_upto_region 1 with fail
      rw [← hV]
      clear hV
      refine wp_region_past V (by kernel_rfl) (by kernel_rfl) (Below.refl _ _) ?_
      repeat (first | go_big_quiet_step ((go_at_call 69; exact u1 _)) | quiet_step ((go_at_call 69; exact u1 _)))
      refine wpQuiet_nil ?_
      intro wz hw'
      obtain ⟨⟨wy, hbz⟩, hw''⟩ := hw'
      dsimp only at hw''
      subst hw''
      clear u1 u2 u3 u4 u5 u6 u7 u8 c0 c1 c2 c3 f0 f1 f2 f3 d0 d1 d2 hX
      have HX := Lib.hid (And.intro (HB.out.1.past hbz HB.out.1.inside) (PKeep.of_quiet (PB := PB) (v := .slice none 0 0) (HB.out.2.trans (hbz.mono HB.out.2.size))))
      clear hbz
      go_wp2_with fail
      exact bodyPost_end (results_none rfl _ _ _) rfl ⟨rfl, t, HX.out.1, HX.out.2⟩
end Go.Proofs.YtllpfngmnccejaaGreat
namespace Go.Proofs.YtllpfngmnccejaaGreat
open Go Go.RowKit

theorem pk_grown {w w' : World} {v : Value} {PB : Nat} (h : w.grownBy w' v.ownBlock) : PKeep w w' PB v := ⟨h.os, h.tape, h.output, h.size, fun k hk _ hne => h.block k hk fun e => hne e.symm⟩
theorem pk_set (w : World) (PB i : Nat) (x v : Value) : PKeep w (w.setCell ⟨PB, i, none⟩ x) PB v := ⟨rfl, rfl, rfl, by simp [World.setCell], fun k _ hk _ => Below.heap_setCell w ⟨PB, i, none⟩ x k hk⟩
theorem grown_set (w : World) (PB i : Nat) (x : Value) : w.grownBy (w.setCell ⟨PB, i, none⟩ x) (some PB) := ⟨rfl, rfl, rfl, by simp [World.setCell], fun k _ hk => Below.heap_setCell w ⟨PB, i, none⟩ x k fun e => hk (by rw [e])⟩
theorem PKeep.wide {w w' : World} {PB : Nat} (v : Value) (h : PKeep w w' PB (.slice none 0 0)) : PKeep w w' PB v := ⟨h.os, h.tape, h.output, h.size, fun k hk h1 _ => h.block k hk h1 (by simp [Value.ownBlock])⟩
theorem PKeep.grown {w w' : World} {PB : Nat} (h : PKeep w w' PB (.slice none 0 0)) : w.grownBy w' (some PB) := ⟨h.os, h.tape, h.output, h.size, fun k hk h1 => h.block k hk (fun e => h1 (by rw [e])) (by simp [Value.ownBlock])⟩
/-- one more update, or a failure -/
def ProdSays (PB : Nat) (why : Int) (v : Value) (M : List Up) (u : Up) (x : Int) (w : World) (e : Ending) (w' : World) : Prop :=
  e = .returned (.tuple #[]) ∧ ∃ t' v', Prod w' PB t' (if x = 0 then why else 10) v' (if x = 0 then M ++ [u] else M) ∧ PKeep w w' PB v ∧ Grew w v v'
set_option maxRecDepth 100000 in
set_option maxHeartbeats 6400000 in
theorem produce_any (PB : Nat) (t : Tm) (why : Int) (v : Value) (M : List Up) (u : Up) (x : Int) (w : World) (h : Prod w PB t why v M) (hw : why = 0 ∨ why = 10) (hu : UIn w w.heap.size u) (ok : UOk u) (ha : Aw PB v u) (hn : M.length ≤ 1099511627776) :
    Calls Tryz.prog 65 #[.pointer (some ⟨PB, 0, none⟩), u.val, .int .i64 x] w (ProdSays PB why v M u x w) := by
  obtain ⟨i0, hi, hz0, hz1, hz2⟩ := info_parts infoUp
  have hU := Tryz.underlying22
  obtain ⟨V, hV, hvb, hvs, hvo⟩ := upbox w u
  have hP := h.quiet hvb
  rw [show u.val = .agg #[.slice u.kA u.key.length u.kc, .slice u.rA u.row.length u.rc, .int .u64 (u.t.e : Int), .int .u64 (u.t.a : Int), .int .u64 (u.t.b : Int), .int .i64 u.d] from rfl]
  have HP := Lib.hid (And.intro hP (And.intro hvb (And.intro hvo hvs)))
  have HU := Lib.hid (And.intro hu (And.intro ok (And.intro ha h)))
  obtain ⟨e0, e1, e2, e3, e4, e5⟩ := own6 hvo
  clear h hu ok ha hvb hvs hvo hP
  by_cases hx : x = 0
  · have t1 : (x != 0) = false := by simp [hx]
    have HX := Lib.hid hx
    clear hx
    have c4 := HP.out.1.own.at_ 4
    have hlt := HP.out.1.own.inside
    simp only [List.getElem?_cons_zero, List.getElem?_cons_succ] at c4
    have hne : v.ownBlock ≠ some PB := fun e => by have := (HP.out.1.later _ e).1; omega
    have hsz : PB + 1 ≤ V.heap.size := hlt
    go_enter Tryz.func65, Tryz.ntmps65
    go_upto_region 1 with fail
    rw [← hV]
    clear hV
    go_upto_region 3 with fail
    go_region_law (refine step_append_lies (size := 6) (cells := Up.cells) (l := [u]) (B := V.heap.size + 1) _ rfl (.tmp 18) (.tmp 20) 22 48 rfl i0 _ 80 hU hi hz0 hz1 hz2 rfl (by decide) (fun _ => rfl) ucells_one (PB + 1) v M.length _ rfl (HP.out.1.row.alloc _).drew 1 V.heap.size 0 (by simp [Act.eval, Act.put]) (up_made _ u) (by unfold maxLen; simp; omega) (by simp; omega) (by simp; omega) ?_; intro v2 w2 ho2 hb2 hv2 hg2; obtain ⟨A2, c2, rfl, hA2, hm2, hL2⟩ := lies_of_own (size := 6) (cells := Up.cells) (l := M ++ [u]) (n := M.length + [u].length) (by decide) ucells_len (by rw [List.length_append]) (by rw [List.flatMap_append]; exact ho2); have hp2 := (HP.out.1.own.more (.cells #[.slice u.kA u.key.length u.kc, .slice u.rA u.row.length u.rc, .int .u64 (u.t.e : Int), .int .u64 (u.t.a : Int), .int .u64 (u.t.b : Int), .int .i64 u.d] 48)).kept (hg2.block PB (by simp; omega) (fun e => hne e.symm)); have f4 := hp2.open_ 4; have c4' := hp2.at_ 4; simp only [List.getElem?_cons_zero, List.getElem?_cons_succ] at c4')
    all_goals
      have hpk : PKeep w w2 PB v := PKeep.after HP.out.2.1 (PKeep.after ((Below.refl _ _).alloc (Nat.le_refl _) _) (PKeep.after ((Below.refl _ _).drew) (pk_grown hg2)))
      have hgr : Grew w v (.slice A2 (M ++ [u]).length c2) := by
        rcases hv2 with e | e
        · exact .inl e
        · exact .inr ⟨_, e, by have := HP.out.2.2.2; simp; omega⟩
      have hne2 : (Value.slice A2 (M ++ [u]).length c2).ownBlock ≠ some PB := fun e => by have := (ho2.lt _ e).1; omega
      have HF := Lib.hid (And.intro ho2 (And.intro hp2 (And.intro hpk (And.intro hgr hne2))))
      clear ho2 hb2 hv2 hg2 hp2 hpk hgr hne2 hL2
      go_wp2_with fail
      obtain ⟨g1, g2, g3, g4, g5⟩ := HF.out
      have hl1 : (M ++ [u]).length = M.length + 1 := by simp
      rw [hl1] at g1 g4 g5
      have hpk' := g3.trans g4 (pk_set w2 PB 4 (.slice A2 (M.length + 1) c2) (.slice A2 (M.length + 1) c2))
      refine bodyPost_end (results_none rfl _ _ _) rfl ⟨rfl, t, .slice A2 (M.length + 1) c2, ?_, hpk', g4⟩
      rw [if_pos HX.out, if_pos HX.out]
      refine ⟨OwnP.set_ g2 4 _, ?_, fun y hy => ?_, HU.out.2.2.2.zero⟩
      · rw [List.flatMap_append, List.length_append]
        exact g1.kept (grown_set w2 PB 4 _) (.inr g5)
      · rcases List.mem_append.1 hy with hy | hy
        · obtain ⟨h1, h2, h3⟩ := HU.out.2.2.2.each_ y hy
          exact ⟨uin_pk h1 h3 hpk', h2, h3.grew h1 g4⟩
        · obtain rfl : y = u := by simpa using hy
          exact ⟨uin_pk HU.out.1 HU.out.2.2.1 hpk', HU.out.2.1, HU.out.2.2.1.grew HU.out.1 g4⟩
  · have t1 : (x != 0) = true := bne_iff_ne.2 hx
    have HX := Lib.hid hx
    clear hx
    have u1 := fun (W : World) (hW : Below V.heap.size V W) => Lib.hid (failL_any PB t why v u.t W (HP.out.1.own.past hW HP.out.1.own.inside) hw)
    unfold FailSays at u1
    have hself : Below V.heap.size V V.drew := (Below.refl _ _).drew
    clear hw
    go_enter Tryz.func65, Tryz.ntmps65
    go_upto_region 1 with fail
    rw [← hV]
    clear hV
    go_upto_region 2 with fail
    go_region_with (go_at_call 113; refine (u1 _ hself).out.mono ?_; rintro _ w2 ⟨rfl, t2, ho2, hk2⟩)
    all_goals
      have HF := Lib.hid (And.intro ho2 (PKeep.after HP.out.2.1 (PKeep.after (Below.refl _ _).drew (hk2.wide v))))
      have HG := Lib.hid (PKeep.after (Below.refl _ _).drew hk2 : PKeep V w2 PB (.slice none 0 0))
      clear ho2 hk2
      go_wp2_with fail
      refine bodyPost_end (results_none rfl _ _ _) rfl ⟨rfl, t2, v, ?_, HF.out.2, Grew.same⟩
      rw [if_neg HX.out, if_neg HX.out]
      have hne : v.ownBlock ≠ some PB := fun e => by have := (HP.out.1.later _ e).1; omega
      refine ⟨HF.out.1, HP.out.1.row.kept HG.out.grown (.inr hne), fun y hy => ?_, fun e => by omega⟩
      obtain ⟨h1, h2, h3⟩ := HU.out.2.2.2.each_ y hy
      exact ⟨uin_pk h1 h3 HF.out.2, h2, h3⟩
end Go.Proofs.YtllpfngmnccejaaGreat
namespace Go.Proofs.YtllpfngmnccejaaGreat
open Go Go.RowKit

/-- a slice at A of as many numbers as l has reads as l; it lies below block B -/
def Ints (w : World) (B : Nat) (A : Option Addr) (l : List Int) : Prop :=
  0 < l.length → ∃ b o, A = some ⟨b, o, none⟩ ∧ b < B ∧ ∀ (i : Nat) (n : Int), l[i]? = some n → w.cell? ⟨b, o + i, none⟩ = some (.int .i64 n)
section
variable {w w' : World} {B B' b o : Nat} {A : Option Addr} {l : List Int}
theorem Ints.past (h : Ints w B A l) (hb : Below B' w w') (hB : B ≤ B') : Ints w' B A l := fun hn => by
  obtain ⟨b, o, e, hlt, hc⟩ := h hn
  exact ⟨b, o, e, hlt, fun i n hi => (hb.cell (p := ⟨b, o + i, none⟩) (show b < B' by omega)).trans (hc i n hi)⟩
theorem Ints.wide (h : Ints w B A l) (hB : B ≤ B') : Ints w B' A l := fun hn => by
  obtain ⟨b, o, e, hlt, hc⟩ := h hn
  exact ⟨b, o, e, by omega, hc⟩
theorem Ints.nil_ : Ints w B A [] := fun h => absurd h (by simp)
end
theorem ints_keep {a b : World} {A : Option Addr} {l : List Int} (h : Ints a a.heap.size A l) (hb : Below a.heap.size a b) : Ints b b.heap.size A l := (h.past hb (Nat.le_refl _)).wide hb.size
/-- all of them fit a word -/
def Fit64 (l : List Int) : Prop := ∀ n ∈ l, -9223372036854775808 ≤ n ∧ n ≤ 9223372036854775807
end Go.Proofs.YtllpfngmnccejaaGreat
namespace Go.Proofs.YtllpfngmnccejaaGreat
open Go Go.RowKit

theorem take_bound {l : List Int} (h : Fit64 l) (hn : l.length ≤ 9223372036854775807) (k : Nat) : -170141183460469231731687303715884105728 ≤ (l.take k).sum ∧ (l.take k).sum < 170141183460469231731687303715884105728 := by
  have h1 := sum_bound (l.take k) fun n hn => h n (List.mem_of_mem_take hn)
  have h2 : (l.take k).length ≤ l.length := List.length_take_le' ..
  omega
set_option maxRecDepth 100000 in
set_option maxHeartbeats 1600000 in
theorem sum_any (A : Option Addr) (c : Nat) (l : List Int) (w : World) (hl : Ints w w.heap.size A l) (hn : l.length ≤ maxLen) (hs : Fit64 l) :
    Calls Tryz.prog 267 #[.slice A l.length c] w fun e w' => e = .returned (.tuple #[.int .i64 (fitN l.sum), .int .i64 (fitE l.sum)]) ∧ Below w.heap.size w w' := by
  have htb := Lib.hid (take_bound hs (by unfold maxLen at hn; omega) l.length)
  unfold maxLen at hn
  have Hl := Lib.hid (And.intro hl hs)
  clear hl hs
  have hof := fun n W h1 h2 => Lib.hid (of_any n W h1 h2)
  have hadd := fun S T g W h => Lib.hid (add_any S T g W h)
  have hnum := fun S W h1 h2 => Lib.hid (number_any S W h1 h2)
  go_enter Tryz.func267, Tryz.ntmps267
  go_wp2_with fail
  go_loopw [9] (fun i wr => ∃ k : Nat, i = .int .i64 (k : Int) ∧ k ≤ l.length ∧ Below w.heap.size w wr ∧ Own wr w.heap.size 107 [.int .u64 (hiW (l.take k).sum), .int .u64 (loW (l.take k).sum)])
    (fun i _ => l.length - (intOf i).toNat)
  case atStart => exact ⟨0, rfl, by omega, (Below.refl _ _).alloc (Nat.le_refl _) _, Own.made w _ _⟩
  case round =>
    obtain ⟨k, rfl, hk, hb, ho⟩ := hrel
    by_cases hlt : k < l.length
    · have hx : l[k]? = some l[k] := List.getElem?_eq_getElem hlt
      obtain ⟨b, o, rfl, hB, hl⟩ := Hl.out.1 (by omega)
      have c0 := (hb.cell (p := ⟨b, o + k, none⟩) hB).trans (hl k _ hx)
      obtain ⟨h1, h2⟩ := Hl.out.2 _ (List.mem_of_getElem? hx)
      have hsn := sum_snoc l k _ hx
      generalize l[k] = n at *
      have HH := Lib.hid (And.intro hb (And.intro ho hsn))
      clear hb ho hl hx hsn
      go_wp2_with fail
      refine (hof n _ h1 h2).out.mono ?_
      rintro e w1 ⟨rfl, b1⟩
      have H1 := Lib.hid b1
      clear b1
      go_wp2_with fail
      refine (hadd (l.take k).sum n w.heap.size _ (HH.out.2.1.past H1.out HH.out.2.1.inside)).out.mono ?_
      rintro e w2 ⟨rfl, o2, b2⟩
      have H2 := Lib.hid (And.intro o2 b2)
      clear o2 b2
      go_wp2_with fail
      go_roundw
      case rel =>
        obtain ⟨hb, ho, hsn⟩ := HH.out
        exact ⟨k + 1, by go_num, by omega, (hb.trans (H1.out.mono hb.size)).trans (H2.out.2 _ (Nat.le_refl _)), own_of H2.out.1 (by rw [hsn])⟩
      case measure => simp [intOf]; omega
    · have hk2 : k = l.length := by omega
      subst hk2
      have c0 := ho.at_ 0
      have c1 := ho.at_ 1
      rw [List.take_length] at c0 c1
      simp only [List.getElem?_cons_zero, List.getElem?_cons_succ] at c0 c1
      have HH := Lib.hid hb
      have HT := htb.out
      rw [List.take_length] at HT
      have HT := Lib.hid HT
      clear hb ho
      go_wp2_with fail
      refine (hnum l.sum _ HT.out.1 HT.out.2).out.mono ?_
      rintro e w3 ⟨rfl, b3⟩
      go_wp2_with fail
      go_ret2
      exact ⟨rfl, HH.out.trans (b3.mono HH.out.size)⟩
end Go.Proofs.YtllpfngmnccejaaGreat
namespace Go.Proofs.YtllpfngmnccejaaGreat
open Go Go.RowKit

section
variable {P : Program} {ops : Array Oper} {md : Region.Mode} {C : World → Prop}
def wpAnyT (P : Program) (md : Region.Mode) (ops : Array Oper) (C : World → Prop) (n : Nat) (L : Array Bool → Act → Prop) : Nat → Array Bool → Act → Prop
  | 0, listed, a => L listed a
  | f + 1, listed, a =>
    Region.ready md ops listed ≠ [] ∧ ∀ i ∈ Region.ready md ops listed, i < n ∧ qOp P ops C i (wpAnyT P md ops C n L f (listed.setIfInBounds i true)) a
theorem wpAny_of_headT {n g : Nat} {L : Array Bool → Act → Prop} {Q' : Exit → Act → World → Prop} (hL : ∀ listed a w, C w → L listed a → wpAny P md ops Q' g listed a w) :
    ∀ (f : Nat) (listed : Array Bool) (a : Act) (w : World), C w → wpAnyT P md ops C n L f listed a → wpAny P md ops Q' (f + g) listed a w
  | 0, listed, a, w, hw, h => by rw [Nat.zero_add]; exact hL _ _ _ hw h
  | f + 1, listed, a, w, hw, h => by
    rw [show f + 1 + g = (f + g) + 1 by omega]
    exact ⟨fun h0 => absurd h0 h.1, fun i hi => wpOp_of_qOp hw (fun a' w' hw' h' => wpAny_of_headT hL f _ a' w' hw' h') (h.2 i hi).2⟩
theorem wpAnyT_first {n i : Nat} {oi : Oper} {v : Value} {L : Array Bool → Act → Prop} (hi : ops[i]? = some oi) (hsel : ∀ (j : Nat) (o : Oper) cs b, ops[j]? = some o → o.op ≠ .select cs b)
    (hs : Region.sinkB md ops n = true) (hc : Region.chainB md ops n = true) (hn : n < ops.size) (hin : i < n)
    (hdone : ∀ listed a, L listed a → ∀ j ∈ Region.ready md ops listed, n ≤ j) :
    ∀ (f : Nat) (listed : Array Bool) (a : Act), HeadInv md ops n listed →
      (∀ j oj, ops[j]? = some oj → j ≠ i → listed.getD j true = false → (∀ e ∈ oj.after, Region.binds md e = true → e.on ≠ i) → oi.apart ops oj = true) →
      i ∈ Region.ready md ops listed → YieldsIn P ops C oi v a →
      wpAnyT P md ops C n L f (listed.setIfInBounds i true) (a.put oi.dst v) → wpAnyT P md ops C n L (f + 1) listed a := by
  intro f
  induction f with
  | zero =>
    intro listed a inv _ hr hy H
    have hun := (mem_ready.1 hr).1
    refine ⟨fun h => (by rw [h] at hr; cases hr), fun j hj => ?_⟩
    have hjn : j < n := by
      rcases Nat.lt_or_ge j n with h | h
      · exact h
      · exact absurd hj (tail_waits hs hc hn inv _ i rfl hin hun j h)
    refine ⟨hjn, ?_⟩
    by_cases hji : j = i
    · subst hji; exact hy.qOp hi H
    · have := hdone _ _ H j (ready_mono hj hji)
      omega
  | succ f ih =>
    intro listed a inv hfree hr hy H
    have hun := (mem_ready.1 hr).1
    refine ⟨fun h => (by rw [h] at hr; cases hr), fun j hj => ?_⟩
    have hjn : j < n := by
      rcases Nat.lt_or_ge j n with h | h
      · exact h
      · exact absurd hj (tail_waits hs hc hn inv _ i rfl hin hun j h)
    refine ⟨hjn, ?_⟩
    by_cases hji : j = i
    · subst hji; exact hy.qOp hi H
    · have h1 := (H.2 j (ready_mono hj hji)).2
      obtain ⟨hjun, oj, hoj, hall⟩ := mem_ready.1 hj
      have hnot : ∀ e ∈ oj.after, Region.binds md e = true → e.on ≠ i := fun e he hb heq => by
        have h1 := hall e he hb
        rw [heq, getD_both hun] at h1
        cases h1
      have h2 := qOp_put hoj (hfree j oj hoj hji hjun hnot) (fun cs b => hsel i oi cs b hi) (fun cs b => hsel j oj cs b hoj) hy h1
      have hfree' : ∀ k ok, ops[k]? = some ok → k ≠ i → (listed.setIfInBounds j true).getD k true = false →
          (∀ e ∈ ok.after, Region.binds md e = true → e.on ≠ i) → oi.apart ops ok = true := fun k ok hk hki hun hno => by
        refine hfree k ok hk hki ?_ hno
        by_cases hjk : j = k
        · subst hjk; exact hjun
        · rw [getD_set_ne true hjk] at hun; exact hun
      refine qOp_mono (fun a' h3 => ih (listed.setIfInBounds j true) a' (inv.set hj hjn) hfree' (ready_mono hr (Ne.symm hji)) h3.1 ?_) h2
      rw [Array.setIfInBounds_comm _ _ hji]
      exact h3.2
theorem wpAnyT_lex {n g : Nat} {Lq : Act → Prop} (hsel : Region.noSelect ops = true) (hs : Region.sinkB md ops n = true) (hc : Region.chainB md ops n = true) (hn : n < ops.size) :
    ∀ (l : List Oper) (k : Nat) (listed : Array Bool) (a : Act), (∀ j, j < l.length → l[j]? = ops[k + j]?) → k + l.length = n → HeadInv md ops n listed →
    Region.lexHead md ops g l.length k listed = true → wpQuiet P ops C Lq l a →
    wpAnyT P md ops C n (fun listed' a' => Region.seqB md ops g n listed' = true ∧ Lq a') l.length listed a
  | [], k, listed, a, _, hk, _, hB, h => by
    have : k = n := by simpa using hk
    subst this
    exact ⟨by simpa [Region.lexHead] using hB, h⟩
  | o :: l, k, listed, a, hl, hk, inv, hB, h => by
    have h0 : ops[k]? = some o := by simpa using (hl 0 (by simp)).symm
    simp only [List.length_cons, Region.lexHead, Bool.and_eq_true] at hB
    obtain ⟨⟨hr, hf⟩, hB'⟩ := hB
    have hkn : k < n := by simp only [List.length_cons] at hk; omega
    have hr' : k ∈ Region.ready md ops listed := by simpa using hr
    have hst : qOp P ops C k (wpQuiet P ops C Lq l) a := by unfold qOp; simp only [h0]; exact h
    obtain ⟨v, hy, hK⟩ := yieldsIn_of_qOp h0 hst
    exact wpAnyT_first h0 (Region.noSelect_spec hsel) hs hc hn hkn (fun listed' a' hL => seqB_ready hL.1) l.length listed a inv (Region.free_spec h0 hf) hr' hy
      (wpAnyT_lex hsel hs hc hn l (k + 1) _ _ (fun j hj => by have := hl (j + 1) (by simp; omega); simpa [Nat.add_assoc, Nat.add_comm 1 j] using this) (by simp only [List.length_cons] at hk; omega) (inv.set hr' hkn) hB' hK)
theorem wp_region_quiet_tail {id : Nat} {Q : Exit → Act → World → Prop} {a : Act} {w : World} {l : List Oper} (n : Nat) (hm : P.follows .mixedOrders = true) (hB : Region.lexTailB .any l.toArray n = true) (hC : C { w with drawn := w.drawn + 1 })
    (h : wpQuiet P l.toArray C (fun a' => ∀ w', C w' → wpList P l.toArray Q (l.drop n) a' w') (l.take n) a) : (Code.region id l.toArray true).wp P Q a w := by
  simp only [Region.lexTailB, Bool.and_eq_true, decide_eq_true_eq] at hB
  obtain ⟨⟨⟨⟨hsel, hn⟩, hs⟩, hc⟩, hlex⟩ := hB
  have hn' : n < l.length := by simpa using hn
  have htl : (l.take n).length = n := by simp; omega
  have hdl : (l.drop n).length = l.toArray.size - n := by simp
  have inv0 : HeadInv .any l.toArray n (Array.replicate l.toArray.size false) :=
    ⟨by simp, fun j oj _ hl => (by rw [getD_replicate_false] at hl; cases hl), fun t _ ht => getD_in (by simpa using ht) (getD_replicate_false _ _)⟩
  have H := wpAnyT_lex (md := .any) (g := l.toArray.size - n) hsel hs hc hn (l.take n) 0 _ a (fun j hj => by
    have hj' : j < n := by rw [htl] at hj; exact hj
    simp [hj']) (by simpa using htl) inv0 (by rw [htl]; exact hlex) h
  refine wp_region_any hm ?_
  have := wpAny_of_headT (Q' := Q) (g := l.toArray.size - n) (C := C) (fun listed a' w' hw' hL => by
    have := wpAny_of_seq (Q' := Q) (l.drop n) n listed a' w' (fun j => by simp) (by rw [hdl]; exact hL.1) (hL.2 w' hw')
    rwa [hdl] at this) _ _ _ _ hC H
  rw [htl, show n + (l.toArray.size - n) = l.toArray.size by omega] at this
  exact this
end
theorem wp_region_past_tail {P : Program} {id : Nat} {Q : Exit → Act → World → Prop} {a : Act} {w : World} {l : List Oper} (V : World) (n : Nat) (hm : P.follows .mixedOrders = true) (hB : Region.lexTailB .any l.toArray n = true) (hV : Below V.heap.size V w)
    (h : wpQuiet P l.toArray (fun w' => ∃ p : Past V, w' = p.w) (fun a' => ∀ w', (∃ p : Past V, w' = p.w) → wpList P l.toArray Q (l.drop n) a' w') (l.take n) a) : (Code.region id l.toArray true).wp P Q a w :=
  wp_region_quiet_tail (C := fun w' => ∃ p : Past V, w' = p.w) n hm hB ⟨⟨_, hV.drew⟩, rfl⟩ h
end Go.Proofs.YtllpfngmnccejaaGreat
namespace Go.Proofs.YtllpfngmnccejaaGreat
open Go Go.RowKit

/-- the product of two words, as two words -/
def mulHi (x y : Int) : Int := x * y / 18446744073709551616
def mulLo (x y : Int) : Int := x * y % 18446744073709551616
theorem hi_neg (n : Int) (h1 : -9223372036854775808 ≤ n) (h2 : n < 0) : hiW n = 18446744073709551615 := by unfold hiW; omega
theorem hi_pos (n : Int) (h1 : 0 ≤ n) (h2 : n ≤ 9223372036854775807) : hiW n = 0 := by unfold hiW; omega
theorem and_all (y : Int) (h0 : 0 ≤ y) (h1 : y < 18446744073709551616) : bits BinOp.and IntKind.u64 18446744073709551615 y = y := by
  have h := bits_and_u64_nat 18446744073709551615 y.toNat (by omega) (by omega)
  rw [Nat.and_comm, show (18446744073709551615 : Nat) = 2 ^ 64 - 1 from rfl, Nat.and_two_pow_sub_one_eq_mod, Int.toNat_of_nonneg h0] at h
  exact h.trans (by omega)
theorem and_none (y : Int) (h0 : 0 ≤ y) (h1 : y < 18446744073709551616) : bits BinOp.and IntKind.u64 0 y = 0 := by
  have h := bits_and_u64_nat 0 y.toNat (by omega) (by omega)
  rw [Nat.zero_and, Int.toNat_of_nonneg h0] at h
  exact h
theorem and_hi (n y : Int) (h1 : -9223372036854775808 ≤ n) (h2 : n ≤ 9223372036854775807) (h3 : 0 ≤ y) (h4 : y < 18446744073709551616) : bits BinOp.and IntKind.u64 (hiW n) y = if n < 0 then y else 0 := by
  split
  · rw [hi_neg n h1 (by assumption), and_all y h3 h4]
  · rw [hi_pos n (by omega) h2, and_none y h3 h4]
theorem lo_case (n : Int) (h1 : -9223372036854775808 ≤ n) (h2 : n ≤ 9223372036854775807) : loW n = if n < 0 then n + 18446744073709551616 else n := by unfold loW; split <;> omega
theorem mul_lo (a b : Int) (h1 : -9223372036854775808 ≤ a) (h2 : a ≤ 9223372036854775807) (h3 : -9223372036854775808 ≤ b) (h4 : b ≤ 9223372036854775807) : mulLo (loW a) (loW b) = loW (a * b) := by
  unfold mulLo
  show loW a * loW b % 18446744073709551616 = (a * b) % 18446744073709551616
  unfold loW
  rw [← Int.mul_emod]
theorem mul_hi (a b : Int) (h1 : -9223372036854775808 ≤ a) (h2 : a ≤ 9223372036854775807) (h3 : -9223372036854775808 ≤ b) (h4 : b ≤ 9223372036854775807) :
    IntKind.u64.wrap (mulHi (loW a) (loW b) - IntKind.u64.wrap (bits BinOp.and IntKind.u64 (hiW a) (loW b) + bits BinOp.and IntKind.u64 (hiW b) (loW a))) = hiW (a * b) := by
  obtain ⟨a1, a2⟩ := loW_bound a
  obtain ⟨b1, b2⟩ := loW_bound b
  rw [and_hi a _ h1 h2 b1 b2, and_hi b _ h3 h4 a1 a2, wrapU, wrapU]
  clear a1 a2 b1 b2
  unfold mulHi hiW
  rw [lo_case a h1 h2, lo_case b h3 h4]
  by_cases ha : a < 0 <;> by_cases hb : b < 0 <;> simp only [ha, hb, if_true, if_false]
  · rw [Int.add_mul, Int.mul_add, Int.mul_add]; generalize a * b = Q at *; omega
  · rw [Int.add_mul]; generalize a * b = Q at *; omega
  · rw [Int.mul_add]; generalize a * b = Q at *; omega
  · generalize a * b = Q at *; omega
theorem mul_bound (a b : Int) (h1 : -9223372036854775808 ≤ a) (h2 : a ≤ 9223372036854775807) (h3 : -9223372036854775808 ≤ b) (h4 : b ≤ 9223372036854775807) : -170141183460469231731687303715884105728 ≤ a * b ∧ a * b < 170141183460469231731687303715884105728 := by
  have h := Int.natAbs_mul a b
  have k := Nat.mul_le_mul (show a.natAbs ≤ 9223372036854775808 by omega) (show b.natAbs ≤ 9223372036854775808 by omega)
  rw [← h] at k
  generalize a * b = Q at *
  omega

set_option maxRecDepth 100000 in
set_option maxHeartbeats 1600000 in
theorem times_any (a b : Int) (w : World) (h1 : -9223372036854775808 ≤ a) (h2 : a ≤ 9223372036854775807) (h3 : -9223372036854775808 ≤ b) (h4 : b ≤ 9223372036854775807)
    (hmul : ∀ W, Calls Tryz.prog 184 #[.int .u64 (loW a), .int .u64 (loW b)] W fun e w' => e = .returned (.tuple #[.int .u64 (mulHi (loW a) (loW b)), .int .u64 (mulLo (loW a) (loW b))]) ∧ W = w') :
    Calls Tryz.prog 158 #[.int .i64 a, .int .i64 b] w fun e w' => e = .returned (.tuple #[.int .i64 (fitN (a * b)), .int .i64 (fitE (a * b))]) ∧ Below w.heap.size w w' := by
  have ea : IntKind.u64.wrap a = loW a := by rw [wrapU]; rfl
  have eb : IntKind.u64.wrap b = loW b := by rw [wrapU]; rfl
  rw [mul_lo a b h1 h2 h3 h4] at hmul
  have hmul := fun W => Lib.hid (hmul W)
  have hnum := Lib.hid (fun W => number_any (a * b) W (mul_bound a b h1 h2 h3 h4).1 (mul_bound a b h1 h2 h3 h4).2)
  have oa := fun W => Lib.hid (of_any a W h1 h2)
  have ob := fun W => Lib.hid (of_any b W h3 h4)
  have hfd : ∀ (x y : Int) (W : World), (Instr.field 107 (.agg #[.int .u64 x, .int .u64 y]) 0).run Tryz.prog W = .ok (.int .u64 x) W := fun _ _ _ => by kernel_rfl
  have hhi := mul_hi a b h1 h2 h3 h4
  generalize a * b = Q at *
  generalize mulHi (loW a) (loW b) = M at *
  clear h1 h2 h3 h4
  go_enter Tryz.func158, Tryz.ntmps158
  go_wp2_with fail
  refine (hmul _).out.mono ?_
  rintro e w1 ⟨rfl, rfl⟩
  go_wp2_with fail
  have fb := (Below.refl w.heap.size w).alloc (Nat.le_refl _) (.cells #[.int .u64 M, .int .u64 (loW Q)] 107)
  have f0 := Own.made w 107 [.int .u64 M, .int .u64 (loW Q)]
  have hV : ∃ V, V = w.alloc (.cells #[.int .u64 M, .int .u64 (loW Q)] 107) := ⟨_, rfl⟩
  obtain ⟨V, hV⟩ := hV
  rw [← hV] at fb ⊢
  rw [show w.alloc (.cells [.int .u64 M, .int .u64 (loW Q)].toArray 107) = V from hV.symm] at f0
  have c0 := fun p : Past V => (f0.past p.h f0.inside).at_ 0
  have HF := Lib.hid (And.intro fb f0)
  clear fb f0 hV
  simp only [List.getElem?_cons_zero] at c0
  refine wp_region_past_tail V 17 (by kernel_rfl) (by kernel_rfl) (Below.refl _ _) ?_
  simp only [List.take_succ_cons, List.take_zero, List.drop_succ_cons, List.drop_zero]
  repeat (quiet_step ((first | (go_at_call 62; exact calls_past (oa _).out) | (go_at_call 62; exact calls_past (ob _).out))))
  refine wpQuiet_nil ?_
  intro wq hw'
  obtain ⟨⟨wz, hbz⟩, hw''⟩ := hw'
  obtain rfl : wq = wz := hw''
  clear c0
  have f1 := HF.out.2.past hbz HF.out.2.inside
  have c0 := f1.at_ 0
  have c1 := f1.at_ 1
  have g0 := f1.open_ 0
  simp only [List.getElem?_cons_zero, List.getElem?_cons_succ] at c0 c1
  have H1 := Lib.hid (And.intro hbz f1)
  clear hbz f1
  go_wp2_with fail
  refine (hnum.out _).mono ?_
  rintro e w3 ⟨rfl, b3⟩
  go_wp2_with fail
  go_ret2
  obtain ⟨fb, f0⟩ := HF.out
  have k1 := fb.trans (H1.out.1.mono fb.size)
  exact ⟨rfl, (k1.setCell (p := ⟨w.heap.size, 0, none⟩) (Nat.le_refl _) _).trans (b3.mono (by simp; exact k1.size))⟩
end Go.Proofs.YtllpfngmnccejaaGreat
namespace Go.Proofs.YtllpfngmnccejaaGreat
open Go Go.RowKit

theorem mul64_any (a b : Int) (W : World) : Calls Tryz.prog 184 #[.int .u64 (loW a), .int .u64 (loW b)] W fun e w' => e = .returned (.tuple #[.int .u64 (mulHi (loW a) (loW b)), .int .u64 (mulLo (loW a) (loW b))]) ∧ W = w' := by
  obtain ⟨a1, a2⟩ := loW_bound a
  obtain ⟨b1, b2⟩ := loW_bound b
  have h := Tryz.bits_Mul64 (loW a).toNat (loW b).toNat (by omega) (by omega) W
  have e1 : (((loW a).toNat * (loW b).toNat / 18446744073709551616 : Nat) : Int) = mulHi (loW a) (loW b) := by
    unfold mulHi; rw [Int.natCast_ediv, Int.natCast_mul, Int.toNat_of_nonneg a1, Int.toNat_of_nonneg b1]; rfl
  have e2 : (((loW a).toNat * (loW b).toNat % 18446744073709551616 : Nat) : Int) = mulLo (loW a) (loW b) := by
    unfold mulLo; rw [Int.natCast_emod, Int.natCast_mul, Int.toNat_of_nonneg a1, Int.toNat_of_nonneg b1]; rfl
  rw [e1, e2, Int.toNat_of_nonneg a1, Int.toNat_of_nonneg b1] at h
  exact h.mono fun e w' ⟨he, hw⟩ => ⟨he, hw.symm⟩
theorem dtimes_any (a b : Int) (w : World) (h1 : -9223372036854775808 ≤ a) (h2 : a ≤ 9223372036854775807) (h3 : -9223372036854775808 ≤ b) (h4 : b ≤ 9223372036854775807) :
    Calls Tryz.prog 158 #[.int .i64 a, .int .i64 b] w fun e w' => e = .returned (.tuple #[.int .i64 (fitN (a * b)), .int .i64 (fitE (a * b))]) ∧ Below w.heap.size w w' := times_any a b w h1 h2 h3 h4 (mul64_any a b)
theorem ints_three {w : World} (a b c : Int) : Ints (w.alloc (.cells #[.int .i64 a, .int .i64 b, .int .i64 c] 2)) (w.alloc (.cells #[.int .i64 a, .int .i64 b, .int .i64 c] 2)).heap.size (some ⟨w.heap.size, 0, none⟩) [a, b, c] := fun _ => by
  refine ⟨_, _, rfl, by simp, fun i x hx => ?_⟩
  match i, hx with
  | 0, hx => obtain rfl : a = x := by simpa using hx
             simp [go_sem]
  | 1, hx => obtain rfl : b = x := by simpa using hx
             simp [go_sem]
  | 2, hx => obtain rfl : c = x := by simpa using hx
             simp [go_sem]
theorem ints_two {w : World} (a b : Int) : Ints (w.alloc (.cells #[.int .i64 a, .int .i64 b] 2)) (w.alloc (.cells #[.int .i64 a, .int .i64 b] 2)).heap.size (some ⟨w.heap.size, 0, none⟩) [a, b] := fun _ => by
  refine ⟨_, _, rfl, by simp, fun i x hx => ?_⟩
  match i, hx with
  | 0, hx => obtain rfl : a = x := by simpa using hx
             simp [go_sem]
  | 1, hx => obtain rfl : b = x := by simpa using hx
             simp [go_sem]

end Go.Proofs.YtllpfngmnccejaaGreat
namespace Go.Proofs.YtllpfngmnccejaaGreat
open Go Go.RowKit

/-- one update made of another one: with another row, or another number, or an error -/
def MadeSays (u : Up) (r : List Vl) (d e : Int) (w : World) (x : Ending) (w' : World) : Prop :=
  ∃ u' : Up, x = .returned (.tuple #[u'.val, .int .i64 e]) ∧ u'.row = r ∧ u'.t = u.t ∧ u'.d = d ∧ UIn w' w'.heap.size u' ∧ UOk u' ∧ (∀ Q : Nat → Prop, (∀ b, w.heap.size ≤ b → Q b) → Awn Q u → Awn Q u') ∧ Below w.heap.size w w'
theorem own_five {w : World} {P : Nat} {t : TypeId} {z0 z1 z2 z3 z4 z5 : Value} (h : Own w P t [z0, z1, z2, z3, z4, z5]) (f : Value) :
    ∃ X, X = w.setCell ⟨P, 5, none⟩ f ∧ Own X P t [z0, z1, z2, z3, z4, f] ∧ (∀ B u, Below B u w → B ≤ P → Below B u X) ∧ X.heap.size = w.heap.size ∧ (∀ Q t' l, Q ≠ P → Own w Q t' l → Own X Q t' l) :=
  ⟨_, rfl, h.set_ 5 f, fun B u hb hB => hb.setCell (p := ⟨P, 5, none⟩) hB _, by simp [World.setCell], fun Q t' l hQ ho => ho.other (p := ⟨P, 5, none⟩) (fun e => hQ e.symm) _⟩
theorem kbox (w : World) (k n a r : Int) (A1 A2 A3 A4 : Option Addr) (l1 l2 l3 l4 c1 c2 c3 c4 : Nat) (u : Up) :
    ∃ V, V = ((w.alloc (.cells #[.int .u8 k, .int .i64 n, .slice A1 l1 c1, .slice A2 l2 c2, .slice A3 l3 c3, .slice A4 l4 c4, .int .u8 a, .int .i64 r] 64)).alloc (.cells #[.slice u.kA u.key.length u.kc, .slice u.rA u.row.length u.rc, .int .u64 (u.t.e : Int), .int .u64 (u.t.a : Int), .int .u64 (u.t.b : Int), .int .i64 u.d] 48)).alloc (.cells #[.slice none 0 0, .slice none 0 0, .int .u64 0, .int .u64 0, .int .u64 0, .int .i64 0] 48) ∧
      Below w.heap.size w V ∧ V.heap.size = w.heap.size + 3 ∧ Own V w.heap.size 64 [.int .u8 k, .int .i64 n, .slice A1 l1 c1, .slice A2 l2 c2, .slice A3 l3 c3, .slice A4 l4 c4, .int .u8 a, .int .i64 r] ∧ Own V (w.heap.size + 1) 48 u.cells ∧ Own V (w.heap.size + 2) 48 [.slice none 0 0, .slice none 0 0, .int .u64 0, .int .u64 0, .int .u64 0, .int .i64 0] := by
  obtain ⟨W1, e1, s1, b1, o1⟩ := boxd w [.int .u8 k, .int .i64 n, .slice A1 l1 c1, .slice A2 l2 c2, .slice A3 l3 c3, .slice A4 l4 c4, .int .u8 a, .int .i64 r] 64
  obtain ⟨W2, e2, s2, b2, o2⟩ := boxd W1 u.cells 48
  obtain ⟨W3, e3, s3, b3, o3⟩ := boxd W2 [.slice none 0 0, .slice none 0 0, .int .u64 0, .int .u64 0, .int .u64 0, .int .i64 0] 48
  refine ⟨W3, by rw [e3, e2, e1]; rfl, belows (belows b1 b2) b3, by omega, (o1.past b2 o1.inside).past b3 (by omega), ?_, ?_⟩
  · have := o2.past b3 o2.inside
    rwa [s1] at this
  · rwa [s2, s1] at o3
theorem fitN_in (S : Int) : -9223372036854775808 ≤ fitN S ∧ fitN S ≤ 9223372036854775807 := by
  unfold fitN
  split
  · rename_i h; exact (fits_iff S).1 h
  · omega
set_option maxRecDepth 100000 in
set_option maxHeartbeats 3200000 in
theorem negated_any (k n a r : Int) (A1 A2 A3 A4 : Option Addr) (l1 l2 l3 l4 c1 c2 c3 c4 : Nat) (u : Up) (w : World) (hu : UIn w w.heap.size u) (ok : UOk u) :
    Calls Tryz.prog 112 #[.agg #[.int .u8 k, .int .i64 n, .slice A1 l1 c1, .slice A2 l2 c2, .slice A3 l3 c3, .slice A4 l4 c4, .int .u8 a, .int .i64 r], u.val] w (MadeSays u u.row (fitN (u.d * -1)) (fitE (u.d * -1)) w) := by
  obtain ⟨V, hV, hvb, hvs, hvp, hvu, hvz⟩ := kbox w k n a r A1 A2 A3 A4 l1 l2 l3 l4 c1 c2 c3 c4 u
  rw [show u.val = .agg #[.slice u.kA u.key.length u.kc, .slice u.rA u.row.length u.rc, .int .u64 (u.t.e : Int), .int .u64 (u.t.a : Int), .int .u64 (u.t.b : Int), .int .i64 u.d] from rfl]
  obtain ⟨e0, e1, e2, e3, e4, e5⟩ := own6 hvu
  have y1 := fun W => Lib.hid (dtimes_any u.d (-1) W ok.dn.1 ok.dn.2 (by omega) (by omega))
  have HV := Lib.hid (And.intro hvb (And.intro hvu (And.intro hvz (And.intro hu ok))))
  obtain ⟨N, hN⟩ : ∃ N, fitN (u.d * -1) = N := ⟨_, rfl⟩
  obtain ⟨E, hE⟩ : ∃ E, fitE (u.d * -1) = E := ⟨_, rfl⟩
  have hNb := fitN_in (u.d * -1)
  rw [hN] at hNb
  rw [hN, hE] at y1 ⊢
  have HN := Lib.hid hNb
  clear hu ok hvb hvs hvp hvu hvz hN hE hNb
  go_enter Tryz.func112, Tryz.ntmps112
  go_upto_region 1 with fail
  rw [← hV]
  clear hV
  go_wp2_with fail
  refine (y1 _).out.mono ?_
  rintro _ w1 ⟨rfl, b1⟩
  have hu1 := HV.out.2.1.past b1 HV.out.2.1.inside
  have hz1 := HV.out.2.2.1.past b1 HV.out.2.2.1.inside
  obtain ⟨X, hX, hXo, hXb, hXs, hXr⟩ := own_five hu1 (.int .i64 N)
  have hzX := hXr _ _ _ (by omega) hz1
  obtain ⟨Y, hY, hYo, hYb, hYs, hYh⟩ := own_six hzX (.slice u.kA u.key.length u.kc) (.slice u.rA u.row.length u.rc) (.int .u64 (u.t.e : Int)) (.int .u64 (u.t.a : Int)) (.int .u64 (u.t.b : Int)) (.int .i64 N)
  have hbY : Below w.heap.size w Y := hYb _ _ (hXb _ _ (HV.out.1.trans (b1.mono HV.out.1.size)) (by omega)) (by omega)
  have HY := Lib.hid (And.intro hYo hbY)
  have g5 := (own6 hu1).2.2.2.2.2
  have k5 := (own_frozen6 hu1).2.2.2.2.2
  obtain ⟨f0, f1, f2, f3, f4, f5⟩ := own6 hXo
  obtain ⟨z0, z1, z2, z3, z4, z5⟩ := own6 hzX
  obtain ⟨j0, j1, j2, j3, j4, j5⟩ := own_frozen6 hzX
  obtain ⟨x0, x1, x2, x3, x4, x5⟩ := own6 hYo
  clear e0 e1 e2 e3 e4 e5 hu1 hz1 hXo hXb hXs hXr hzX hYo hYb hYs hYh hbY b1 y1
  go_upto_region 3 with fail
  rw [← hX]
  clear hX
  go_wp2_with fail
  rw [← hY]
  clear hY
  exact bodyPost_ret (v := .tuple #[.agg #[.slice u.kA u.key.length u.kc, .slice u.rA u.row.length u.rc, .int .u64 (u.t.e : Int), .int .u64 (u.t.a : Int), .int .u64 (u.t.b : Int), .int .i64 N], .int .i64 E]) (by simp [results, Tryz.results112, go_sem, x0, x1, x2, x3, x4, x5]) rfl
    ⟨⟨u.kA, u.kc, u.key, u.rA, u.rc, u.row, u.t, N⟩, rfl, rfl, rfl, rfl, ⟨(HV.out.2.2.2.1.past HY.out.2 (Nat.le_refl _)).key.wide HY.out.2.size, (HV.out.2.2.2.1.past HY.out.2 (Nat.le_refl _)).row.wide HY.out.2.size⟩, ⟨HV.out.2.2.2.2.kn, HV.out.2.2.2.2.rn, HV.out.2.2.2.2.ks, HV.out.2.2.2.2.rs, HN.out⟩, fun Q _ h => h, HY.out.2⟩
set_option maxRecDepth 100000 in
set_option maxHeartbeats 3200000 in
theorem kept_any (k n a r : Int) (A1 A2 A3 A4 : Option Addr) (l1 l2 l3 l4 c1 c2 c3 c4 : Nat) (u : Up) (w : World) (hu : UIn w w.heap.size u) (ok : UOk u) :
    Calls Tryz.prog 111 #[.agg #[.int .u8 k, .int .i64 n, .slice A1 l1 c1, .slice A2 l2 c2, .slice A3 l3 c3, .slice A4 l4 c4, .int .u8 a, .int .i64 r], u.val] w (MadeSays u u.row u.d 0 w) := by
  obtain ⟨V, hV, hvb, hvs, hvp, hvu, hvz⟩ := kbox w k n a r A1 A2 A3 A4 l1 l2 l3 l4 c1 c2 c3 c4 u
  rw [show u.val = .agg #[.slice u.kA u.key.length u.kc, .slice u.rA u.row.length u.rc, .int .u64 (u.t.e : Int), .int .u64 (u.t.a : Int), .int .u64 (u.t.b : Int), .int .i64 u.d] from rfl]
  obtain ⟨e0, e1, e2, e3, e4, e5⟩ := own6 hvu
  have HV := Lib.hid (And.intro hvb (And.intro hu ok))
  obtain ⟨Y, hY, hYo, hYb, hYs, hYh⟩ := own_six hvz (.slice u.kA u.key.length u.kc) (.slice u.rA u.row.length u.rc) (.int .u64 (u.t.e : Int)) (.int .u64 (u.t.a : Int)) (.int .u64 (u.t.b : Int)) (.int .i64 u.d)
  have hbY : Below w.heap.size w Y := hYb _ _ hvb (by omega)
  have HY := Lib.hid (And.intro hYo hbY)
  obtain ⟨z0, z1, z2, z3, z4, z5⟩ := own6 hvz
  obtain ⟨j0, j1, j2, j3, j4, j5⟩ := own_frozen6 hvz
  obtain ⟨x0, x1, x2, x3, x4, x5⟩ := own6 hYo
  clear hu ok hvb hvs hvp hvu hvz hYo hYb hYs hYh hbY
  go_enter Tryz.func111, Tryz.ntmps111
  go_upto_region 1 with fail
  rw [← hV]
  clear hV
  go_wp2_with fail
  rw [← hY]
  clear hY
  exact bodyPost_ret (v := .tuple #[.agg #[.slice u.kA u.key.length u.kc, .slice u.rA u.row.length u.rc, .int .u64 (u.t.e : Int), .int .u64 (u.t.a : Int), .int .u64 (u.t.b : Int), .int .i64 u.d], .int .i64 0]) (by simp [results, Tryz.results111, go_sem, x0, x1, x2, x3, x4, x5]) rfl
    ⟨⟨u.kA, u.kc, u.key, u.rA, u.rc, u.row, u.t, u.d⟩, rfl, rfl, rfl, rfl, ⟨(HV.out.2.1.past HY.out.2 (Nat.le_refl _)).key.wide HY.out.2.size, (HV.out.2.1.past HY.out.2 (Nat.le_refl _)).row.wide HY.out.2.size⟩, HV.out.2.2, fun Q _ h => h, HY.out.2⟩
end Go.Proofs.YtllpfngmnccejaaGreat
namespace Go.Proofs.YtllpfngmnccejaaGreat
open Go Go.RowKit

/-- a slice at A of as many rows as L has reads as L; all of it lies below block B; each row takes fewer than 2^47 bytes -/
def RowsAt (w : World) (B : Nat) (A : Option Addr) (L : List (List Vl)) : Prop :=
  0 < L.length → ∃ b o, A = some ⟨b, o, none⟩ ∧ b < B ∧ ∀ (i : Nat) (l : List Vl), L[i]? = some l → ∃ A' c', w.cell? ⟨b, o + i, none⟩ = some (.slice A' l.length c') ∧ Vals w B A' l
section
variable {w w' : World} {B B' : Nat} {A : Option Addr} {L : List (List Vl)}
theorem RowsAt.past (h : RowsAt w B A L) (hb : Below B' w w') (hB : B ≤ B') : RowsAt w' B A L := fun hn => by
  obtain ⟨b, o, e, hlt, hc⟩ := h hn
  refine ⟨b, o, e, hlt, fun i l hi => ?_⟩
  obtain ⟨A', c', h1, h2⟩ := hc i l hi
  exact ⟨A', c', (hb.cell (p := ⟨b, o + i, none⟩) (show b < B' by omega)).trans h1, h2.past hb hB⟩
theorem RowsAt.wide (h : RowsAt w B A L) (hB : B ≤ B') : RowsAt w B' A L := fun hn => by
  obtain ⟨b, o, e, hlt, hc⟩ := h hn
  refine ⟨b, o, e, by omega, fun i l hi => ?_⟩
  obtain ⟨A', c', h1, h2⟩ := hc i l hi
  exact ⟨A', c', h1, h2.wide hB⟩
end
theorem rowsAt_keep {a b : World} {A : Option Addr} {L : List (List Vl)} (h : RowsAt a a.heap.size A L) (hb : Below a.heap.size a b) : RowsAt b b.heap.size A L := (h.past hb (Nat.le_refl _)).wide hb.size
/-- the lengths, added up -/
def lens (L : List (List Vl)) : Nat := (L.map List.length).sum
theorem lens_flat (L : List (List Vl)) : L.flatten.length = lens L := by simp [lens, List.length_flatten]
theorem lens_snoc {L : List (List Vl)} {k : Nat} {l : List Vl} (h : L[k]? = some l) : lens (L.take (k + 1)) = lens (L.take k) + l.length := by
  rw [List.take_add_one, h]; simp [lens]
theorem flat_snoc {L : List (List Vl)} {k : Nat} {l : List Vl} (h : L[k]? = some l) : (L.take (k + 1)).flatten = (L.take k).flatten ++ l := by
  rw [List.take_add_one, h]; simp
theorem lens_take : ∀ (L : List (List Vl)) (k : Nat), lens (L.take k) ≤ lens L
  | [], k => by simp [lens]
  | l :: L, 0 => by simp [lens]
  | l :: L, k + 1 => by
    have := lens_take L k
    unfold lens at *
    simp only [List.take_succ_cons, List.map_cons, List.sum_cons]
    omega
end Go.Proofs.YtllpfngmnccejaaGreat
namespace Go.Proofs.YtllpfngmnccejaaGreat
open Go Go.RowKit

theorem zero_size (z : Array Value) (n : Nat) : (Builtin.zeroCells z n).size = n * z.size := by simp [Builtin.zeroCells]
theorem bytesVl : Tryz.t50.bytes = 32 := by kernel_rfl
set_option maxRecDepth 100000 in
set_option maxHeartbeats 1600000 in
theorem grow_any (n : Nat) (w : World) (hn : n * 32 ≤ 140737488355328) :
    Calls Tryz.prog 236 #[.slice none 0 0, .int .i64 (n : Int)] w fun e w' => ∃ v, e = .returned v ∧ w'.ownsRow w.heap.size 50 3 v 0 [] ∧ Below w.heap.size w w' := by
  by_cases h0 : n = 0
  · subst h0
    go_enter Tryz.func236, Tryz.ntmps236
    go_wp2_with fail
    go_ret
    exact ⟨_, rfl, World.ownsRow_nil _ _ _ _, Below.refl _ _⟩
  · have hp : 0 < n := by omega
    have t1 : decide (0 < (n : Int)) = true := by simp; omega
    have hge := grownCap_ge w n 0 50
    have hle := grownCap_le_maxLen w n 0 50 (by unfold maxLen; omega)
    have HG := Lib.hid (And.intro hge hle)
    have hb := bytesVl
    have hnx : Builtin.nextslicecap n 0 = n := by unfold Builtin.nextslicecap; simp; omega
    clear h0 hge hle
    go_enter Tryz.func236, Tryz.ntmps236
    go_wp2_with fail
    all_goals first
      | (exfalso; omega)
      | skip
    go_ret
    refine ⟨_, rfl, ?_, ((Below.refl w.heap.size w).alloc (Nat.le_refl _) _).drew⟩
    obtain ⟨hge, hle⟩ := HG.out
    exact World.ownsRow_made (base := w.heap.size) (e := 50) (size := 3) w _ (grownCap w n 0 50) (Nat.le_refl _) hle (by
      rw [Array.size_append, zero_size, zero_size]
      show n * 3 + (grownCap w n 0 50 - n) * 3 = _
      omega)

theorem lens_one {L : List (List Vl)} {k : Nat} {l : List Vl} (h : L[k]? = some l) : lens (L.take k) + l.length ≤ lens L := by
  rw [← lens_snoc h]; exact lens_take L (k + 1)
set_option maxRecDepth 100000 in
set_option maxHeartbeats 3200000 in
theorem concat_any (A : Option Addr) (c : Nat) (L : List (List Vl)) (w : World) (hl : RowsAt w w.heap.size A L) (hn : L.length ≤ maxLen) (hs : lens L ≤ 8) :
    Calls Tryz.prog 195 #[.slice A L.length c] w fun e w' => ∃ v, e = .returned v ∧ w'.ownsRow w.heap.size 50 3 v (lens L) (L.flatten.flatMap Vl.cells) ∧ Below w.heap.size w w' := by
  have Hl := Lib.hid hl
  unfold maxLen at hn
  have hgrow := fun W => Lib.hid (grow_any (lens L) W (by omega))
  clear hl
  go_enter Tryz.func195, Tryz.ntmps195
  go_wp2_with fail
  go_loopw [3, 11] (fun s i wr => ∃ k : Nat, i = .int .i64 (k : Int) ∧ s = .int .i64 ((lens (L.take k) : Nat) : Int) ∧ k ≤ L.length ∧ Below w.heap.size w wr)
    (fun _ i _ => L.length - (intOf i).toNat)
  case atStart => exact ⟨0, rfl, rfl, by omega, Below.refl _ _⟩
  case round =>
    obtain ⟨k, rfl, rfl, hk, hb⟩ := hrel
    by_cases hlt : k < L.length
    · have hx : L[k]? = some L[k] := List.getElem?_eq_getElem hlt
      obtain ⟨b, o, rfl, hB, hl⟩ := Hl.out (by omega)
      obtain ⟨A', c', hc, hv⟩ := hl k _ hx
      have c0 := (hb.cell (p := ⟨b, o + k, none⟩) hB).trans hc
      have hsn := lens_snoc hx
      have hon := lens_one hx
      generalize L[k] = l at *
      generalize lens (L.take k) = m at *
      have HH := Lib.hid (And.intro hb hsn)
      clear hb hl hx hsn hc hv
      go_wp2_with fail
      go_roundw
      case rel => exact ⟨k + 1, by go_num, by rw [HH.out.2]; go_num, by omega, HH.out.1⟩
      case measure => simp [intOf]; omega
    · have hk2 : k = L.length := by omega
      subst hk2
      rw [List.take_length]
      have HH := Lib.hid hb
      clear hb
      go_wp2_with fail
      refine (hgrow _).out.mono ?_
      rintro e w1 ⟨v1, rfl, o1, b1⟩
      have hw1 := HH.out.trans (b1.mono HH.out.size)
      have o1' := o1.mono HH.out.size
      have H1 := Lib.hid (And.intro o1' hw1)
      clear o1 o1' b1 hw1 hgrow
      go_wp2_with fail
      go_loopw [6, 27] (fun v i w2 => ∃ k : Nat, i = .int .i64 (k : Int) ∧ k ≤ L.length ∧ w2.ownsRow w.heap.size 50 3 v (lens (L.take k)) ((L.take k).flatten.flatMap Vl.cells) ∧ Below w.heap.size w w2)
        (fun _ i _ => L.length - (intOf i).toNat)
      case atStart => exact ⟨0, rfl, by omega, H1.out.1, H1.out.2⟩
      case round =>
        obtain ⟨k, rfl, hk', hown, hb2⟩ := hrel
        by_cases hlt' : k < L.length
        · have hx : L[k]? = some L[k] := List.getElem?_eq_getElem hlt'
          obtain ⟨b, o, rfl, hB, hl⟩ := Hl.out (by omega)
          obtain ⟨A', c', hc, hv⟩ := hl k _ hx
          have c0 := (hb2.cell (p := ⟨b, o + k, none⟩) hB).trans hc
          have hvv := hv.past hb2 (Nat.le_refl _)
          have hsn := lens_snoc hx
          have hon := lens_one hx
          have hfs := flat_snoc hx
          generalize L[k] = l at *
          have HV := Lib.hid (And.intro hvv (And.intro hown (And.intro hb2 (And.intro hsn hfs))))
          clear hl hx hsn hfs hc hv hvv hown hb2
          go_wp2_with (at_builtin; refine wpList_append_vl _ rfl (.tmp 31) (.tmp 32) rfl w.heap.size _ _ _ rfl HV.out.2.1 w.heap.size A' c' l rfl HV.out.1 ?c1 ?c2 ?_)
          case c1 => omega
          case c2 => exact HV.out.2.2.1.size
          intro v' w' ho' hb'
          rw [← List.flatMap_append] at ho'
          have H2 := Lib.hid (And.intro ho' (HV.out.2.2.1.trans hb'))
          clear ho' hb'
          go_wp2_with fail
          go_roundw
          case rel => exact ⟨k + 1, by go_num, by omega, by rw [HV.out.2.2.2.1, HV.out.2.2.2.2]; exact H2.out.1, H2.out.2⟩
          case measure => simp [intOf]; omega
        · have hk3 : k = L.length := by omega
          subst hk3
          rw [List.take_length] at hown
          have H2 := Lib.hid (And.intro hown hb2)
          clear hown hb2
          go_wp2_with fail
          go_ret
          exact ⟨_, rfl, H2.out.1, H2.out.2⟩
end Go.Proofs.YtllpfngmnccejaaGreat
namespace Go.Proofs.YtllpfngmnccejaaGreat
open Go Go.RowKit

/-- whether all rows are right; what their join is, and why there is none -/
def okRows (L : List (List Vl)) : Bool := L.all fun l => decide (chkRow l = 0)
def joinE (L : List (List Vl)) : Int := if okRows L then (if lens L ≤ 8 then 0 else 2) else 4
def joinL (L : List (List Vl)) : List Vl := if okRows L && decide (lens L ≤ 8) then L.flatten else []
theorem chk_two (l : List Vl) : chkRow l = 0 ∧ l.length ≤ 8 ∨ chkRow l = 4 := by
  unfold chkRow
  by_cases h : (l.all Vl.right && decide (l.length ≤ 8)) = true
  · rw [if_pos h]; simp only [Bool.and_eq_true, decide_eq_true_eq] at h; exact .inl ⟨rfl, h.2⟩
  · rw [if_neg h]; exact .inr rfl
theorem okRows_snoc {L : List (List Vl)} {k : Nat} {l : List Vl} (h : L[k]? = some l) : okRows (L.take (k + 1)) = (okRows (L.take k) && decide (chkRow l = 0)) := by
  unfold okRows; rw [List.take_add_one, h]; simp
theorem okRows_bad {L : List (List Vl)} {k : Nat} {l : List Vl} (h : L[k]? = some l) (hc : chkRow l = 4) : okRows L = false := by
  cases ho : okRows L with
  | false => rfl
  | true =>
    have := List.all_eq_true.1 ho l (List.mem_of_getElem? h)
    rw [hc] at this; simp at this
theorem okRows_len {L : List (List Vl)} {k : Nat} {l : List Vl} (ho : okRows L = true) (h : L[k]? = some l) : l.length ≤ 8 := by
  have := List.all_eq_true.1 ho l (List.mem_of_getElem? h)
  rcases chk_two l with h1 | h1
  · exact h1.2
  · rw [h1] at this; simp at this
/-- what a join hands back -/
def JoinPost (L : List (List Vl)) (w : World) (e : Ending) (w' : World) : Prop :=
  ∃ v, e = .returned (.tuple #[v, .int .i64 (joinE L)]) ∧ w'.ownsRow w.heap.size 50 3 v (joinL L).length ((joinL L).flatMap Vl.cells) ∧ Below w.heap.size w w'
theorem join_none {L : List (List Vl)} {w w' : World} {c : Int} (hE : joinE L = c) (hL : joinL L = []) (hb : Below w.heap.size w w') : JoinPost L w (.returned (.tuple #[.slice none 0 0, .int .i64 c])) w' :=
  ⟨_, by rw [hE], by rw [hL]; exact World.ownsRow_nil _ _ _ _, hb⟩
theorem VOk_all {L : List (List Vl)} (h : ∀ l ∈ L, ∀ v ∈ l, VOk v) {k : Nat} {l : List Vl} (hx : L[k]? = some l) : ∀ v ∈ l, v.s.size ≤ maxLen := fun v hv => (h l (List.mem_of_getElem? hx) v hv).1

set_option maxRecDepth 100000 in
set_option maxHeartbeats 3200000 in
theorem join_any (A : Option Addr) (c : Nat) (L : List (List Vl)) (w : World) (hl : RowsAt w w.heap.size A L) (hn : L.length ≤ 140737488355328) (hlen : ∀ l ∈ L, l.length ≤ maxLen) (hok : ∀ l ∈ L, ∀ v ∈ l, VOk v) :
    Calls Tryz.prog 161 #[.slice A L.length c] w (JoinPost L w) := by
  have hconc := fun W h hs => Lib.hid (concat_any A c L W h (by unfold maxLen; omega) hs)
  have hchk := fun A c l W h hn hs => Lib.hid (vcheck_any A c l W h hn hs)
  have Hl := Lib.hid (And.intro hl (And.intro hlen hok))
  clear hl hlen hok
  go_enter Tryz.func161, Tryz.ntmps161
  go_wp2_with fail
  go_loopw [4, 10] (fun s i wr => ∃ k : Nat, i = .int .i64 (k : Int) ∧ s = .int .i64 ((lens (L.take k) : Nat) : Int) ∧ k ≤ L.length ∧ lens (L.take k) ≤ 8 * k ∧ okRows (L.take k) = true ∧ Below w.heap.size w wr)
    (fun _ i _ => L.length - (intOf i).toNat)
  case atStart => exact ⟨0, rfl, rfl, by omega, by simp [lens], rfl, Below.refl _ _⟩
  case round =>
    obtain ⟨k, rfl, rfl, hk, h8, hokk, hb⟩ := hrel
    by_cases hlt : k < L.length
    · have hx : L[k]? = some L[k] := List.getElem?_eq_getElem hlt
      obtain ⟨b, o, rfl, hB, hl⟩ := Hl.out.1 (by omega)
      obtain ⟨A', c', hc, hv⟩ := hl k _ hx
      have c0 := (hb.cell (p := ⟨b, o + k, none⟩) hB).trans hc
      have hvv := vals_keep (hv.past hb (Nat.le_refl _) |>.wide hb.size) (Below.refl _ _)
      have hsn := lens_snoc hx
      have hos := okRows_snoc hx
      have hob := fun h => okRows_bad hx h
      have hll := Hl.out.2.1 _ (List.mem_of_getElem? hx)
      have hvs := VOk_all Hl.out.2.2 hx
      have htw := chk_two L[k]
      generalize L[k] = l at *
      generalize lens (L.take k) = m at *
      have hcall := Lib.hid ((hchk A' c' l wr hvv hll hvs).out)
      have HH := Lib.hid (And.intro hb (And.intro hsn (And.intro hos (And.intro hokk hob))))
      clear hb hl hx hsn hos hc hv hvv hob hokk hll hvs
      rcases htw with ⟨hz, hl8⟩ | hz
      · rw [hz] at hcall
        have HZ := Lib.hid hz
        clear hz
        go_wp2_with fail
        refine hcall.out.mono ?_
        rintro e w1 ⟨rfl, b1⟩
        have H1 := Lib.hid b1
        clear b1
        go_wp2_with fail
        go_roundw
        case rel =>
          obtain ⟨hb, hsn, hos, hokk, hob⟩ := HH.out
          exact ⟨k + 1, by go_num, by rw [hsn]; go_num, by omega, by omega, by rw [hos, hokk, HZ.out]; rfl, hb.trans (H1.out.mono hb.size)⟩
        case measure => simp [intOf]; omega
      · rw [hz] at hcall
        have HZ := Lib.hid hz
        clear hz
        go_wp2_with fail
        refine hcall.out.mono ?_
        rintro e w1 ⟨rfl, b1⟩
        have H1 := Lib.hid b1
        clear b1
        go_wp2_with fail
        go_ret2
        obtain ⟨hb, hsn, hos, hokk, hob⟩ := HH.out
        have hob := hob HZ.out
        exact join_none (by unfold joinE; rw [hob]; rfl) (by unfold joinL; rw [hob]; rfl) (hb.trans (H1.out.mono hb.size))
    · have hk2 : k = L.length := by omega
      subst hk2
      rw [List.take_length] at hokk h8 ⊢
      have HH := Lib.hid (And.intro hb hokk)
      clear hb hokk
      by_cases hm : 8 < lens L
      · have t1 : decide ((8 : Int) < ((lens L : Nat) : Int)) = true := by simp; omega
        have HM := Lib.hid hm
        go_wp2_with fail
        go_ret2
        obtain ⟨hb, hokk⟩ := HH.out
        have hm := HM.out
        exact join_none (by unfold joinE; rw [hokk]; simp; omega) (by unfold joinL; rw [hokk]; simp; omega) hb
      · have t1 : decide ((8 : Int) < ((lens L : Nat) : Int)) = false := by simp; omega
        have HM := Lib.hid hm
        have hcall := Lib.hid ((hconc wr (Hl.out.1.past HH.out.1 (Nat.le_refl _) |>.wide HH.out.1.size) (by omega)).out)
        clear hm
        go_wp2_with fail
        refine hcall.out.mono ?_
        rintro e w1 ⟨v1, rfl, o1, b1⟩
        have H1 := Lib.hid (And.intro o1 b1)
        clear o1 b1
        go_wp2_with fail
        go_ret2
        obtain ⟨hb, hokk⟩ := HH.out
        have hm := HM.out
        have hj : joinL L = L.flatten := by unfold joinL; rw [hokk]; simp; omega
        refine ⟨_, by rw [show joinE L = 0 from by unfold joinE; rw [hokk]; simp; omega]; rfl, ?_, hb.trans (H1.out.2.mono hb.size)⟩
        rw [hj, lens_flat]
        exact H1.out.1.mono hb.size
end Go.Proofs.YtllpfngmnccejaaGreat
