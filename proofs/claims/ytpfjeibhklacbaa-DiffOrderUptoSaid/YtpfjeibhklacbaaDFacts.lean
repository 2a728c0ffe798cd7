/- Of updates evened out: in what order they came, and in how many lists, tells nothing; and evened out again they are the same. -/
import Derived.Test.YtpfjeibhklacbaaDLive
namespace Go.Proofs.Ytpfjeibhklacbaa
open Go Go.RowKit

section
variable {K : Type} {cmp : K → K → Int}
theorem ins_len (x : K × Int) : ∀ l : List (K × Int), (ins cmp x l).length ≤ l.length + 1
  | [] => by simp [ins]
  | y :: t => by
    unfold ins
    have := ins_len x t
    repeat' split
    all_goals simp only [List.length_cons] at *
    all_goals omega
theorem asmF_len : ∀ (l a : List (K × Int)), (asmF cmp a l).length ≤ a.length + l.length
  | [], a => by simp [asmF]
  | x :: l, a => by
    have h1 := asmF_len l (ins cmp x a)
    have h2 := ins_len (cmp := cmp) x a
    show (asmF cmp (ins cmp x a) l).length ≤ _
    rw [List.length_cons]
    omega
theorem nz_len (l : List (K × Int)) : (nz cmp l).length ≤ l.length := by
  unfold nz asm
  have h1 := List.length_filter_le (fun x : K × Int => x.2 != 0) (asmF cmp [] l)
  have h2 := asmF_len (cmp := cmp) l []
  simp only [List.length_nil] at h2
  omega
theorem resL_len (l : List (K × Int)) : (resL cmp l).length ≤ l.length := by
  unfold resL
  split
  · exact nz_len l
  · simp
theorem resE_ne {l : List (K × Int)} (h : resE cmp l ≠ 0) : resL cmp l = [] := by
  unfold resE at h
  unfold resL
  split at h
  · exact absurd rfl h
  · rename_i h1; rw [if_neg h1]
theorem resE_zero {l : List (K × Int)} (h : resE cmp l = 0) : resL cmp l = nz cmp l ∧ (asm cmp l).all (fun x => fits x.2) = true := by
  unfold resE at h
  unfold resL
  split at h
  · rename_i h1; exact ⟨if_pos h1, h1⟩
  · omega
theorem res_again {R : K → Prop} (L : Lin cmp R) {l : List (K × Int)} (hl : ∀ x ∈ l, R x.1) (h : resE cmp l = 0) : resL cmp (resL cmp l) = resL cmp l ∧ resE cmp (resL cmp l) = 0 := by
  obtain ⟨h1, h2⟩ := resE_zero h
  have h3 : (asm cmp (nz cmp l)).all (fun x => fits x.2) = true := by rw [fit_all, nz_nz L hl, ← fit_all]; exact h2
  rw [h1]
  unfold resL resE
  rw [if_pos h3, if_pos h3, nz_nz L hl]
  exact ⟨rfl, rfl⟩
end
theorem consE_ne {L : List (List Up)} (h : consE L ≠ 0) : consL L = [] := by
  unfold consE at h
  unfold consL
  split at h
  · rename_i h1; rw [if_pos h1]; exact resE_ne h
  · rename_i h1; rw [if_neg h1]
theorem consL_len (L : List (List Up)) : (consL L).length ≤ L.flatten.length := by
  unfold consL
  split
  · have := resL_len (cmp := Uk.cmp) (L.flatten.map Up.p); rwa [List.length_map] at this
  · simp
theorem chk_all {L : List (List Up)} : chkLs L = 0 ↔ ∀ u ∈ L.flatten, chkU u = 0 := by
  rw [chkLs_all]
  constructor
  · intro h u hu
    obtain ⟨l, hl, hul⟩ := List.mem_flatten.1 hu
    exact chkUs_all.1 (h l hl) u hul
  · intro h l hl
    exact chkUs_all.2 fun u hu => h u (List.mem_flatten.2 ⟨l, hl, hu⟩)
theorem keys_right {l : List Up} (h : ∀ u ∈ l, chkU u = 0) : ∀ x ∈ l.map Up.p, UkR x.1 := fun x hx => by
  obtain ⟨u, hu, rfl⟩ := List.mem_map.1 hx
  exact h u hu
/-- the same updates, in whatever order and lists -/
theorem cons_perm {L M : List (List Up)} (h : L.flatten.Perm M.flatten) : (consE L = 0 ↔ consE M = 0) ∧ consL L = consL M := by
  by_cases h1 : chkLs L = 0
  · have h2 : chkLs M = 0 := chk_all.2 fun u hu => chk_all.1 h1 u (h.mem_iff.2 hu)
    have := resL_ext uk_lin (keys_right (chk_all.1 h1)) (keys_right (chk_all.1 h2)) fun k => sumOf_perm (h.map Up.p) k
    unfold consE consL
    rw [if_pos h1, if_pos h2, if_pos h1, if_pos h2, this.1, this.2]
    exact ⟨Iff.rfl, rfl⟩
  · have h2 : chkLs M ≠ 0 := fun h2 => h1 (chk_all.2 fun u hu => chk_all.1 h2 u (h.mem_iff.1 hu))
    unfold consE consL
    rw [if_neg h1, if_neg h2, if_neg h1, if_neg h2]
    exact ⟨⟨fun h => absurd h h1, fun h => absurd h h2⟩, rfl⟩
theorem cons_chk {L : List (List Up)} (h : consE L = 0) : chkLs L = 0 ∧ resE Uk.cmp (L.flatten.map Up.p) = 0 ∧ consL L = resL Uk.cmp (L.flatten.map Up.p) := by
  unfold consE at h
  split at h
  · rename_i h1; exact ⟨h1, h, by unfold consL; rw [if_pos h1]⟩
  · rename_i h1; exact absurd h h1
theorem cons_even {L : List (List Up)} {x : List Up} (h : consE L = 0) (hx : x.map Up.p = consL L) : EvenP x := by
  obtain ⟨h1, h2, h3⟩ := cons_chk h
  obtain ⟨h4, _⟩ := resE_zero h2
  rw [h3, h4] at hx
  refine ⟨fun u hu h0 => ?_, by rw [hx]; exact nz_srt uk_lin _, chkUs_all.2 fun u hu => ?_⟩
  · have : u.p ∈ nz Uk.cmp (L.flatten.map Up.p) := by rw [← hx]; exact List.mem_map.2 ⟨u, hu, rfl⟩
    exact ((nz_mem uk_lin (keys_right (chk_all.1 h1)) _).1 this).2.2 h0
  · have : u.p ∈ nz Uk.cmp (L.flatten.map Up.p) := by rw [← hx]; exact List.mem_map.2 ⟨u, hu, rfl⟩
    exact nz_right (R := UkR) (keys_right (chk_all.1 h1)) _ this
theorem cons_again {L : List (List Up)} {x : List Up} (h : consE L = 0) (hx : x.map Up.p = consL L) : consL [x] = consL L ∧ consE [x] = 0 := by
  obtain ⟨h1, h2, h3⟩ := cons_chk h
  have hc : chkLs [x] = 0 := chkLs_all.2 fun l hl => by
    obtain rfl : l = x := by simpa using hl
    exact (cons_even h hx).2.2
  have := res_again uk_lin (keys_right (chk_all.1 h1)) h2
  unfold consL consE at *
  rw [if_pos hc, if_pos hc]
  simp only [List.flatten_cons, List.flatten_nil, List.append_nil]
  rw [hx, if_pos h1]
  exact this
/-- a list from its end down to k -/
def upsT (l : List Up) (k : Nat) : List Up := (l.drop k).reverse
theorem upsT_end (l : List Up) : upsT l l.length = [] := by unfold upsT; simp
theorem upsT_next {l : List Up} {k : Nat} {u : Up} (h : l[k]? = some u) : upsT l k = upsT l (k + 1) ++ [u] := by
  unfold upsT
  obtain ⟨hk, rfl⟩ := List.getElem?_eq_some_iff.1 h
  rw [List.drop_eq_getElem_cons hk, List.reverse_cons]
theorem upsT_zero (l : List Up) : upsT l 0 = l.reverse := by unfold upsT; rw [List.drop_zero]
theorem upsT_len (l : List Up) (k : Nat) : (upsT l k).length ≤ l.length := by unfold upsT; simp
theorem upsT_perm (a b : List Up) : ([a, b] : List (List Up)).flatten.Perm ([upsT b 0 ++ a] : List (List Up)).flatten := by
  simp only [List.flatten_cons, List.flatten_nil, List.append_nil]
  rw [upsT_zero]
  exact List.perm_append_comm.trans (List.Perm.append_right a (List.reverse_perm b).symm)
theorem up_made (w : World) (u : Up) : Lies 6 Up.cells (w.alloc (.cells #[.slice u.kA u.key.length u.kc, .slice u.rA u.row.length u.rc, .int .u64 (u.t.e : Int), .int .u64 (u.t.a : Int), .int .u64 (u.t.b : Int), .int .i64 u.d] 38)) (w.heap.size + 1) (some ⟨w.heap.size, 0, none⟩) [u] := fun _ =>
  ⟨w.heap.size, 0, rfl, Nat.lt_succ_self _, fun i x hi j y hj => by
    rw [show 0 + i * 6 + j = i * 6 + j by omega]
    exact ((Own.made w 38 ([u].flatMap Up.cells)).at_ _).trans (flat_of (size := 6) (cells := Up.cells) (fun _ => rfl) [u] i j x y hi hj)⟩
end Go.Proofs.Ytpfjeibhklacbaa
