/- Part 5 of the texts on which BatchOwn rests: facts and contracts. -/
import Derived.Test.YthpjkikfadfgeaaGreatBatchOwnM4
namespace Go.Proofs.YthpjkikfadfgeaaGreat
open Go Go.RowKit

def beyond (l : List Tm) (t : Tm) : Bool := l.any (·.le t)
theorem beyond_snoc {l : List Tm} {t s : Tm} {k : Nat} (h : l[k]? = some s) : beyond (l.take (k + 1)) t = (beyond (l.take k) t || s.le t) := by
  unfold beyond
  rw [List.take_add_one, h]
  simp
theorem beyond_hit {l : List Tm} {t s : Tm} {k : Nat} (h : l[k]? = some s) (hs : s.le t = true) : beyond l t = true := by
  unfold beyond
  rw [List.any_eq_true]
  exact ⟨s, List.mem_of_getElem? h, hs⟩

set_option maxRecDepth 100000 in
set_option maxHeartbeats 800000 in
theorem beyond_any (A : Option Addr) (c : Nat) (l : List Tm) (t : Tm) (w : World) (hl : Times w w.heap.size A l) (hn : l.length ≤ maxLen) :
    Calls Tryz.prog 28 #[.slice A l.length c, t.val] w fun e w' => e = .returned (.bool (beyond l t)) ∧ Below w.heap.size w w' := by
  unfold maxLen at hn
  have hcall := fun (s : Tm) (W : World) => Lib.hid (ahead_any s t W)
  unfold Tm.val at hcall ⊢
  have Hl := Lib.hid hl
  clear hl
  go_enter Tryz.func28, Tryz.ntmps28
  go_wp2_with fail
  go_loopw [9] (fun i wr => ∃ k : Nat, i = .int .i64 (k : Int) ∧ k ≤ l.length ∧ beyond (l.take k) t = false ∧ Below w.heap.size w wr ∧ w.heap.size < wr.heap.size ∧ TmAt wr w.heap.size 0 t)
    (fun i _ => l.length - (intOf i).toNat)
  case atStart =>
    exact ⟨0, rfl, by omega, rfl, (Below.refl _ _).alloc (Nat.le_refl _) _, by simp, by simp [TmAt, go_sem]⟩
  case round =>
    obtain ⟨k, rfl, hk, hno, hb, hs, ht⟩ := hrel
    obtain ⟨t0, t1, t2⟩ := ht
    by_cases hlt : k < l.length
    · have hx : l[k]? = some l[k] := List.getElem?_eq_getElem hlt
      obtain ⟨b, o, rfl, hB, hc⟩ := Hl.out (by omega)
      obtain ⟨c0, c1, c2⟩ := (hc k _ hx).past hb hB
      have hsn := beyond_snoc (t := t) hx
      have hhit := fun h => beyond_hit (t := t) hx h
      generalize l[k] = s at *
      have hbs : b < w.heap.size := hB
      have HH := Lib.hid (And.intro hno (And.intro hsn (And.intro hhit (And.intro hx (And.intro hb (And.intro t0 (And.intro t1 t2)))))))
      clear hno hsn hhit hx hc hB hb
      by_cases hle : s.le t = true
      · have hcall := fun W => hcall s W
        simp only [hle] at hcall
        have HL := Lib.hid hle
        clear hle
        go_wp2_with fail
        refine (hcall _).out.mono ?_
        rintro e w1 ⟨rfl, h1⟩
        go_wp2_with fail
        go_ret
        obtain ⟨hno, hsn, hhit, hx, hb, t0, t1, t2⟩ := HH.out
        exact ⟨ret_bool (hhit HL.out).symm, hb.trans (((Below.refl _ _).alloc (by omega) _).trans (h1.mono (by simp; omega)))⟩
      · have hle : s.le t = false := by simpa using hle
        have hcall := fun W => hcall s W
        simp only [hle] at hcall
        have HL := Lib.hid hle
        clear hle
        go_wp2_with fail
        refine (hcall _).out.mono ?_
        rintro e w1 ⟨rfl, h1⟩
        go_wp2_with fail
        obtain ⟨hno, hsn, hhit, hx, hb, t0, t1, t2⟩ := HH.out
        have h2 : Below w.heap.size w w1 := hb.trans (((Below.refl _ _).alloc (by omega) _).trans (h1.mono (by simp; omega)))
        have h3 : Below wr.heap.size wr w1 := ((Below.refl _ _).alloc (Nat.le_refl _) _).trans (h1.mono (by simp))
        go_roundw
        case rel => exact ⟨k + 1, by go_num, by omega, by rw [hsn, hno, HL.out]; rfl, h2, by have := h3.size; omega, (TmAt.past ⟨t0, t1, t2⟩ h3 hs)⟩
        case measure => simp [intOf]; omega
    · have hk2 : k = l.length := by omega
      have HH := Lib.hid (And.intro hno (And.intro hb hk2))
      clear hno hb hk2
      go_wp2_with fail
      go_ret
      obtain ⟨hno, hb, rfl⟩ := HH.out
      exact ⟨ret_bool (by rw [← hno]; simp), hb⟩

end Go.Proofs.YthpjkikfadfgeaaGreat
namespace Go.Proofs.YthpjkikfadfgeaaGreat
open Go Go.RowKit Go.Sort Go.Lib

def keepStep (f : List Tm) (t : Tm) : List Tm := if beyond f t = true then f else f ++ [t]
def frontTo (s : List Tm) (k : Nat) : List Tm := (s.take k).foldl keepStep []
def frontL (l : List Tm) : List Tm := frontTo (sortT l) (sortT l).length
theorem frontTo_snoc {s : List Tm} {t : Tm} {k : Nat} (h : s[k]? = some t) : frontTo s (k + 1) = keepStep (frontTo s k) t := by
  unfold frontTo; rw [List.take_add_one, h, List.foldl_append]; rfl
theorem frontTo_len (s : List Tm) : ∀ k, k ≤ s.length → (frontTo s k).length ≤ k
  | 0, _ => by simp [frontTo]
  | k + 1, h => by
    have := frontTo_len s k (by omega)
    rw [frontTo_snoc (List.getElem?_eq_getElem (by omega))]
    unfold keepStep
    split
    · omega
    · rw [List.length_append]; simp; omega

end Go.Proofs.YthpjkikfadfgeaaGreat
namespace Go.Proofs.YthpjkikfadfgeaaGreat
open Go Go.RowKit
attribute [local go_sem ↓] Go.wp_at_zero Go.wp_at_succ

end Go.Proofs.YthpjkikfadfgeaaGreat
namespace Go.Proofs.YthpjkikfadfgeaaGreat
open Go Go.RowKit

theorem foldl_inf (t : Tm) : ∀ (l : List Tm) (a s : Tm), s.le (l.foldl (fun a y => a.inf (t.sup y)) a) = (s.le a && l.all fun y => s.le (t.sup y))
  | [], a, s => by simp
  | x :: l, a, s => by
    rw [List.foldl_cons, foldl_inf t l, List.all_cons]
    have : s.le (a.inf (t.sup x)) = (s.le a && s.le (t.sup x)) := by
      rw [Bool.eq_iff_iff, Bool.and_eq_true, Tm.le_iff, Tm.le_iff, Tm.le_iff]
      simp only [Tm.inf]
      omega
    rw [this, Bool.and_assoc]
theorem le_adv (s t : Tm) (l : List Tm) (h : l ≠ []) : s.le (adv t l) = l.all fun y => s.le (t.sup y) := by
  cases l with
  | nil => exact absurd rfl h
  | cons x l => simp [adv, foldl_inf]
theorem le_refl' (t : Tm) : t.le t = true := Tm.le_iff.2 ⟨Nat.le_refl _, Nat.le_refl _, Nat.le_refl _⟩
theorem le_anti {s t : Tm} (h : s.le t = true) (k : t.le s = true) : s = t := by
  rw [Tm.le_iff] at h k
  obtain ⟨a, b, c⟩ := s
  obtain ⟨d, e, f⟩ := t
  simp at *
  omega
theorem le_trans' {a b c : Tm} (h : a.le b = true) (k : b.le c = true) : a.le c = true := by
  rw [Tm.le_iff] at *; omega
theorem adv_later (t : Tm) (f g : List Tm) (hg : g ≠ []) (h : ∀ x ∈ g, beyond f x = true) : adv (adv t f) g = adv t g := by
  have key : ∀ s : Tm, s.le (adv (adv t f) g) = s.le (adv t g) := by
    intro s
    rw [le_adv _ _ _ hg, le_adv _ _ _ hg, Bool.eq_iff_iff, List.all_eq_true, List.all_eq_true]
    have hsup : ∀ y ∈ g, (adv t f).sup y = t.sup y := by
      intro y hy
      by_cases hf : f = []
      · subst hf; simp [beyond] at h; exact absurd hy (by intro hy; exact (h y hy))
      obtain ⟨x, hx, hxy⟩ := List.any_eq_true.1 (h y hy)
      have h1 : t.le (adv t f) = true := by
        rw [le_adv _ _ _ hf, List.all_eq_true]; intro z _; rw [Tm.le_iff]; simp only [Tm.sup]; omega
      have h2 : (adv t f).le (t.sup x) = true := by
        have := le_refl' (adv t f)
        rw [le_adv _ _ _ hf, List.all_eq_true] at this
        exact this x hx
      rw [Tm.le_iff] at h1 h2 hxy
      simp only [Tm.sup] at h2 ⊢
      simp only [Tm.mk.injEq]
      omega
    constructor
    · intro k y hy; rw [← hsup y hy]; exact k y hy
    · intro k y hy; rw [hsup y hy]; exact k y hy
  exact le_anti (by rw [← key]; exact le_refl' _) (by rw [key]; exact le_refl' _)

attribute [local go_sem ↓] Go.wp_at_zero Go.wp_at_succ
end Go.Proofs.YthpjkikfadfgeaaGreat
namespace Go.Proofs.YthpjkikfadfgeaaGreat
open Go Go.RowKit Go.Sort Go.Lib

def Apart (x y : Tm) : Prop := ltOf Tm.cmp x y = true ∧ x.le y = false ∧ y.le x = false
theorem beyond_iff {l : List Tm} {t : Tm} : beyond l t = true ↔ ∃ x ∈ l, x.le t = true := by unfold beyond; rw [List.any_eq_true]
theorem le_adv_t (t : Tm) (l : List Tm) : t.le (adv t l) = true := by
  by_cases h : l = []
  · subst h; exact le_refl' t
  · rw [le_adv _ _ _ h, List.all_eq_true]; intro z _; rw [Tm.le_iff]; simp only [Tm.sup]; omega
theorem adv_le {t x : Tm} {l : List Tm} (h : x ∈ l) : (adv t l).le (t.sup x) = true := by
  have := le_refl' (adv t l)
  rw [le_adv _ _ _ (by intro e; rw [e] at h; simp at h), List.all_eq_true] at this
  exact this x h
theorem adv_again (t : Tm) (l : List Tm) : adv (adv t l) l = adv t l := by
  by_cases h : l = []
  · subst h; rfl
  · exact adv_later t l l h fun x hx => beyond_iff.2 ⟨x, hx, le_refl' x⟩
end Go.Proofs.YthpjkikfadfgeaaGreat
namespace Go.Proofs.YthpjkikfadfgeaaGreat
open Go Go.RowKit

def Up.advd (f : List Tm) (u : Up) : Up := { u with t := adv u.t f }
def advL (f : List Tm) (l : List Up) : List Up := l.map (Up.advd f)
theorem right_down {s t : Tm} (h : s.le t = true) (ht : t.right = true) : s.right = true := by
  rw [Tm.le_iff] at h
  unfold Tm.right at *
  simp only [Bool.and_eq_true, decide_eq_true_eq] at *
  omega
theorem chk_one {t : Tm} : chk [t] = 0 ↔ t.right = true := by
  unfold chk
  cases h : t.right <;> simp [h]
theorem adv_right {t : Tm} {f : List Tm} (ht : t.right = true) (hf : ∀ x ∈ f, x.right = true) : (adv t f).right = true := by
  cases f with
  | nil => exact ht
  | cons x f =>
    have hx := hf x List.mem_cons_self
    refine right_down (adv_le (x := x) List.mem_cons_self) ?_
    unfold Tm.right at ht hx ⊢
    rw [Bool.and_eq_true, decide_eq_true_eq, decide_eq_true_eq] at ht hx ⊢
    show max t.e x.e ≤ _ ∧ max (max t.a x.a) (max t.b x.b) ≤ _
    omega
theorem chk_adv {f : List Tm} (hf : ∀ x ∈ f, x.right = true) (t : Tm) : chk [adv t f] = chk [t] := by
  cases h : t.right with
  | true => rw [chk_one.2 h, chk_one.2 (adv_right h hf)]
  | false =>
    have h2 : (adv t f).right = false := by
      cases h3 : (adv t f).right with
      | false => rfl
      | true => rw [right_down (le_adv_t t f) h3] at h; cases h
    unfold chk
    simp [h, h2]
theorem chkU_adv {f : List Tm} (hf : ∀ x ∈ f, x.right = true) (u : Up) : chkU (u.advd f) = chkU u := by
  unfold chkU chkK
  show orI (chkRow u.key) (orI (chkRow u.row) (chk [adv u.t f])) = _
  rw [chk_adv hf]
  rfl
theorem chkUs_adv {f : List Tm} (hf : ∀ x ∈ f, x.right = true) : ∀ l : List Up, chkUs (advL f l) = chkUs l
  | [] => rfl
  | u :: l => by
    have ih := chkUs_adv hf l
    unfold advL at *
    rw [List.map_cons]
    unfold chkUs
    rw [chkU_adv hf, ih]
theorem batch_advd {f : List Tm} {l e : List Up} (h : consE [advL f l] = 0) (he : e.map Up.p = consL [advL f l]) : ∀ u ∈ e, adv u.t f = u.t := fun u hu => by
  obtain ⟨_, h2, h3⟩ := cons_chk h
  simp only [List.flatten_cons, List.flatten_nil, List.append_nil] at h2 h3
  have hm : u.p ∈ nz Uk.cmp ((advL f l).map Up.p) := by
    rw [← (resE_zero h2).1, ← h3, ← he]
    exact List.mem_map_of_mem hu
  have := nz_right (R := fun k : Uk => adv k.t f = k.t) (fun p hp => by
    obtain ⟨v, hv, rfl⟩ := List.mem_map.1 hp
    obtain ⟨v0, _, rfl⟩ := List.mem_map.1 hv
    exact adv_again v0.t f) _ hm
  exact this
def FrontOk (f : List Tm) : Prop := chk f = 0 ∧ frontL f = f
theorem FrontOk.right {f : List Tm} (h : FrontOk f) : ∀ x ∈ f, x.right = true := by
  have := h.1
  unfold chk at this
  split at this
  · rename_i h1; exact fun x hx => List.all_eq_true.1 h1 x hx
  · omega
def BatchOk (f : List Tm) (l : List Up) : Prop := FrontOk f ∧ EvenP l ∧ ∀ u ∈ l, adv u.t f = u.t
theorem batch_ok {f : List Tm} {l e : List Up} (hf : FrontOk f) (h : consE [advL f l] = 0) (he : e.map Up.p = consL [advL f l]) : BatchOk f e := ⟨hf, cons_even h he, batch_advd h he⟩
end Go.Proofs.YthpjkikfadfgeaaGreat
namespace Go.Proofs.YthpjkikfadfgeaaGreat
open Go Go.RowKit

def KeysUp (l : List Up) : Prop := l.Pairwise fun x y => cmpRows x.key y.key ≤ 0
def seekB (l : List Up) (k : List Vl) : Nat := (l.takeWhile fun u => decide (cmpRows u.key k < 0)).length
def groupB (l : List Up) (k : List Vl) : List Up := (l.drop (seekB l k)).takeWhile fun u => decide (cmpRows u.key k = 0)
def leB (l : List Up) (k : List Vl) : List Up := l.filter fun u => decide (cmpRows u.key k ≤ 0)
end Go.Proofs.YthpjkikfadfgeaaGreat
namespace Go.Proofs.YthpjkikfadfgeaaGreat
open Go Go.RowKit

def plc (a b : Up) : Int := if cmpRows a.key b.key = 0 then cmpRows a.row b.row else cmpRows a.key b.key
theorem plc_lin : Lin plc (fun _ => False) where
  swap a b := by
    unfold plc
    rw [cmpRows_swap a.key b.key, cmpRows_swap a.row b.row]
    by_cases h1 : cmpRows a.key b.key = 0
    · rw [if_pos (by omega), if_pos h1]
    · rw [if_neg (by omega), if_neg h1]
  le a b c h k := by
    unfold plc at *
    exact lex_le h k (cmpRows_le a.key b.key c.key) rows_zero (cmpRows_le a.row b.row c.row)
  eq _ _ h _ := h.elim
theorem plc_cmp {a b : Up} {s t : Tm} (h : plc a b < 0) : Uk.cmp ⟨a.key, a.row, s⟩ ⟨b.key, b.row, t⟩ < 0 := by
  unfold plc at h
  unfold Uk.cmp
  dsimp only
  split at h
  · rename_i h0; rw [if_pos h0, if_neg (by omega)]; exact h
  · rename_i h0; rw [if_neg h0]; exact h
def PlUp (l : List Up) : Prop := l.Pairwise fun x y => plc x y ≤ 0
theorem even_plc {l : List Up} (h : EvenP l) : PlUp l := by
  have h1 := h.2.1
  unfold Srt at h1
  rw [List.pairwise_map] at h1
  refine h1.imp fun {x y} hxy => ?_
  have hxy : Uk.cmp x.k y.k < 0 := hxy
  unfold Uk.cmp at hxy
  unfold plc
  split at hxy
  · rename_i h0
    have h0 : cmpRows x.key y.key = 0 := h0
    rw [if_pos h0]
    split at hxy
    · rename_i h2; exact Int.le_of_eq h2
    · exact Int.le_of_lt hxy
  · rename_i h0
    have h0 : ¬ cmpRows x.key y.key = 0 := h0
    rw [if_neg h0]
    exact Int.le_of_lt hxy
def grp (u : Up) (r : List Up) : List Up := r.takeWhile fun x => decide (plc x u = 0)
theorem tw_mem {p : Up → Bool} {x : Up} : ∀ {l : List Up}, x ∈ l.takeWhile p → p x = true
  | [], h => by simp at h
  | y :: l, h => by
    by_cases hy : p y = true
    · rw [List.takeWhile_cons_of_pos hy] at h
      rcases List.mem_cons.1 h with rfl | h
      · exact hy
      · exact tw_mem h
    · rw [List.takeWhile_cons_of_neg hy] at h; simp at h
theorem grp_mem {u x : Up} {r : List Up} (h : x ∈ grp u r) : plc x u = 0 ∧ x ∈ r := ⟨of_decide_eq_true (tw_mem h), (List.takeWhile_sublist _).subset h⟩
theorem grp_split (u : Up) (r : List Up) : r = grp u r ++ r.drop (grp u r).length := by
  unfold grp
  induction r with
  | nil => rfl
  | cons x r ih =>
    by_cases h : plc x u = 0
    · rw [List.takeWhile_cons_of_pos (by simpa using h), List.length_cons, List.drop_succ_cons, List.cons_append, ← ih]
    · rw [List.takeWhile_cons_of_neg (by simpa using h)]; rfl
theorem past_grp {u : Up} : ∀ {r : List Up}, PlUp r → (∀ y ∈ r, plc u y ≤ 0) → ∀ y ∈ r.drop (grp u r).length, plc u y < 0
  | [], _, _, y, h => by simp at h
  | v :: r, hr, hu, y, h => by
    have hc := List.pairwise_cons.1 hr
    unfold grp at h
    by_cases h0 : plc v u = 0
    · rw [List.takeWhile_cons_of_pos (by simpa using h0), List.length_cons, List.drop_succ_cons] at h
      exact past_grp hc.2 (fun y hy => hu y (List.mem_cons_of_mem _ hy)) y h
    · rw [List.takeWhile_cons_of_neg (by simpa using h0), List.length_nil, List.drop_zero] at h
      have h1 := hu v List.mem_cons_self
      have h2 := plc_lin.swap v u
      have h3 : plc u v < 0 := by omega
      rcases List.mem_cons.1 h with rfl | h
      · exact h3
      · exact plc_lin.lt_le h3 (hc.1 y h)
structure MInv (f : List Tm) (ta ra tb rb : List Up) (out : List (Uk × Int)) : Prop where
  sep : ∀ x ∈ ta ++ tb, ∀ y ∈ ra ++ rb, plc x y < 0
  fit : resE Uk.cmp ((advL f (ta ++ tb)).map Up.p) = 0
  out_ : out = nz Uk.cmp ((advL f (ta ++ tb)).map Up.p)
theorem merge_start (f : List Tm) (a b : List Up) : MInv f [] a [] b [] := ⟨fun x hx => (by simp at hx), rfl, rfl⟩
theorem keys_apart {f : List Tm} {X Y : List Up} (h : ∀ x ∈ X, ∀ y ∈ Y, plc x y < 0) : ∀ x ∈ (advL f X).map Up.p, ∀ y ∈ (advL f Y).map Up.p, Uk.cmp x.1 y.1 < 0 := fun x hx y hy => by
  obtain ⟨x', hx', rfl⟩ := List.mem_map.1 hx
  obtain ⟨x0, hx0, rfl⟩ := List.mem_map.1 hx'
  obtain ⟨y', hy', rfl⟩ := List.mem_map.1 hy
  obtain ⟨y0, hy0, rfl⟩ := List.mem_map.1 hy'
  exact plc_cmp (h x0 hx0 y0 hy0)
theorem res_apart {X Y : List (Uk × Int)} (h : ∀ x ∈ X, ∀ y ∈ Y, Uk.cmp x.1 y.1 < 0) : nz Uk.cmp (X ++ Y) = nz Uk.cmp X ++ nz Uk.cmp Y ∧ (resE Uk.cmp (X ++ Y) = 0 ↔ resE Uk.cmp X = 0 ∧ resE Uk.cmp Y = 0) := by
  unfold nz resE
  rw [asm_append h, List.filter_append, List.all_append]
  refine ⟨rfl, ?_⟩
  cases ((asm Uk.cmp X).all fun x => fits x.2) <;> cases ((asm Uk.cmp Y).all fun x => fits x.2) <;> simp
theorem advL_append (f : List Tm) (X Y : List Up) : advL f (X ++ Y) = advL f X ++ advL f Y := List.map_append
theorem adv_keys {f : List Tm} (hf : ∀ x ∈ f, x.right = true) {X : List Up} (h : chkUs X = 0) : ∀ x ∈ (advL f X).map Up.p, UkR x.1 := keys_right (chkUs_all.1 ((chkUs_adv hf X).trans h))
theorem taken_same {f : List Tm} (hf : ∀ x ∈ f, x.right = true) {ta ga tb gb : List Up} (h : chkUs (ta ++ ga ++ (tb ++ gb)) = 0) :
    nz Uk.cmp ((advL f (ta ++ ga ++ (tb ++ gb))).map Up.p) = nz Uk.cmp ((advL f (ta ++ tb)).map Up.p ++ (advL f (ga ++ gb)).map Up.p) ∧ resE Uk.cmp ((advL f (ta ++ ga ++ (tb ++ gb))).map Up.p) = resE Uk.cmp ((advL f (ta ++ tb)).map Up.p ++ (advL f (ga ++ gb)).map Up.p) := by
  have hl := adv_keys hf h
  have hm : ∀ x ∈ (advL f (ta ++ tb)).map Up.p ++ (advL f (ga ++ gb)).map Up.p, UkR x.1 := by
    rw [← List.map_append, ← advL_append]
    refine adv_keys hf (chkUs_all.2 fun u hu => chkUs_all.1 h u ?_)
    simp only [List.mem_append] at hu ⊢
    rcases hu with (hu | hu) | (hu | hu)
    · exact .inl (.inl hu)
    · exact .inr (.inl hu)
    · exact .inl (.inr hu)
    · exact .inr (.inr hu)
  have hs : ∀ k, sumOf Uk.cmp ((advL f (ta ++ ga ++ (tb ++ gb))).map Up.p) k = sumOf Uk.cmp ((advL f (ta ++ tb)).map Up.p ++ (advL f (ga ++ gb)).map Up.p) k := fun k => by
    simp only [advL_append, List.map_append, sumOf_append]
    omega
  exact ⟨nz_ext uk_lin hl hm hs, (resL_ext uk_lin hl hm hs).2⟩
theorem merge_step {f : List Tm} {ta ra tb rb : List Up} {out : List (Uk × Int)} (hm : MInv f ta ra tb rb out) (hf : ∀ x ∈ f, x.right = true) (hc : chkUs (ta ++ ra ++ (tb ++ rb)) = 0) (hra : PlUp ra) (hrb : PlUp rb) {u : Up} (hu : ∀ y ∈ ra ++ rb, plc u y ≤ 0)
    (hE : consE [advL f (grp u ra ++ grp u rb)] = 0) :
    MInv f (ta ++ grp u ra) (ra.drop (grp u ra).length) (tb ++ grp u rb) (rb.drop (grp u rb).length) (out ++ consL [advL f (grp u ra ++ grp u rb)]) := by
  have hg : ∀ y ∈ grp u ra ++ grp u rb, plc y u = 0 ∧ y ∈ ra ++ rb := fun y hy => by
    rcases List.mem_append.1 hy with hy | hy
    · exact ⟨(grp_mem hy).1, List.mem_append_left _ (grp_mem hy).2⟩
    · exact ⟨(grp_mem hy).1, List.mem_append_right _ (grp_mem hy).2⟩
  have hc' : chkUs (ta ++ grp u ra ++ (tb ++ grp u rb)) = 0 := chkUs_all.2 fun v hv => chkUs_all.1 hc v (by
    simp only [List.mem_append] at hv ⊢
    rcases hv with (hv | hv) | (hv | hv)
    · exact .inl (.inl hv)
    · exact .inl (.inr (grp_mem hv).2)
    · exact .inr (.inl hv)
    · exact .inr (.inr (grp_mem hv).2))
  obtain ⟨e1, e2⟩ := taken_same hf hc'
  obtain ⟨a1, a2⟩ := res_apart (keys_apart (f := f) (X := ta ++ tb) (Y := grp u ra ++ grp u rb) fun x hx y hy => hm.sep x hx y (hg y hy).2)
  obtain ⟨_, c2, c3⟩ := cons_chk hE
  simp only [List.flatten_cons, List.flatten_nil, List.append_nil] at c2 c3
  refine ⟨fun x hx y hy => ?_, ?_, ?_⟩
  · have hy' : y ∈ ra ++ rb ∧ plc u y < 0 := by
      rcases List.mem_append.1 hy with hy | hy
      · exact ⟨List.mem_append_left _ (List.mem_of_mem_drop hy), past_grp hra (fun z hz => hu z (List.mem_append_left _ hz)) y hy⟩
      · exact ⟨List.mem_append_right _ (List.mem_of_mem_drop hy), past_grp hrb (fun z hz => hu z (List.mem_append_right _ hz)) y hy⟩
    have hx' : x ∈ ta ++ tb ∨ x ∈ grp u ra ++ grp u rb := by
      simp only [List.mem_append] at hx ⊢
      rcases hx with (hx | hx) | (hx | hx)
      · exact .inl (.inl hx)
      · exact .inr (.inl hx)
      · exact .inl (.inr hx)
      · exact .inr (.inr hx)
    rcases hx' with hx | hx
    · exact hm.sep x hx y hy'.1
    · exact plc_lin.le_lt (by have := (hg x hx).1; omega) hy'.2
  · rw [e2, a2]; exact ⟨hm.fit, c2⟩
  · rw [e1, a1, hm.out_, c3, (resE_zero c2).1]
theorem res_ten {l : List (Uk × Int)} (h : resE Uk.cmp l ≠ 0) : resE Uk.cmp l = 10 := by
  unfold resE at *
  split at h
  · exact absurd rfl h
  · rename_i h1; rw [if_neg h1]
theorem merge_fail {f : List Tm} {ta ra tb rb : List Up} {out : List (Uk × Int)} (hm : MInv f ta ra tb rb out) (hf : ∀ x ∈ f, x.right = true) (hc : chkUs (ta ++ ra ++ (tb ++ rb)) = 0) (hra : PlUp ra) (hrb : PlUp rb) {u : Up} (hu : ∀ y ∈ ra ++ rb, plc u y ≤ 0)
    (hE : consE [advL f (grp u ra ++ grp u rb)] ≠ 0) : consE [advL f (grp u ra ++ grp u rb)] = 10 ∧ consE [advL f (ta ++ ra ++ (tb ++ rb))] = 10 := by
  have hcg : chkUs (grp u ra ++ grp u rb) = 0 := chkUs_all.2 fun v hv => chkUs_all.1 hc v (by
    simp only [List.mem_append] at hv ⊢
    rcases hv with hv | hv
    · exact .inl (.inr (grp_mem hv).2)
    · exact .inr (.inr (grp_mem hv).2))
  have hone : ∀ {l : List Up}, chkUs l = 0 → consE [advL f l] = resE Uk.cmp ((advL f l).map Up.p) := fun {l} h => by
    unfold consE
    rw [if_pos (chkLs_all.2 fun m hm => by obtain rfl : m = advL f l := (by simpa using hm); exact (chkUs_adv hf l).trans h)]
    simp
  rw [hone hcg] at hE ⊢
  rw [hone hc]
  refine ⟨res_ten hE, res_ten fun h => hE ?_⟩
  rw [(taken_same hf hc).2] at h
  have h1 := ((res_apart (keys_apart (f := f) (X := ta ++ tb) (Y := ra ++ rb) hm.sep)).2.1 h).2
  have hsp : ra ++ rb = grp u ra ++ ra.drop (grp u ra).length ++ (grp u rb ++ rb.drop (grp u rb).length) := by rw [← grp_split, ← grp_split]
  have hcr : chkUs (grp u ra ++ ra.drop (grp u ra).length ++ (grp u rb ++ rb.drop (grp u rb).length)) = 0 := by
    rw [← hsp]
    exact chkUs_all.2 fun v hv => chkUs_all.1 hc v (by
      simp only [List.mem_append] at hv ⊢
      rcases hv with hv | hv
      · exact .inl (.inr hv)
      · exact .inr (.inr hv))
  rw [hsp, (taken_same hf hcr).2] at h1
  refine ((res_apart (keys_apart (f := f) (X := grp u ra ++ grp u rb) (Y := ra.drop (grp u ra).length ++ rb.drop (grp u rb).length) fun x hx y hy => ?_)).2.1 h1).1
  have hx0 : plc x u = 0 := by
    rcases List.mem_append.1 hx with hx | hx
    · exact (grp_mem hx).1
    · exact (grp_mem hx).1
  refine plc_lin.le_lt (b := u) (by omega) ?_
  rcases List.mem_append.1 hy with hy | hy
  · exact past_grp hra (fun z hz => hu z (List.mem_append_left _ hz)) y hy
  · exact past_grp hrb (fun z hz => hu z (List.mem_append_right _ hz)) y hy
end Go.Proofs.YthpjkikfadfgeaaGreat
namespace Go.Proofs.YthpjkikfadfgeaaGreat
open Go Go.RowKit

def nextM : List Up → List Up → Option Up
  | [], [] => none
  | x :: _, [] => some x
  | [], y :: _ => some y
  | x :: _, y :: _ => if plc x y ≤ 0 then some x else some y
theorem next_none {ra rb : List Up} : nextM ra rb = none ↔ ra = [] ∧ rb = [] := by
  cases ra <;> cases rb <;> simp [nextM]
  split <;> simp
theorem plc_self (u : Up) : plc u u = 0 := plc_lin.self u
theorem head_le {x : Up} {r : List Up} (h : PlUp (x :: r)) : ∀ y ∈ x :: r, plc x y ≤ 0 := fun y hy => by
  rcases List.mem_cons.1 hy with rfl | hy
  · exact Int.le_of_eq (plc_self _)
  · exact (List.pairwise_cons.1 h).1 y hy
theorem next_min {ra rb : List Up} {u : Up} (h : nextM ra rb = some u) (hra : PlUp ra) (hrb : PlUp rb) : ∀ y ∈ ra ++ rb, plc u y ≤ 0 := by
  cases ra with
  | nil =>
    cases rb with
    | nil => cases h
    | cons y rb =>
      obtain rfl : y = u := by simpa [nextM] using h
      simpa using head_le hrb
  | cons x ra =>
    cases rb with
    | nil =>
      obtain rfl : x = u := by simpa [nextM] using h
      simpa using head_le hra
    | cons y rb =>
      have h : (if plc x y ≤ 0 then some x else some y) = some u := h
      split at h
      · rename_i h0
        obtain rfl : x = u := by simpa using h
        intro z hz
        rcases List.mem_append.1 hz with hz | hz
        · exact head_le hra z hz
        · exact (plc_lin.le x y z h0 (head_le hrb z hz)).1
      · rename_i h0
        obtain rfl : y = u := by simpa using h
        have h1 : plc y x < 0 := by have := plc_lin.swap x y; omega
        intro z hz
        rcases List.mem_append.1 hz with hz | hz
        · exact Int.le_of_lt (plc_lin.lt_le h1 (head_le hra z hz))
        · exact head_le hrb z hz
theorem grp_head (u : Up) (r : List Up) : 0 < (grp u (u :: r)).length := by
  unfold grp
  rw [List.takeWhile_cons_of_pos (by simpa using plc_self u)]
  exact Nat.succ_pos _
theorem grp_pos {ra rb : List Up} {u : Up} (h : nextM ra rb = some u) : 0 < (grp u ra).length + (grp u rb).length := by
  cases ra with
  | nil =>
    cases rb with
    | nil => cases h
    | cons y rb =>
      obtain rfl : y = u := by simpa [nextM] using h
      have := grp_head y rb; omega
  | cons x ra =>
    cases rb with
    | nil =>
      obtain rfl : x = u := by simpa [nextM] using h
      have := grp_head x ra; omega
    | cons y rb =>
      have h : (if plc x y ≤ 0 then some x else some y) = some u := h
      split at h
      · obtain rfl : x = u := by simpa using h
        have := grp_head x ra; omega
      · obtain rfl : y = u := by simpa using h
        have := grp_head y rb; omega
section
variable {f : List Tm} {ta ra tb rb : List Up} {out : List (Uk × Int)} {O : List Up}
theorem minv_key (hm : MInv f ta ra tb rb out) (hO : O.map Up.p = out) {z : Up} (hz : z ∈ O) : ∃ x ∈ ta ++ tb, x.key = z.key ∧ x.row = z.row ∧ adv x.t f = z.t := by
  have h : z.p ∈ nz Uk.cmp ((advL f (ta ++ tb)).map Up.p) := by rw [← hm.out_, ← hO]; exact List.mem_map_of_mem hz
  obtain ⟨p, hp, e⟩ := nz_keys h
  obtain ⟨v, hv, rfl⟩ := List.mem_map.1 hp
  obtain ⟨x, hx, rfl⟩ := List.mem_map.1 hv
  have e : (⟨x.key, x.row, adv x.t f⟩ : Uk) = ⟨z.key, z.row, z.t⟩ := e
  injection e with e1 e2 e3
  exact ⟨x, hx, e1, e2, e3⟩
theorem minv_advd (hm : MInv f ta ra tb rb out) (hO : O.map Up.p = out) : ∀ z ∈ O, adv z.t f = z.t := fun z hz => by
  obtain ⟨x, _, _, _, e⟩ := minv_key hm hO hz
  rw [← e]
  exact adv_again x.t f
theorem minv_ahead (hm : MInv f ta ra tb rb out) (hO : O.map Up.p = out) : ∀ z ∈ O, ∀ y ∈ ra ++ rb, plc z y < 0 := fun z hz y hy => by
  obtain ⟨x, hx, e1, e2, _⟩ := minv_key hm hO hz
  have := hm.sep x hx y hy
  unfold plc at *
  rwa [e1, e2] at this
theorem minv_even (hm : MInv f ta ra tb rb out) (hf : ∀ x ∈ f, x.right = true) (hc : chkUs (ta ++ tb) = 0) (hO : O.map Up.p = out) : EvenP O := by
  have hR := adv_keys hf hc
  have hn : O.map Up.p = nz Uk.cmp ((advL f (ta ++ tb)).map Up.p) := hO.trans hm.out_
  refine ⟨fun z hz => ?_, by rw [hn]; exact nz_srt uk_lin _, chkUs_all.2 fun z hz => ?_⟩
  · have h : z.p ∈ nz Uk.cmp ((advL f (ta ++ tb)).map Up.p) := by rw [← hn]; exact List.mem_map_of_mem hz
    exact ((nz_mem uk_lin hR z.p).1 h).2.2
  · have h : z.p ∈ nz Uk.cmp ((advL f (ta ++ tb)).map Up.p) := by rw [← hn]; exact List.mem_map_of_mem hz
    exact nz_right (R := UkR) hR _ h
end
end Go.Proofs.YthpjkikfadfgeaaGreat
namespace Go.Proofs.YthpjkikfadfgeaaGreat
open Go Go.RowKit

structure MS where
  ta : List Up
  ra : List Up
  tb : List Up
  rb : List Up
  out : List (Uk × Int)
  cost : Nat
  E : Int
def MS.left (s : MS) : Nat := s.ra.length + s.rb.length
def MS.step (f : List Tm) (s : MS) (u : Up) : MS :=
  { ta := s.ta ++ grp u s.ra, ra := s.ra.drop (grp u s.ra).length, tb := s.tb ++ grp u s.rb, rb := s.rb.drop (grp u s.rb).length, out := s.out ++ consL [advL f (grp u s.ra ++ grp u s.rb)], cost := s.cost + ((grp u s.ra).length + (grp u s.rb).length), E := 0 }
def workM (f : List Tm) (fuel : Int) : Nat → MS → MS
  | 0, s => s
  | n + 1, s => if (s.cost : Int) < fuel then
      match nextM s.ra s.rb with
      | none => s
      | some u => if consE [advL f (grp u s.ra ++ grp u s.rb)] = 0 then workM f fuel n (s.step f u) else { s with E := consE [advL f (grp u s.ra ++ grp u s.rb)] }
    else s
theorem grp_le (u : Up) (r : List Up) : (grp u r).length ≤ r.length := (List.takeWhile_sublist _).length_le
theorem step_left {f : List Tm} {s : MS} {u : Up} (h : nextM s.ra s.rb = some u) : (s.step f u).left < s.left ∧ (s.step f u).cost + (s.step f u).left = s.cost + s.left ∧ s.cost < (s.step f u).cost := by
  have h1 := grp_pos h
  have h2 := grp_le u s.ra
  have h3 := grp_le u s.rb
  unfold MS.left MS.step
  dsimp only
  rw [List.length_drop, List.length_drop]
  omega
structure MS.Fine (f : List Tm) (a b : List Up) (s : MS) : Prop where
  inv : MInv f s.ta s.ra s.tb s.rb s.out
  a_ : s.ta ++ s.ra = a
  b_ : s.tb ++ s.rb = b
theorem fine_step {f : List Tm} {a b : List Up} {s : MS} {u : Up} (h : s.Fine f a b) (hf : ∀ x ∈ f, x.right = true) (hc : chkUs (a ++ b) = 0) (ha : PlUp a) (hb : PlUp b) (hu : nextM s.ra s.rb = some u) (hE : consE [advL f (grp u s.ra ++ grp u s.rb)] = 0) : (s.step f u).Fine f a b := by
  have hra : PlUp s.ra := by have := h.a_ ▸ ha; exact (List.pairwise_append.1 this).2.1
  have hrb : PlUp s.rb := by have := h.b_ ▸ hb; exact (List.pairwise_append.1 this).2.1
  refine ⟨merge_step h.inv hf (by rw [h.a_, h.b_]; exact hc) hra hrb (next_min hu hra hrb) hE, ?_, ?_⟩
  · show s.ta ++ grp u s.ra ++ s.ra.drop (grp u s.ra).length = a
    rw [List.append_assoc, ← grp_split, h.a_]
  · show s.tb ++ grp u s.rb ++ s.rb.drop (grp u s.rb).length = b
    rw [List.append_assoc, ← grp_split, h.b_]
theorem work_fine {f : List Tm} {a b : List Up} (hf : ∀ x ∈ f, x.right = true) (hc : chkUs (a ++ b) = 0) (ha : PlUp a) (hb : PlUp b) (fuel : Int) : ∀ (n : Nat) (s : MS), s.E = 0 → s.left ≤ n → s.Fine f a b →
    (workM f fuel n s).Fine f a b ∧ (workM f fuel n s).cost + (workM f fuel n s).left = s.cost + s.left ∧ s.cost ≤ (workM f fuel n s).cost ∧
    ((workM f fuel n s).E = 0 ∧ ((workM f fuel n s).left = 0 ∨ fuel ≤ (workM f fuel n s).cost) ∧ ((s.cost : Int) < fuel → 0 < s.left → s.cost < (workM f fuel n s).cost) ∨ (workM f fuel n s).E = 10 ∧ consE [advL f (a ++ b)] = 10) ∧
    ((s.left = 0 ∨ fuel ≤ s.cost) → workM f fuel n s = s)
  | 0, s, h0, hl, hs => ⟨hs, rfl, Nat.le_refl _, .inl ⟨h0, .inl (by show s.left = 0; omega), fun _ h => by omega⟩, fun _ => rfl⟩
  | n + 1, s, h0, hl, hs => by
    by_cases hlt : (s.cost : Int) < fuel
    case neg =>
      have e : workM f fuel (n + 1) s = s := by unfold workM; rw [if_neg hlt]
      rw [e]
      exact ⟨hs, rfl, Nat.le_refl _, .inl ⟨h0, .inr (by omega), fun h => absurd h hlt⟩, fun _ => rfl⟩
    cases hu : nextM s.ra s.rb with
    | none =>
      have e : workM f fuel (n + 1) s = s := by unfold workM; rw [if_pos hlt, hu]
      have h1 := next_none.1 hu
      have hz : s.left = 0 := by unfold MS.left; rw [h1.1, h1.2]; rfl
      rw [e]
      exact ⟨hs, rfl, Nat.le_refl _, .inl ⟨h0, .inl hz, fun _ h => by omega⟩, fun _ => rfl⟩
    | some u =>
      obtain ⟨l1, l2, l3⟩ := step_left (f := f) hu
      have hpos : ¬ (s.left = 0 ∨ fuel ≤ s.cost) := by omega
      by_cases hE : consE [advL f (grp u s.ra ++ grp u s.rb)] = 0
      · have e : workM f fuel (n + 1) s = workM f fuel n (s.step f u) := by rw [workM, if_pos hlt, hu]; exact if_pos hE
        obtain ⟨i1, i2, i3, i4, i5⟩ := work_fine hf hc ha hb fuel n (s.step f u) rfl (by omega) (fine_step hs hf hc ha hb hu hE)
        rw [e]
        refine ⟨i1, by omega, by omega, ?_, fun h => absurd h hpos⟩
        rcases i4 with ⟨j1, j2, _⟩ | j
        · exact .inl ⟨j1, j2, fun _ _ => by omega⟩
        · exact .inr j
      · have e : workM f fuel (n + 1) s = { s with E := consE [advL f (grp u s.ra ++ grp u s.rb)] } := by rw [workM, if_pos hlt, hu]; exact if_neg hE
        have hra : PlUp s.ra := by have := hs.a_ ▸ ha; exact (List.pairwise_append.1 this).2.1
        have hrb : PlUp s.rb := by have := hs.b_ ▸ hb; exact (List.pairwise_append.1 this).2.1
        have hfail := merge_fail hs.inv hf (by rw [hs.a_, hs.b_]; exact hc) hra hrb (next_min hu hra hrb) hE
        rw [hs.a_, hs.b_] at hfail
        rw [e]
        exact ⟨⟨hs.inv, hs.a_, hs.b_⟩, rfl, Nat.le_refl _, .inr ⟨hfail.1, hfail.2⟩, fun h => absurd h hpos⟩
end Go.Proofs.YthpjkikfadfgeaaGreat
namespace Go.Proofs.YthpjkikfadfgeaaGreat
open Go Go.RowKit

structure DivB (l : List Up) (i : Int) (o : List Up) : Prop where
  lo : 0 ≤ i
  hi : i ≤ l.length
  side : ∀ x y, 0 < i → l[i.toNat - 1]? = some x → l[i.toNat]? = some y → plc x y < 0
  past : ∀ z y, o[o.length - 1]? = some z → l[i.toNat]? = some y → plc z y < 0
structure MergOk (f : List Tm) (a b o : List Up) (i j : Int) : Prop where
  even : EvenP a ∧ EvenP b ∧ EvenP o
  front : FrontOk f
  advd : ∀ u ∈ o, adv u.t f = u.t
  da : DivB a i o
  db : DivB b j o
theorem even_two {a b : List Up} (ha : EvenP a) (hb : EvenP b) : chkUs (a ++ b) = 0 := chkUs_all.2 fun u hu => by
  rcases List.mem_append.1 hu with hu | hu
  · exact chkUs_all.1 ha.2.2 u hu
  · exact chkUs_all.1 hb.2.2 u hu
theorem div_of {t r o : List Up} (h1 : ∀ x ∈ t, ∀ y ∈ r, plc x y < 0) (h2 : ∀ z ∈ o, ∀ y ∈ r, plc z y < 0) : DivB (t ++ r) t.length o := by
  have hr : ∀ y, (t ++ r)[(t.length : Int).toNat]? = some y → y ∈ r := fun y hy => by
    rw [Int.toNat_natCast, List.getElem?_append_right (Nat.le_refl _)] at hy
    exact List.mem_of_getElem? hy
  refine ⟨by omega, by rw [List.length_append]; omega, fun x y hi hx hy => ?_, fun z y hz hy => h2 z (List.mem_of_getElem? hz) y (hr y hy)⟩
  rw [Int.toNat_natCast, List.getElem?_append_left (by omega)] at hx
  exact h1 x (List.mem_of_getElem? hx) y (hr y hy)
theorem fine_ok {f : List Tm} {a b o : List Up} {s : MS} (h : s.Fine f a b) (hf : FrontOk f) (ha : EvenP a) (hb : EvenP b) (ho : o.map Up.p = s.out) : MergOk f a b o s.ta.length s.tb.length := by
  have hc := even_two ha hb
  have hct : chkUs (s.ta ++ s.tb) = 0 := chkUs_all.2 fun u hu => chkUs_all.1 hc u (by
    rw [← h.a_, ← h.b_]
    simp only [List.mem_append] at hu ⊢
    rcases hu with hu | hu
    · exact .inl (.inl hu)
    · exact .inr (.inl hu))
  have hah := minv_ahead h.inv ho
  refine ⟨⟨ha, hb, minv_even h.inv hf.right hct ho⟩, hf, minv_advd h.inv ho, ?_, ?_⟩
  · rw [← h.a_]
    exact div_of (fun x hx y hy => h.inv.sep x (List.mem_append_left _ hx) y (List.mem_append_left _ hy)) fun z hz y hy => hah z hz y (List.mem_append_left _ hy)
  · rw [← h.b_]
    exact div_of (fun x hx y hy => h.inv.sep x (List.mem_append_right _ hx) y (List.mem_append_right _ hy)) fun z hz y hy => hah z hz y (List.mem_append_right _ hy)
theorem fine_start (f : List Tm) (a b : List Up) : MS.Fine f a b ⟨[], a, [], b, [], 0, 0⟩ := ⟨merge_start f a b, rfl, rfl⟩
end Go.Proofs.YthpjkikfadfgeaaGreat
namespace Go.Proofs.YthpjkikfadfgeaaGreat
open Go Go.RowKit

def Past_ (f : List Tm) (t : Tm) : Prop := f = [] ∨ beyond f t = true
def SameAt (f : List Tm) (X Y : List Up) : Prop := ∀ t, Past_ f t → ∀ r, sumOf cmpRows (atP X t) r = sumOf cmpRows (atP Y t) r
section
variable {f g : List Tm} {X Y Z W : List Up}
theorem SameAt.refl : SameAt f X X := fun _ _ _ => rfl
theorem SameAt.symm (h : SameAt f X Y) : SameAt f Y X := fun t ht r => (h t ht r).symm
theorem SameAt.trans (h : SameAt f X Y) (k : SameAt f Y Z) : SameAt f X Z := fun t ht r => (h t ht r).trans (k t ht r)
theorem SameAt.append (h : SameAt f X Y) (k : SameAt f Z W) : SameAt f (X ++ Z) (Y ++ W) := fun t ht r => by
  rw [at_append, at_append, sumOf_append, sumOf_append, h t ht r, k t ht r]
def LaterF (g f : List Tm) : Prop := f = [] ∨ (g ≠ [] ∧ ∀ x ∈ g, beyond f x = true)
theorem past_later (h : LaterF g f) {t : Tm} (ht : Past_ g t) : Past_ f t := by
  rcases h with h | ⟨h1, h2⟩
  · exact .inl h
  · rcases ht with ht | ht
    · exact absurd ht h1
    · obtain ⟨x, hx, hxt⟩ := beyond_iff.1 ht
      obtain ⟨y, hy, hyx⟩ := beyond_iff.1 (h2 x hx)
      exact .inr (beyond_iff.2 ⟨y, hy, le_trans' hyx hxt⟩)
theorem SameAt.later (h : SameAt f X Y) (k : LaterF g f) : SameAt g X Y := fun t ht r => h t (past_later k ht) r
end
end Go.Proofs.YthpjkikfadfgeaaGreat
namespace Go.Proofs.YthpjkikfadfgeaaGreat
open Go Go.RowKit

theorem up_p {x y : Up} (h : x.p = y.p) : x.key = y.key ∧ x.row = y.row ∧ x.t = y.t ∧ x.d = y.d := by
  have h : ((⟨x.key, x.row, x.t⟩ : Uk), x.d) = ((⟨y.key, y.row, y.t⟩ : Uk), y.d) := h
  simp only [Prod.mk.injEq, Uk.mk.injEq] at h
  exact ⟨h.1.1, h.1.2.1, h.1.2.2, h.2⟩
theorem plc_p {x x' y y' : Up} (hx : x.p = x'.p) (hy : y.p = y'.p) : plc x y = plc x' y' := by
  obtain ⟨a, b, _⟩ := up_p hx
  obtain ⟨c, d, _⟩ := up_p hy
  unfold plc
  rw [a, b, c, d]
theorem chkUs_p : ∀ {l m : List Up}, l.map Up.p = m.map Up.p → chkUs l = chkUs m
  | [], [], _ => rfl
  | [], _ :: _, h => by simp at h
  | _ :: _, [], h => by simp at h
  | x :: l, y :: m, h => by
    rw [List.map_cons, List.map_cons, List.cons.injEq] at h
    have ih := chkUs_p h.2
    have hk : x.k = y.k := congrArg Prod.fst h.1
    unfold chkUs chkU
    rw [ih, hk]
theorem even_p {l m : List Up} (h : l.map Up.p = m.map Up.p) (hl : EvenP l) : EvenP m := by
  refine ⟨fun u hu => ?_, by rw [← h]; exact hl.2.1, by rw [← chkUs_p h]; exact hl.2.2⟩
  have : u.p ∈ l.map Up.p := by rw [h]; exact List.mem_map_of_mem hu
  obtain ⟨x, hx, e⟩ := List.mem_map.1 this
  rw [← (up_p e).2.2.2]
  exact hl.1 x hx
theorem advL_p {l m : List Up} (f : List Tm) (h : l.map Up.p = m.map Up.p) : (advL f l).map Up.p = (advL f m).map Up.p := by
  have e : ∀ n : List Up, (advL f n).map Up.p = (n.map Up.p).map fun x => ((⟨x.1.key, x.1.row, adv x.1.t f⟩ : Uk), x.2) := fun n => by
    unfold advL
    rw [List.map_map, List.map_map]
    rfl
  rw [e, e, h]
theorem consL_p {l m : List Up} (h : l.map Up.p = m.map Up.p) : consL [l] = consL [m] ∧ consE [l] = consE [m] := by
  have hc : chkLs [l] = chkLs [m] := by unfold chkLs; rw [chkUs_p h]
  unfold consL consE
  rw [hc]
  simp only [List.flatten_cons, List.flatten_nil, List.append_nil]
  rw [h]
  exact ⟨rfl, rfl⟩
theorem mem_p {l m : List Up} (h : l.map Up.p = m.map Up.p) {x : Up} (hx : x ∈ l) : ∃ y ∈ m, y.p = x.p := by
  have : x.p ∈ m.map Up.p := by rw [← h]; exact List.mem_map_of_mem hx
  obtain ⟨y, hy, e⟩ := List.mem_map.1 this
  exact ⟨y, hy, e⟩
theorem len_p {l m : List Up} (h : l.map Up.p = m.map Up.p) : l.length = m.length := by have := congrArg List.length h; simpa using this
theorem take_p {l m : List Up} (h : l.map Up.p = m.map Up.p) (n : Nat) : (l.take n).map Up.p = (m.take n).map Up.p := by rw [List.map_take, List.map_take, h]
theorem drop_p {l m : List Up} (h : l.map Up.p = m.map Up.p) (n : Nat) : (l.drop n).map Up.p = (m.drop n).map Up.p := by rw [List.map_drop, List.map_drop, h]
theorem app_p {l m l' m' : List Up} (h : l.map Up.p = m.map Up.p) (h' : l'.map Up.p = m'.map Up.p) : (l ++ l').map Up.p = (m ++ m').map Up.p := by rw [List.map_append, List.map_append, h, h']
def startM (a : List Up) (i : Nat) (b : List Up) (j : Nat) (o : List (Uk × Int)) : MS := ⟨a.take i, a.drop i, b.take j, b.drop j, o, 0, 0⟩
def FineM (f : List Tm) (a : List Up) (i : Nat) (b : List Up) (j : Nat) (o : List (Uk × Int)) : Prop := i ≤ a.length ∧ j ≤ b.length ∧ (startM a i b j o).Fine f a b
theorem finem_copy {f : List Tm} {a a' b b' : List Up} {i j : Nat} {o : List (Uk × Int)} (h : FineM f a i b j o) (ha : a.map Up.p = a'.map Up.p) (hb : b.map Up.p = b'.map Up.p) : FineM f a' i b' j o := by
  obtain ⟨h1, h2, h3⟩ := h
  refine ⟨by rw [← len_p ha]; exact h1, by rw [← len_p hb]; exact h2, ⟨fun x hx y hy => ?_, ?_, ?_⟩, List.take_append_drop _ _, List.take_append_drop _ _⟩
  · obtain ⟨x0, hx0, ex⟩ := mem_p (app_p (take_p ha i) (take_p hb j)).symm hx
    obtain ⟨y0, hy0, ey⟩ := mem_p (app_p (drop_p ha i) (drop_p hb j)).symm hy
    rw [← plc_p ex ey]
    exact h3.inv.sep x0 hx0 y0 hy0
  · have := advL_p f (app_p (take_p ha i) (take_p hb j))
    show resE Uk.cmp ((advL f (a'.take i ++ b'.take j)).map Up.p) = 0
    rw [← this]
    exact h3.inv.fit
  · have := advL_p f (app_p (take_p ha i) (take_p hb j))
    show o = nz Uk.cmp ((advL f (a'.take i ++ b'.take j)).map Up.p)
    rw [← this]
    exact h3.inv.out_
theorem finem_start (f : List Tm) (a b : List Up) : FineM f a 0 b 0 [] := ⟨Nat.zero_le _, Nat.zero_le _, fine_start f a b⟩
theorem finem_of {f : List Tm} {a b : List Up} {s : MS} (h : s.Fine f a b) : FineM f a s.ta.length b s.tb.length s.out := by
  obtain ⟨h1, h2, h3⟩ := h
  subst h2; subst h3
  refine ⟨by rw [List.length_append]; omega, by rw [List.length_append]; omega, ?_⟩
  have e : startM (s.ta ++ s.ra) s.ta.length (s.tb ++ s.rb) s.tb.length s.out = ⟨s.ta, s.ra, s.tb, s.rb, s.out, 0, 0⟩ := by
    unfold startM
    rw [List.take_left, List.drop_left, List.take_left, List.drop_left]
  rw [e]
  exact ⟨h1, rfl, rfl⟩
theorem finem_ok {f : List Tm} {a b o : List Up} {i j : Nat} {O : List (Uk × Int)} (h : FineM f a i b j O) (hf : FrontOk f) (ha : EvenP a) (hb : EvenP b) (ho : o.map Up.p = O) : MergOk f a b o i j := by
  obtain ⟨h1, h2, h3⟩ := h
  have := fine_ok h3 hf ha hb ho
  have e1 : (startM a i b j O).ta.length = i := by show (a.take i).length = i; rw [List.length_take]; omega
  have e2 : (startM a i b j O).tb.length = j := by show (b.take j).length = j; rw [List.length_take]; omega
  rwa [e1, e2] at this
theorem start_left (a : List Up) (i : Nat) (b : List Up) (j : Nat) (o : List (Uk × Int)) : (startM a i b j o).left = (a.length - i) + (b.length - j) := by
  unfold startM MS.left
  rw [List.length_drop, List.length_drop]
end Go.Proofs.YthpjkikfadfgeaaGreat
namespace Go.Proofs.YthpjkikfadfgeaaGreat
open Go Go.RowKit

structure Bt where
  sA : Option Addr
  sc : Nat
  f : List Tm
  uA : Option Addr
  uc : Nat
  l : List Up
namespace Bt
def cells (b : Bt) : List Value := [.slice b.sA b.f.length b.sc, .slice b.uA b.l.length b.uc]
def val (b : Bt) : Value := .agg #[.slice b.sA b.f.length b.sc, .slice b.uA b.l.length b.uc]
end Bt
structure BtIn (w : World) (B : Nat) (b : Bt) : Prop where
  since : Times w B b.sA b.f
  ups : Ups w B b.uA b.l
theorem BtIn.past {w w' : World} {B B' : Nat} {b : Bt} (h : BtIn w B b) (hb : Below B' w w') (hB : B ≤ B') : BtIn w' B b := ⟨h.since.past hb hB, h.ups.past hb hB⟩
theorem BtIn.wide {w : World} {B B' : Nat} {b : Bt} (h : BtIn w B b) (hB : B ≤ B') : BtIn w B' b := ⟨h.since.wide hB, h.ups.wide hB⟩
theorem BtIn.keep {w w' : World} {b : Bt} (h : BtIn w w.heap.size b) (hb : Below w.heap.size w w') : BtIn w' w'.heap.size b := (h.past hb (Nat.le_refl _)).wide hb.size
def big : Nat := 1099511627776
structure TsOk (f : List Tm) (c : Nat) : Prop where
  n : f.length ≤ 1099511627776
  le : f.length ≤ c
  c_ : c ≤ maxLen
structure UsOk (l : List Up) : Prop where
  n : l.length ≤ 1099511627776
  ok : ∀ u ∈ l, UOk u
structure BtOk (b : Bt) : Prop where
  f : TsOk b.f b.sc
  l : UsOk b.l
def Bt.nil : Bt := ⟨none, 0, [], none, 0, []⟩
theorem bt_nil_in (w : World) (B : Nat) : BtIn w B Bt.nil := ⟨Times.nil_, ⟨Lies.nil_, fun u hu => by cases hu⟩⟩
theorem ts_nil : TsOk [] 0 := ⟨Nat.zero_le _, Nat.le_refl _, Nat.zero_le _⟩
theorem us_nil : UsOk [] := ⟨Nat.zero_le _, fun u hu => by cases hu⟩
theorem bt_nil_ok : BtOk Bt.nil := ⟨ts_nil, us_nil⟩
def LoT (B : Nat) (A : Option Addr) : Prop := ∀ b o, A = some (⟨b, o, none⟩ : Addr) → B ≤ b
structure BtLo (B : Nat) (b : Bt) : Prop where
  f : LoT B b.sA
  l : Lo B b.uA b.l
theorem lot_nil (B : Nat) : LoT B none := fun _ _ h => by cases h
theorem bt_nil_lo (B : Nat) : BtLo B Bt.nil := ⟨lot_nil B, lo_nil B⟩
theorem Lo.mono {B B' : Nat} {A : Option Addr} {l : List Up} (h : Lo B A l) (hB : B' ≤ B) : Lo B' A l := ⟨fun b o e => Nat.le_trans hB (h.1 b o e), fun u hu b o e => Nat.le_trans hB (h.2 u hu b o e)⟩
theorem LoT.mono {B B' : Nat} {A : Option Addr} (h : LoT B A) (hB : B' ≤ B) : LoT B' A := fun b o e => Nat.le_trans hB (h b o e)
theorem BtLo.mono {B B' : Nat} {b : Bt} (h : BtLo B b) (hB : B' ≤ B) : BtLo B' b := ⟨h.f.mono hB, h.l.mono hB⟩
structure Mg where
  aA : Option Addr
  ac : Nat
  a : List Up
  bA : Option Addr
  bc : Nat
  b : List Up
  i : Int
  j : Int
  sA : Option Addr
  sc : Nat
  f : List Tm
  oA : Option Addr
  oc : Nat
  o : List Up
namespace Mg
def cells (m : Mg) : List Value := [.slice m.aA m.a.length m.ac, .slice m.bA m.b.length m.bc, .int .i64 m.i, .int .i64 m.j, .slice m.sA m.f.length m.sc, .slice m.oA m.o.length m.oc]
def val (m : Mg) : Value := .agg #[.slice m.aA m.a.length m.ac, .slice m.bA m.b.length m.bc, .int .i64 m.i, .int .i64 m.j, .slice m.sA m.f.length m.sc, .slice m.oA m.o.length m.oc]
def nil : Mg := ⟨none, 0, [], none, 0, [], 0, 0, none, 0, [], none, 0, []⟩
end Mg
structure MgIn (w : World) (B : Nat) (m : Mg) : Prop where
  a : Ups w B m.aA m.a
  b : Ups w B m.bA m.b
  f : Times w B m.sA m.f
  o : Ups w B m.oA m.o
theorem MgIn.past {w w' : World} {B B' : Nat} {m : Mg} (h : MgIn w B m) (hb : Below B' w w') (hB : B ≤ B') : MgIn w' B m := ⟨h.a.past hb hB, h.b.past hb hB, h.f.past hb hB, h.o.past hb hB⟩
theorem MgIn.wide {w : World} {B B' : Nat} {m : Mg} (h : MgIn w B m) (hB : B ≤ B') : MgIn w B' m := ⟨h.a.wide hB, h.b.wide hB, h.f.wide hB, h.o.wide hB⟩
theorem MgIn.keep {w w' : World} {m : Mg} (h : MgIn w w.heap.size m) (hb : Below w.heap.size w w') : MgIn w' w'.heap.size m := (h.past hb (Nat.le_refl _)).wide hb.size
structure MgOk (m : Mg) : Prop where
  a : UsOk m.a
  b : UsOk m.b
  f : TsOk m.f m.sc
  o : UsOk m.o
  i : -9223372036854775808 ≤ m.i ∧ m.i ≤ 9223372036854775807
  j : -9223372036854775808 ≤ m.j ∧ m.j ≤ 9223372036854775807
structure MgLo (B : Nat) (m : Mg) : Prop where
  a : Lo B m.aA m.a
  b : Lo B m.bA m.b
  f : LoT B m.sA
  o : Lo B m.oA m.o
theorem MgLo.mono {B B' : Nat} {m : Mg} (h : MgLo B m) (hB : B' ≤ B) : MgLo B' m := ⟨h.a.mono hB, h.b.mono hB, h.f.mono hB, h.o.mono hB⟩
theorem mg_nil_in (w : World) (B : Nat) : MgIn w B Mg.nil := ⟨⟨Lies.nil_, fun u hu => by cases hu⟩, ⟨Lies.nil_, fun u hu => by cases hu⟩, Times.nil_, ⟨Lies.nil_, fun u hu => by cases hu⟩⟩
theorem mg_nil_ok : MgOk Mg.nil := ⟨us_nil, us_nil, ts_nil, us_nil, by decide, by decide⟩
theorem mg_nil_lo (B : Nat) : MgLo B Mg.nil := ⟨lo_nil B, lo_nil B, lot_nil B, lo_nil B⟩
theorem btbox (w : World) (b : Bt) : ∃ W, W = w.alloc (.cells #[.slice b.sA b.f.length b.sc, .slice b.uA b.l.length b.uc] 42) ∧ Below w.heap.size w W ∧ W.heap.size = w.heap.size + 1 ∧ Own W w.heap.size 42 b.cells :=
  ⟨_, rfl, (Below.refl _ _).alloc (Nat.le_refl _) _, by simp, Own.made w 42 b.cells⟩
theorem mgbox (w : World) (m : Mg) : ∃ W, W = w.alloc (.cells #[.slice m.aA m.a.length m.ac, .slice m.bA m.b.length m.bc, .int .i64 m.i, .int .i64 m.j, .slice m.sA m.f.length m.sc, .slice m.oA m.o.length m.oc] 25) ∧ Below w.heap.size w W ∧ W.heap.size = w.heap.size + 1 ∧ Own W w.heap.size 25 m.cells :=
  ⟨_, rfl, (Below.refl _ _).alloc (Nat.le_refl _) _, by simp, Own.made w 25 m.cells⟩
theorem times_other {w X : World} {P : Nat} {A : Option Addr} {l : List Tm} (h : Times w w.heap.size A l) (hA : LoT (P + 1) A) (hs : X.heap.size = w.heap.size) (hX : ∀ b, b ≠ P → X.heap[b]? = w.heap[b]?) : Times X X.heap.size A l := fun hp => by
  obtain ⟨b, o, e, hb, hc⟩ := h hp
  have hne : b ≠ P := by have := hA b o e; omega
  have hk : ∀ j, X.cell? ⟨b, j, none⟩ = w.cell? ⟨b, j, none⟩ := fun j => by unfold World.cell?; rw [hX b hne]
  refine ⟨b, o, e, by omega, fun i v hi => ?_⟩
  obtain ⟨a0, a1, a2⟩ := hc i v hi
  exact ⟨(hk _).trans a0, (hk _).trans a1, (hk _).trans a2⟩
theorem ups_other {w X : World} {P : Nat} {A : Option Addr} {l : List Up} (h : Ups w w.heap.size A l) (hlo : Lo (P + 1) A l) (hs : X.heap.size = w.heap.size) (hX : ∀ b, b ≠ P → X.heap[b]? = w.heap[b]?) : Ups X X.heap.size A l := by
  refine ⟨fun hp => ?_, fun u hu => ⟨vals_other (h.each_ u hu).key (fun b o e => hlo.2 u hu b o (.inl e)) hs hX, vals_other (h.each_ u hu).row (fun b o e => hlo.2 u hu b o (.inr e)) hs hX⟩⟩
  obtain ⟨b, o, e, hb, hc⟩ := h.head hp
  have hne : b ≠ P := by have := hlo.1 b o e; omega
  exact ⟨b, o, e, by omega, fun i x hi j u hj => by
    rw [← hc i x hi j u hj]
    unfold World.cell?
    rw [hX b hne]⟩
theorem set2_other (w : World) (P : Nat) (x y : Value) : ((w.setCell ⟨P, 0, none⟩ x).setCell ⟨P, 1, none⟩ y).heap.size = w.heap.size ∧ ∀ b, b ≠ P → ((w.setCell ⟨P, 0, none⟩ x).setCell ⟨P, 1, none⟩ y).heap[b]? = w.heap[b]? :=
  ⟨by simp [World.setCell], fun b hb => (Below.heap_setCell _ ⟨P, 1, none⟩ y b hb).trans (Below.heap_setCell w ⟨P, 0, none⟩ x b hb)⟩
end Go.Proofs.YthpjkikfadfgeaaGreat
namespace Go.Proofs.YthpjkikfadfgeaaGreat
open Go Go.RowKit

structure IntsOnly (B : Nat) (V W : World) : Prop where
  below : Below B V W
  size : W.heap.size = V.heap.size
  open_ : ∀ a, W.frozen? a = V.frozen? a
  cell : ∀ a v, V.cell? a = some v → W.cell? a = some v ∨ ∃ n m : Int, v = .int .i64 n ∧ W.cell? a = some (.int .i64 m)
theorem IntsOnly.refl (B : Nat) (V : World) : IntsOnly B V V := ⟨Below.refl _ _, rfl, fun _ => rfl, fun _ _ h => .inl h⟩
theorem IntsOnly.drew {B : Nat} {V W : World} (h : IntsOnly B V W) : IntsOnly B V W.drew := ⟨h.below.drew, h.size, h.open_, h.cell⟩
theorem IntsOnly.set {B : Nat} {V W : World} {a : Addr} {n : Int} (h : IntsOnly B V W) (ha : W.cell? a = some (.int .i64 n)) (hB : B ≤ a.block) (k : Int) : IntsOnly B V (W.setCell a (.int .i64 k)) := by
  refine ⟨h.below.setCell hB _, by rw [← h.size]; simp [World.setCell], fun b => by rw [World.frozen?_setCell]; exact h.open_ b, fun b v hb => ?_⟩
  by_cases e : a = b
  · subst e
    rw [World.cell?_setCell_same (h := ha)]
    rcases h.cell a v hb with h1 | ⟨i, j, rfl, _⟩
    · rw [ha] at h1
      injection h1 with h1
      exact .inr ⟨n, k, h1.symm, rfl⟩
    · exact .inr ⟨i, k, rfl, rfl⟩
  · rw [World.cell?_setCell_other (h := e)]
    exact h.cell b v hb
theorem IntsOnly.slice {B : Nat} {V W : World} {a : Addr} {A : Option Addr} {n c : Nat} (h : IntsOnly B V W) (ha : V.cell? a = some (.slice A n c)) : W.cell? a = some (.slice A n c) := by
  rcases h.cell a _ ha with h1 | ⟨_, _, e, _⟩
  · exact h1
  · cases e
theorem IntsOnly.int {B : Nat} {V W : World} {a : Addr} {n : Int} (h : IntsOnly B V W) (ha : V.cell? a = some (.int .i64 n)) : ∃ m, W.cell? a = some (.int .i64 m) := by
  rcases h.cell a _ ha with h1 | ⟨_, m, _, h1⟩
  · exact ⟨n, h1⟩
  · exact ⟨m, h1⟩
structure SpoilAt (W : World) (B : Nat) (u : Up) (p : Nat) (o : Nat) : Prop where
  lo : B ≤ p
  row : W.cell? ⟨p, o + 1, none⟩ = some (.slice u.rA u.row.length u.rc)
  diff : ∃ n, W.cell? ⟨p, o + 5, none⟩ = some (.int .i64 n)
  openU : W.frozen? ⟨p, o + 5, none⟩ = false
  vals : ∀ (i : Nat), i < u.row.length → ∃ b q n, u.rA = some ⟨b, q, none⟩ ∧ B ≤ b ∧ W.cell? ⟨b, q + 3 * i + 1, none⟩ = some (.int .i64 n) ∧ W.frozen? ⟨b, q + 3 * i + 1, none⟩ = false
theorem SpoilAt.past {B : Nat} {V W : World} {u : Up} {p o : Nat} (h : SpoilAt V B u p o) (k : IntsOnly B V W) : SpoilAt W B u p o := by
  obtain ⟨n, hn⟩ := h.diff
  refine ⟨h.lo, k.slice h.row, k.int hn, (k.open_ _).trans h.openU, fun i hi => ?_⟩
  obtain ⟨b, q, n, e, hb, hc, hf⟩ := h.vals i hi
  obtain ⟨m, hm⟩ := k.int hc
  exact ⟨b, q, m, e, hb, hm, (k.open_ _).trans hf⟩
end Go.Proofs.YthpjkikfadfgeaaGreat
namespace Go.Proofs.YthpjkikfadfgeaaGreat
open Go Go.RowKit

def Opn (w : World) (B : Nat) (A : Option Addr) : Prop := ∀ b o, A = some (⟨b, o, none⟩ : Addr) → B ≤ b ∧ ∃ cs t, w.heap[b]? = some (.cells cs t (0, 0))
theorem Opn.none_ (w : World) (B : Nat) : Opn w B none := fun _ _ e => by cases e
theorem Opn.past {w w' : World} {B : Nat} {A : Option Addr} (h : Opn w B A) (hb : Below w.heap.size w w') : Opn w' B A := fun b o e => by
  obtain ⟨h1, cs, t, h2⟩ := h b o e
  exact ⟨h1, cs, t, (hb.block b (Array.getElem?_eq_some_iff.1 h2).1).trans h2⟩
theorem Opn.low {w : World} {B B' : Nat} {A : Option Addr} (h : Opn w B A) (hB : B' ≤ B) : Opn w B' A := fun b o e => ⟨Nat.le_trans hB (h b o e).1, (h b o e).2⟩
theorem Opn.other {w X : World} {B P : Nat} {A : Option Addr} (h : Opn w B A) (hA : ∀ b o, A = some (⟨b, o, none⟩ : Addr) → P < b) (hX : ∀ b, b ≠ P → X.heap[b]? = w.heap[b]?) : Opn X B A := fun b o e => by
  obtain ⟨h1, cs, t, h2⟩ := h b o e
  exact ⟨h1, cs, t, (hX b (by have := hA b o e; omega)).trans h2⟩
theorem Opn.free {w : World} {B b o : Nat} {A : Option Addr} (h : Opn w B A) (e : A = some (⟨b, o, none⟩ : Addr)) (i : Nat) : w.frozen? ⟨b, i, none⟩ = false := by
  obtain ⟨_, cs, t, h2⟩ := h b o e
  simp [World.frozen?, h2]
def UOpn (w : World) (B : Nat) (u : Up) : Prop := Opn w B u.kA ∧ Opn w B u.rA
def LOpn (w : World) (B : Nat) (A : Option Addr) (l : List Up) : Prop := Opn w B A ∧ ∀ u ∈ l, UOpn w B u
theorem UOpn.past {w w' : World} {B : Nat} {u : Up} (h : UOpn w B u) (hb : Below w.heap.size w w') : UOpn w' B u := ⟨h.1.past hb, h.2.past hb⟩
theorem LOpn.past {w w' : World} {B : Nat} {A : Option Addr} {l : List Up} (h : LOpn w B A l) (hb : Below w.heap.size w w') : LOpn w' B A l := ⟨h.1.past hb, fun u hu => (h.2 u hu).past hb⟩
theorem UOpn.low {w : World} {B B' : Nat} {u : Up} (h : UOpn w B u) (hB : B' ≤ B) : UOpn w B' u := ⟨h.1.low hB, h.2.low hB⟩
theorem LOpn.low {w : World} {B B' : Nat} {A : Option Addr} {l : List Up} (h : LOpn w B A l) (hB : B' ≤ B) : LOpn w B' A l := ⟨h.1.low hB, fun u hu => (h.2 u hu).low hB⟩
def KeptO (u : Up) (n : Int) (w : World) (x : Ending) (w' : World) : Prop :=
  ∃ u' : Up, x = .returned u'.val ∧ u'.key = u.key ∧ u'.row = u.row ∧ u'.t = u.t ∧ u'.d = n ∧ UIn w' w'.heap.size u' ∧ UOpn w' w.heap.size u' ∧ Below w.heap.size w w'
set_option maxRecDepth 100000 in
set_option maxHeartbeats 3200000 in
theorem listV_anyO (A : Option Addr) (c : Nat) (l : List Vl) (w : World) (hl : Vals w w.heap.size A l) (hn : l.length * 32 ≤ 281474976710656) :
    Calls Tryz.prog 120 #[.slice A l.length c] w fun x w' => ∃ A' c', x = .returned (.slice A' l.length c') ∧ Vals w' w'.heap.size A' l ∧ Opn w' w.heap.size A' ∧ Below w.heap.size w w' := by
  obtain ⟨i0, hi, hz0, hz1, hz2⟩ := info_parts infoVl
  have hU := Tryz.underlying32
  have hsz1 : (Tryz.prog.info? 40).map (·.size) = some 3 := by rw [hi]; simp [hz1]
  cases l with
  | nil =>
    clear hl hn hi hz0 hz1 hz2 hU hsz1
    go_enter Tryz.func120, Tryz.ntmps120
    go_wp2_with fail
    go_ret
    exact ⟨_, _, rfl, fun h => absurd h (by simp), fun _ _ h => (by cases h), Below.refl _ _⟩
  | cons t l =>
    obtain ⟨b, o, rfl, hB, hc⟩ := hl (by simp)
    obtain ⟨m, hm⟩ : ∃ m, m = t :: l := ⟨_, rfl⟩
    have hpos : 0 < m.length := by rw [hm]; simp
    rw [← hm] at hc hn ⊢
    have t1 : ((m.length : Int) == 0) = false := beq_eq_false_iff_ne.2 (by omega)
    have HC := Lib.hid hc
    clear hc hm hl
    go_enter Tryz.func120, Tryz.ntmps120
    go_wp2_with (refine wpList_make_full _ rfl (.tmp 8) (.tmp 8) 32 rfl w.heap.size 40 i0 _ 3 hU hi hz0 hz1 .i64 .i64 _ _ m.length rfl rfl rfl rfl ?c1 ?c2 ?c3 ?_)
    case c1 => rw [hz2]; omega
    case c2 => unfold maxLen; omega
    case c3 => exact Nat.le_refl _
    intro w1 ho1 hg1
    obtain ⟨cur, ho1⟩ : ∃ cur, w1.ownsRow w.heap.size 40 3 (.slice (some ⟨w.heap.size, 0, none⟩) m.length m.length) m.length cur := ⟨_, ho1⟩
    have hm1 := own_made ho1
    have hb1 : Below w.heap.size w w1 := (Below.refl _ _).grown hg1 (Nat.le_refl _) (fun k h => by cases h)
    have hlen1 : cur.length = m.length * 3 := ho1.1
    have hcl : (m.flatMap Vl.cells).length = m.length * 3 := flat_size (size := 3) (cells := Vl.cells) (fun _ => rfl) m
    have hsrc : ∀ j v, (m.flatMap Vl.cells)[j]? = some v → w1.cell? ((⟨b, o, none⟩ : Addr).add j) = some v := fun j v hv => by
      obtain ⟨i, r, x, rfl, hx, hr⟩ := flat_back (size := 3) (cells := Vl.cells) (by decide) (fun _ => rfl) m j v hv
      have ea : (⟨b, o, none⟩ : Addr).add (i * 3 + r) = ⟨b, o + i * 3 + r, none⟩ := by unfold Addr.add; split <;> simp_all <;> omega
      rw [ea, hb1.cell (p := ⟨b, o + i * 3 + r, none⟩) hB]
      obtain ⟨a0, a1, a2⟩ := HC.out i x hx
      match r, hr with
      | 0, hr => rw [← hr]; exact a0
      | 1, hr => rw [← hr]; exact a1
      | 2, hr => rw [← hr]; exact a2
    have hrun := fun ty => run_copy_all (P := Tryz.prog) w1 32 32 ty 40 w.heap.size m.length m.length c 3 ⟨b, o, none⟩ cur (m.flatMap Vl.cells) 40 hU hsz1 hm1 hcl hsrc (by rw [hcl, hlen1]) (fun v hv => by
      obtain ⟨x, _, hx⟩ := List.mem_flatMap.1 hv
      exact vl_one x v hx)
    have ho2 : Own (w1.setRow w.heap.size (m.flatMap Vl.cells).toArray) w.heap.size 40 (m.flatMap Vl.cells) := own_setRow hm1
    have hb2 : Below w.heap.size w (w1.setRow w.heap.size (m.flatMap Vl.cells).toArray) := below_setRow hb1 (Nat.le_refl _) _
    have HR := Lib.hid hrun
    obtain ⟨w2, hw2⟩ : ∃ w2, w2 = w1.setRow w.heap.size (m.flatMap Vl.cells).toArray := ⟨_, rfl⟩
    rw [← hw2] at HR ho2 hb2
    have H2 := Lib.hid (And.intro ho2 hb2)
    clear hw2 hrun ho2 hb2 hsrc hcl hm1 hb1 hlen1 ho1 hg1 hU hsz1 hi hz0 hz1 hz2
    go_wp2_with (refine Lib.wpList_copy_run _ rfl _ _ 32 32 rfl _ _ rfl rfl (HR.out _) ?_)
    go_wp2_with fail
    go_ret
    refine ⟨_, _, rfl, fun _ => ⟨w.heap.size, 0, rfl, H2.out.1.inside, fun i x hx => ?_⟩, fun b' o' e => ?_, H2.out.2⟩
    · have := fun r v hr => flat_of (cells := Vl.cells) (size := 3) (fun _ => rfl) m i r x v hx hr
      refine ⟨?_, ?_, ?_⟩
      · rw [H2.out.1.at_]; exact (by simpa using this 0 _ rfl)
      · rw [H2.out.1.at_]; exact (by simpa using this 1 _ rfl)
      · rw [H2.out.1.at_]; exact (by simpa using this 2 _ rfl)
    · simp only [Option.some.injEq, Addr.mk.injEq, and_true] at e
      obtain ⟨rfl, rfl⟩ := e
      exact ⟨Nat.le_refl _, _, _, H2.out.1⟩
end Go.Proofs.YthpjkikfadfgeaaGreat
namespace Go.Proofs.YthpjkikfadfgeaaGreat
open Go Go.RowKit

set_option maxRecDepth 100000 in
set_option maxHeartbeats 6400000 in
theorem retain_anyO (u : Up) (n : Int) (w : World) (hu : UIn w w.heap.size u) (ok : u.key.length * 32 ≤ 281474976710656 ∧ u.row.length * 32 ≤ 281474976710656) :
    Calls Tryz.prog 127 #[u.val, .int .i64 n] w (KeptO u n w) := by
  obtain ⟨V, hV, hvb, hvo, hvz⟩ := ret_box w u
  have hin := hu.keep hvb
  have y1 := fun W (h : Bl V W) => Lib.hid (listV_anyO u.kA u.kc u.key W (hin.keep h).key ok.1)
  have y2 := fun W (h : Bl V W) => Lib.hid (listV_anyO u.rA u.rc u.row W (hin.keep h).row ok.2)
  have hB := hvz.inside
  have HS := Lib.hid (fun W (h : Bm (w.heap.size + 1) V W) => let k := own6 (hvo.past h (Nat.lt_succ_self _)); (⟨k.1, k.2.1, k.2.2.1, k.2.2.2.1, k.2.2.2.2.1⟩ : W.cell? ⟨w.heap.size, 0, none⟩ = some (.slice u.kA u.key.length u.kc) ∧ W.cell? ⟨w.heap.size, 1, none⟩ = some (.slice u.rA u.row.length u.rc) ∧ W.cell? ⟨w.heap.size, 2, none⟩ = some (.int .u64 (u.t.e : Int)) ∧ W.cell? ⟨w.heap.size, 3, none⟩ = some (.int .u64 (u.t.a : Int)) ∧ W.cell? ⟨w.heap.size, 4, none⟩ = some (.int .u64 (u.t.b : Int))))
  have HZ := Lib.hid (fun W (h : Bl V W) => hvz.past h hvz.inside)
  have HB := Lib.hid hvb
  have hself := Bl.refl V
  obtain ⟨d0, d1, d2, d3, d4, d5⟩ := own6 hvo
  have huv : u.val = .agg #[.slice u.kA u.key.length u.kc, .slice u.rA u.row.length u.rc, .int .u64 (u.t.e : Int), .int .u64 (u.t.a : Int), .int .u64 (u.t.b : Int), .int .i64 u.d] := rfl
  rw [huv]
  have hbs : w.heap.size + 1 ≤ V.heap.size := Nat.le_of_lt hB
  clear huv hu ok hvb hvo hvz hin
  go_enter Tryz.func127, Tryz.ntmps127
  go_upto_region 1 with fail
  rw [← hV]
  clear hV
  go_region_held3 (fun w' => Bm (w.heap.size + 1) V w' ∧ (w'.cell? ⟨w.heap.size, 0, none⟩ = some (.slice u.kA u.key.length u.kc) ∧ w'.cell? ⟨w.heap.size, 1, none⟩ = some (.slice u.rA u.row.length u.rc) ∧ w'.cell? ⟨w.heap.size, 2, none⟩ = some (.int .u64 (u.t.e : Int)) ∧ w'.cell? ⟨w.heap.size, 3, none⟩ = some (.int .u64 (u.t.a : Int)) ∧ w'.cell? ⟨w.heap.size, 4, none⟩ = some (.int .u64 (u.t.b : Int))))
    ((refine (fun h => And.intro h (HS.out _ h)) ?_; repeat (first | with_reducible exact Bm.of hb2 hbs | with_reducible exact Bm.of hb1 hbs | with_reducible exact Bm.of hself hbs | with_reducible refine Bm.set ?_ (Nat.le_refl _) _ _ | with_reducible refine Bm.more ?_ hbs _ | with_reducible refine Bm.drew ?_)))
    (first | (go_at_call 120; have hq := hb1; refine (y2 _ hb1).out.mono ?_; rintro _ w2 ⟨A2, k2, rfl, v2, n2, b2⟩; have hb2 : Bl V w2 := Bl.call hb1 b2; have v1 := vals_keep v1 b2; obtain ⟨f0, f1, f2, f3, f4, f5⟩ := own_frozen6 (HZ.out _ hb2); obtain ⟨e0, e1, e2, e3, e4, e5⟩ := own6 (HZ.out _ hb2)) | (go_at_call 120; refine (y1 _ hself.drew).out.mono ?_; rintro _ w1 ⟨A1, k1, rfl, v1, n1, b1⟩; have hb1 : Bl V w1 := Bl.call hself.drew b1))
  all_goals
    obtain ⟨X, hX, hXo, hXb, hXs, hXh⟩ := own_six (HZ.out _ hb2) (.slice A1 u.key.length k1) (.slice A2 u.row.length k2) (.int .u64 (u.t.e : Int)) (.int .u64 (u.t.a : Int)) (.int .u64 (u.t.b : Int)) (.int .i64 n)
    have v1' := vals_other v1 (fun b o e => by have := (n1 b o e).1; simp at this; omega) hXs hXh
    have v2' := vals_other v2 (fun b o e => by have := (n2 b o e).1; have := hb1.size; omega) hXs hXh
    have hfar : Opn X w.heap.size A1 ∧ Opn X w.heap.size A2 := ⟨((n1.past b2).other (fun b o e => by have := (n1 b o e).1; simp at this; omega) hXh).low (by simp; omega), (n2.other (fun b o e => by have := (n2 b o e).1; have := hb1.size; omega) hXh).low (by have := hb1.size; omega)⟩
    have hbX := hXb w.heap.size w (HB.out.trans (hb2.below.mono HB.out.size)) (Nat.le_succ _)
    rw [← hX]
    obtain ⟨x0, x1, x2, x3, x4, x5⟩ := own6 hXo
    clear hX hXo hXb hXs hXh f0 f1 f2 f3 f4 f5 e0 e1 e2 e3 e4 e5
    go_wp2_with fail
    exact bodyPost_ret (v := .agg #[.slice A1 u.key.length k1, .slice A2 u.row.length k2, .int .u64 (u.t.e : Int), .int .u64 (u.t.a : Int), .int .u64 (u.t.b : Int), .int .i64 n]) (by simp [results, Tryz.results127, go_sem, x0, x1, x2, x3, x4, x5]) rfl ⟨⟨A1, k1, u.key, A2, k2, u.row, u.t, n⟩, rfl, rfl, rfl, rfl, rfl, ⟨v1', v2'⟩, hfar, hbX⟩
end Go.Proofs.YthpjkikfadfgeaaGreat
