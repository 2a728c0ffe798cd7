/- Types: of a value, of a row; whether some are the same. -/
import Derived.Test.YticcaogceoahdaaEEvE
namespace Go.Proofs.Yticcaogceoahdaa
open Go Go.RowKit

def cellT (t : Int) : Value := .int .u8 t
/-- a slice of types that reads as a list -/
def Tys (w : World) (B : Nat) (A : Option Addr) (l : List Int) : Prop :=
  0 < l.length → ∃ b o, A = some ⟨b, o, none⟩ ∧ b < B ∧ ∀ (i : Nat) (t : Int), l[i]? = some t → w.cell? ⟨b, o + i, none⟩ = some (.int .u8 t)
theorem Tys.past {w w' : World} {B B' : Nat} {A : Option Addr} {l : List Int} (h : Tys w B A l) (hb : Below B' w w') (hB : B ≤ B') : Tys w' B A l := fun hn => by
  obtain ⟨b, o, e, hlt, hc⟩ := h hn
  exact ⟨b, o, e, hlt, fun i t hi => (hb.cell (p := ⟨b, o + i, none⟩) (show b < B' by omega)).trans (hc i t hi)⟩
theorem Tys.wide {w : World} {B B' : Nat} {A : Option Addr} {l : List Int} (h : Tys w B A l) (hB : B ≤ B') : Tys w B' A l := fun hn => by
  obtain ⟨b, o, e, hlt, hc⟩ := h hn
  exact ⟨b, o, e, by omega, hc⟩
theorem tys_of_own {w : World} {base : Nat} {e : TypeId} {v : Value} {l : List Int} {n : Nat} (hn : n = l.length) (h : w.ownsRow base e 1 v n (l.map cellT)) :
    ∃ A c, v = .slice A l.length c ∧ l.length ≤ c ∧ c ≤ maxLen ∧ Tys w w.heap.size A l ∧ ∀ b o s, A = some ⟨b, o, s⟩ → base ≤ b ∧ o = 0 := by
  subst hn
  rcases h.2 with ⟨rfl, h0⟩ | ⟨g, cap, cur, rfl, hb, hg, h1, h2, h3, h4⟩
  · exact ⟨none, 0, by rw [h0], by omega, by unfold maxLen; omega, fun h => by omega, fun _ _ _ h => by cases h⟩
  · refine ⟨_, cap, rfl, h1, h2, fun _ => ⟨g, 0, rfl, (Array.getElem?_eq_some_iff.1 hg).1, fun i t hi => ?_⟩, fun b o s h => by cases h; exact ⟨hb, rfl⟩⟩
    have hlt : i < l.length := (List.getElem?_eq_some_iff.1 hi).1
    rw [Nat.zero_add, h.cellAt _ (by omega)]
    rw [List.getElem?_map, hi]
    rfl
def tyV (v : Vl) : Int := if v.t then 2 else 1
def sameU (u : Int) (l : List Int) : Int := if l.all (· == l.headD 0) then u else fl u 11
theorem fl_fl (u f : Int) (hf : f ≠ 0) : fl (fl u f) f = fl u f := by unfold fl; split <;> simp_all
set_option maxRecDepth 100000 in
set_option maxHeartbeats 800000 in
theorem typeOf_any (v : Vl) (w : World) : Calls Try.prog 15 #[v.val] w fun e w' => e = .returned (.int .u8 (tyV v)) ∧ Below w.heap.size w w' := by
  obtain ⟨t, n, s⟩ := v
  unfold Vl.val tyV
  cases t
  all_goals
    simp only [Bool.false_eq_true, if_false, if_true]
    go_enter Try.func15, Try.ntmps15
    go_wp2_with fail
    go_ret
    exact ⟨rfl, (Below.refl _ _).alloc (Nat.le_refl _) _⟩
/-- the failure so far, of the first k -/
def sameK (u : Int) (l : List Int) (k : Nat) : Int := if (l.take k).all (· == l.headD 0) then u else fl u 11
theorem sameK_next {u : Int} {l : List Int} {k : Nat} {t : Int} (h : l[k]? = some t) : sameK u l (k + 1) = if t = l.headD 0 then sameK u l k else fl (sameK u l k) 11 := by
  unfold sameK
  rw [List.take_add_one, h]
  generalize l.headD 0 = d
  simp only [Option.toList_some, List.all_append, List.all_cons, List.all_nil, Bool.and_true]
  by_cases ht : t = d
  · subst ht; simp
  · rw [if_neg ht]
    have : (t == d) = false := by simpa using ht
    rw [this, Bool.and_false, if_neg (by simp)]
    split
    · rfl
    · rw [fl_fl _ _ (by decide)]
set_option maxRecDepth 100000 in
set_option maxHeartbeats 3200000 in
theorem same_any (A : Option Addr) (n c : Nat) (u : Int) (A' : Option Addr) (c' : Nat) (l : List Int) (g : Nat) (w : World) (hl : Tys w w.heap.size A' l) (hne : ∀ b o, A' = some ⟨b, o, none⟩ → b ≠ g) (hn : l.length ≤ maxLen)
    (ho : Own w g 49 (evL u A n c)) :
    Calls Try.prog 20 #[.pointer (some ⟨g, 0, none⟩), .slice A' l.length c'] w fun x w' => x = .returned (.tuple #[]) ∧ Upd w w' g 49 (evL (sameU u l) A n c) := by
  unfold maxLen at hn
  have hg := ho.inside
  have HO := Lib.hid ho
  have HL := Lib.hid (And.intro hl hne)
  clear hl hne ho
  go_enter Try.func20, Try.ntmps20
  go_wp2_with fail
  go_loopw [8] (fun i wr => ∃ k : Nat, i = .int .i64 (k : Int) ∧ k ≤ l.length ∧ Upd w wr g 49 (evL (sameK u l k) A n c))
    (fun i _ => l.length - (intOf i).toNat)
  case atStart => exact ⟨0, rfl, by omega, (Upd.same HO.out).as (by simp [sameK])⟩
  case round =>
    obtain ⟨k, rfl, hk, hu⟩ := hrel
    by_cases hlt : k < l.length
    · have hx : l[k]? = some l[k] := List.getElem?_eq_getElem hlt
      obtain ⟨b, o, rfl, hB, hc⟩ := HL.out.1 (by omega)
      have hbg := HL.out.2 b o rfl
      have h0 : l[0]? = some (l.headD 0) := by cases l with
        | nil => simp at hlt
        | cons x l => rfl
      have hnx := sameK_next (u := u) hx
      obtain ⟨d, hd⟩ : ∃ d, l.headD 0 = d := ⟨_, rfl⟩
      rw [hd] at h0 hnx
      clear hd
      have d0 := ((grown_olds hu.grow).1 b o hB hbg).trans (by simpa using hc 0 _ h0)
      have d1 := ((grown_olds hu.grow).1 b (o + k) hB hbg).trans (hc k _ hx)
      have q0 : (0 : Int) ≤ (k : Int) := by omega
      have q1 : (k : Int) < (l.length : Int) := by omega
      have q2 : (0 : Int) < (l.length : Int) := by omega
      generalize l[k] = t at *
      have HH := Lib.hid (And.intro hu hnx)
      clear hu hnx hx h0 hc
      by_cases ht : t = d
      · have t1 : (t != d) = false := by simpa using ht
        have HT := Lib.hid ht
        clear ht
        go_wp2_with fail
        go_roundw
        case rel => exact ⟨k + 1, by go_num, by omega, HH.out.1.as (by rw [HH.out.2, if_pos HT.out])⟩
        case measure => simp [intOf]; omega
      · have t1 : (t != d) = true := by simpa using ht
        have HT := Lib.hid ht
        clear ht
        go_wp2_with fail
        refine (fail_any g _ _ 11 _ _ HH.out.1.own).mono ?_
        rintro _ w3 ⟨rfl, u3⟩
        have U3 := Lib.hid (HH.out.1.trans u3)
        clear u3
        go_wp2_with fail
        go_roundw
        case rel => exact ⟨k + 1, by go_num, by omega, U3.out.as (by rw [HH.out.2, if_neg HT.out]; rfl)⟩
        case measure => simp [intOf]; omega
    · have hk2 : k = l.length := by omega
      subst hk2
      have HH := Lib.hid hu
      clear hu
      go_wp2_with fail
      exact bodyPost_end (results_none rfl _ _ _) rfl ⟨rfl, HH.out.as (by simp [sameK, sameU])⟩
end Go.Proofs.Yticcaogceoahdaa
