/- Plain facts on expressions: which are well-formed, what they come to, which type they have. -/
import Derived.Test.YtjidjpmdmcleoaaECheck
import Derived.Test.YtjidjpmdmcleoaaSmFacts
namespace Go.Proofs.Ytjidjpmdmcleoaa
open Go Go.RowKit

instance : Inhabited Vl := ⟨⟨false, 0, ⟨#[]⟩⟩⟩
def Vl.zero : Vl := ⟨false, 0, ⟨#[]⟩⟩
def Vl.num (n : Int) : Vl := ⟨false, n, ⟨#[]⟩⟩
/-- an expression as it lies in memory -/
inductive Lx where
  | mk (op : Int) (col : Int) (c : Vl) (A : Option Addr) (cap : Nat) (kids : List Lx)
instance : Inhabited Lx := ⟨.mk 0 0 ⟨false, 0, ⟨#[]⟩⟩ none 0 []⟩
namespace Lx
def op : Lx → Int | mk o _ _ _ _ _ => o
def col : Lx → Int | mk _ o _ _ _ _ => o
def c : Lx → Vl | mk _ _ o _ _ _ => o
def A : Lx → Option Addr | mk _ _ _ o _ _ => o
def cap : Lx → Nat | mk _ _ _ _ o _ => o
def kids : Lx → List Lx | mk _ _ _ _ _ o => o
def cells (e : Lx) : List Value := [.int .u8 e.op, .int .i64 e.col, .bool e.c.t, .int .i64 e.c.n, .string e.c.s, .slice e.A e.kids.length e.cap]
def val (e : Lx) : Value := .agg #[.int .u8 e.op, .int .i64 e.col, .bool e.c.t, .int .i64 e.c.n, .string e.c.s, .slice e.A e.kids.length e.cap]
end Lx
/-- how many others an operator holds -/
def kidsOf (op : Int) : Int :=
  if op = 1 ∨ op = 2 then 0 else if op = 6 ∨ op = 11 then 1 else if op = 3 ∨ op = 4 ∨ op = 5 ∨ op = 7 ∨ op = 8 ∨ op = 9 ∨ op = 10 then 2 else if op = 12 then 3 else -1
def isZero (v : Vl) : Bool := !v.t && (v.n == 0 && decide (v.s.size = 0))
def constOk (op : Int) (v : Vl) : Bool := if op = 2 then chkRow [v] == 0 else isZero v
def nodeOk (e : Lx) : Bool := ((e.kids.length : Int) == kidsOf e.op) && ((e.col == 0 || e.op == 1) && constOk e.op e.c)
/-- all is well-formed, and at most n deep -/
def good : Nat → Lx → Bool
  | 0, _ => false
  | n + 1, e => nodeOk e && e.kids.all (good n)
def cnt : Nat → Lx → Nat
  | 0, _ => 0
  | n + 1, e => 1 + (e.kids.map (cnt n)).sum
/-- what has been looked at -/
structure St where
  why : Int
  nodes : Int
  deep : Bool
def w64 (x : Int) : Int := (x + 9223372036854775808) % 18446744073709551616 - 9223372036854775808
theorem w64_w64 (a b : Int) : w64 (w64 a + b) = w64 (a + b) := by unfold w64; omega
theorem w64_id {a : Int} (h1 : -9223372036854775808 ≤ a) (h2 : a ≤ 9223372036854775807) : w64 a = a := by unfold w64; omega
theorem w64_bound (a : Int) : -9223372036854775808 ≤ w64 a ∧ w64 a ≤ 9223372036854775807 := by unfold w64; omega
def St.fail (s : St) (w : Int) : St := ⟨if s.why = 0 then w else s.why, s.nodes, s.deep⟩
def lk : Nat → Lx → St → St
  | 0, _, s => s
  | n + 1, e, s => if s.why ≠ 0 then s else
      e.kids.foldl (fun s k => lk n k s) ⟨if nodeOk e then 0 else 4, w64 (s.nodes + 1), s.deep || n == 0⟩
theorem lk_next {n : Nat} {e : Lx} {s : St} (h : s.why = 0) : lk (n + 1) e s = e.kids.foldl (fun s k => lk n k s) ⟨if nodeOk e then 0 else 4, w64 (s.nodes + 1), s.deep || n == 0⟩ := by
  rw [lk, if_neg (by simpa using h)]
def St.ok (s : St) : Prop := s.why = 0 ∧ s.deep = false
theorem foldl_ok {n : Nat} (ih : ∀ e s, (lk n e s).ok ↔ s.ok ∧ good (n - 1) e = true) : ∀ (l : List Lx) (s : St), (l.foldl (fun s k => lk n k s) s).ok ↔ s.ok ∧ l.all (good (n - 1)) = true
  | [], s => by simp
  | k :: l, s => by
    rw [List.foldl_cons, foldl_ok ih l, ih, List.all_cons, Bool.and_eq_true, and_assoc]
theorem lk_ok : ∀ (n : Nat) (e : Lx) (s : St), (lk (n + 1) e s).ok ↔ s.ok ∧ good n e = true
  | n, e, s => by
    unfold lk
    by_cases hs : s.why = 0
    · rw [if_neg (by simpa using hs)]
      cases n with
      | zero =>
        have h0 : ∀ (l : List Lx) (t : St), l.foldl (fun s k => lk 0 k s) t = t := by
          intro l; induction l with
          | nil => intro t; rfl
          | cons x l ih => intro t; rw [List.foldl_cons]; exact ih _
        rw [h0]
        simp [St.ok, good]
      | succ n =>
        rw [foldl_ok (n := n + 1) (fun e s => by simpa using lk_ok n e s)]
        simp only [good, Bool.and_eq_true, St.ok, Nat.add_sub_cancel]
        simp only [Bool.or_eq_false_iff]
        cases hn : nodeOk e <;> simp [hs]
    · rw [if_pos hs]
      simp [St.ok, hs]
theorem lk_stay : ∀ (n : Nat) (e : Lx) (s : St), s.why ≠ 0 → lk n e s = s
  | 0, _, _, _ => rfl
  | n + 1, e, s, h => by unfold lk; rw [if_pos h]
theorem foldl_stay (n : Nat) : ∀ (l : List Lx) (s : St), s.why ≠ 0 → l.foldl (fun s k => lk n k s) s = s
  | [], _, _ => rfl
  | k :: l, s, h => by rw [List.foldl_cons, lk_stay n k s h]; exact foldl_stay n l s h
theorem lk_why : ∀ (n : Nat) (e : Lx) (s : St), s.why = 0 ∨ s.why = 4 → (lk n e s).why = 0 ∨ (lk n e s).why = 4
  | 0, _, _, h => h
  | n + 1, e, s, h => by
    unfold lk
    split
    · exact h
    · have : ∀ (l : List Lx) (s : St), s.why = 0 ∨ s.why = 4 → (l.foldl (fun s k => lk n k s) s).why = 0 ∨ (l.foldl (fun s k => lk n k s) s).why = 4 := by
        intro l; induction l with
        | nil => intro s h; exact h
        | cons k l ih => intro s h; rw [List.foldl_cons]; exact ih _ (lk_why n k s h)
      refine this _ _ ?_
      cases nodeOk e <;> simp
theorem foldl_nodes {n : Nat} (ih : ∀ e s, (lk n e s).why = 0 → s.why = 0 ∧ (s.nodes = w64 s.nodes → (lk n e s).nodes = w64 (s.nodes + cnt n e))) :
    ∀ (l : List Lx) (s : St), (l.foldl (fun s k => lk n k s) s).why = 0 → s.why = 0 ∧ (s.nodes = w64 s.nodes → (l.foldl (fun s k => lk n k s) s).nodes = w64 (s.nodes + ((l.map (cnt n)).sum : Nat)))
  | [], s, h => ⟨h, fun hs => by simpa using hs⟩
  | k :: l, s, h => by
    rw [List.foldl_cons] at h ⊢
    obtain ⟨h1, h2⟩ := foldl_nodes ih l _ h
    obtain ⟨h3, h4⟩ := ih k s h1
    refine ⟨h3, fun hs => ?_⟩
    have e1 := h4 hs
    rw [h2 (by rw [e1]; have := w64_w64 (s.nodes + cnt n k) 0; simpa using this.symm), e1, w64_w64, List.map_cons, List.sum_cons, Int.natCast_add, Int.add_assoc]
theorem lk_nodes : ∀ (n : Nat) (e : Lx) (s : St), (lk n e s).why = 0 → s.why = 0 ∧ (s.nodes = w64 s.nodes → (lk n e s).nodes = w64 (s.nodes + cnt n e))
  | 0, e, s, h => ⟨h, fun hs => by simpa [lk, cnt] using hs⟩
  | n + 1, e, s, h => by
    unfold lk at h ⊢
    by_cases hs : s.why = 0
    · rw [if_neg (by simpa using hs)] at h ⊢
      refine ⟨hs, fun _ => ?_⟩
      have h2 := (foldl_nodes (fun e s => lk_nodes n e s) _ _ h).2 (by have := w64_w64 (s.nodes + 1) 0; simpa using this.symm)
      rw [h2, w64_w64, cnt, Int.natCast_add, Int.add_assoc]
      rfl
    · rw [if_pos hs] at h
      exact absurd h hs
theorem kidsOf_le (op : Int) : kidsOf op ≤ 3 := by
  unfold kidsOf
  repeat' split
  all_goals omega
theorem cnt_good : ∀ (n m : Nat) (e : Lx), n ≤ m → good n e = true → cnt m e = cnt n e
  | 0, _, _, _, h => by cases h
  | n + 1, 0, _, h, _ => by omega
  | n + 1, m + 1, e, hm, h => by
    simp only [good, Bool.and_eq_true, List.all_eq_true] at h
    simp only [cnt]
    congr 2
    exact List.map_congr_left fun k hk => cnt_good n m k (by omega) (h.2 k hk)
theorem cnt_le : ∀ (n : Nat) (e : Lx), good n e = true → 2 * cnt n e + 1 ≤ 3 ^ (n + 1)
  | 0, _, h => by cases h
  | n + 1, e, h => by
    simp only [good, Bool.and_eq_true, List.all_eq_true] at h
    have hk : e.kids.length ≤ 3 := by
      have h1 := h.1
      unfold nodeOk at h1
      simp only [Bool.and_eq_true, beq_iff_eq] at h1
      have := kidsOf_le e.op
      omega
    have hs : ∀ l : List Lx, (∀ k ∈ l, good n k = true) → 2 * (l.map (cnt n)).sum + l.length ≤ l.length * 3 ^ (n + 1) := by
      intro l; induction l with
      | nil => intro _; simp
      | cons k l ih =>
        intro hl
        have a := cnt_le n k (hl k (by simp))
        have b := ih fun k hk => hl k (by simp [hk])
        simp only [List.map_cons, List.sum_cons, List.length_cons, Nat.add_mul]
        omega
    have h1 := hs e.kids h.2
    have h2 : e.kids.length * 3 ^ (n + 1) ≤ 3 * 3 ^ (n + 1) := Nat.mul_le_mul_right _ hk
    have h3 : 3 ^ (n + 1) ≥ 3 := by rw [Nat.pow_succ]; have := Nat.pow_pos (n := n) (show 0 < 3 by omega); omega
    simp only [cnt]
    rw [Nat.pow_succ 3 (n + 1)]
    rcases hl : e.kids.length with _ | _ | _ | _ | k
    all_goals (rw [hl] at h1 h2 hk; omega)
/-- what Check tells -/
def checkE (e : Lx) : Int :=
  let s := lk 17 e ⟨0, 0, false⟩
  if s.deep = true ∨ s.nodes > 64 then (s.fail 2).why else s.why
theorem checkE_ok (e : Lx) : checkE e = 0 ↔ good 16 e = true ∧ cnt 16 e ≤ 64 := by
  have h1 := lk_ok 16 e ⟨0, 0, false⟩
  have h2 : (lk 17 e ⟨0, 0, false⟩).why = 0 → (lk 17 e ⟨0, 0, false⟩).nodes = w64 (cnt 17 e) := fun h => by
    have := (lk_nodes 17 e ⟨0, 0, false⟩ h).2 (by decide)
    rw [this, Int.zero_add]
  have h3 := fun h => cnt_good 16 17 e (by omega) h
  have h4 := fun h => cnt_le 16 e h
  unfold checkE St.fail
  simp only
  simp only [St.ok, true_and] at h1
  generalize hs : lk 17 e ⟨0, 0, false⟩ = s at *
  generalize cnt 16 e = C at *
  generalize cnt 17 e = D at *
  constructor
  · intro h
    by_cases hd : s.deep = true ∨ s.nodes > 64
    · rw [if_pos hd] at h
      split at h <;> omega
    · rw [if_neg hd] at h
      have hd1 : s.deep = false := by rw [← Bool.not_eq_true]; exact fun hh => hd (.inl hh)
      have hg := h1.1 ⟨h, hd1⟩
      refine ⟨hg, ?_⟩
      have hn := h2 h
      have hl := h4 hg
      rw [h3 hg, w64_id (by omega) (by omega)] at hn
      have : ¬ s.nodes > 64 := fun hh => hd (.inr hh)
      omega
  · rintro ⟨hg, hc⟩
    obtain ⟨h, hd1⟩ := h1.2 hg
    have hn := h2 h
    rw [h3 hg, w64_id (by omega) (by omega)] at hn
    rw [if_neg]
    · exact h
    · rintro (hh | hh)
      · rw [hd1] at hh; cases hh
      · omega
theorem checkE_cases (e : Lx) : checkE e = 0 ∨ checkE e = 2 ∨ checkE e = 4 := by
  have h := lk_why 17 e ⟨0, 0, false⟩ (.inl rfl)
  unfold checkE St.fail
  simp only
  generalize lk 17 e ⟨0, 0, false⟩ = s at *
  repeat' split
  all_goals omega

/-- the first failure stays -/
def fl (u w : Int) : Int := if u = 0 then w else u
def kid (e : Lx) (i : Nat) : Lx := e.kids.getD i default
def nm (f : Lx → Int → Vl × Int) (k : Lx) (u : Int) : Int × Int := ((f k u).1.n, if (f k u).1.t then fl (f k u).2 11 else (f k u).2)
def cp (f : Lx → Int → Vl × Int) (e : Lx) (u : Int) : Int × Int :=
  let p := f (kid e 0) u
  let q := f (kid e 1) p.2
  (p.1.cmp q.1, if p.1.t != q.1.t then fl q.2 11 else q.2)
def hd (f : Lx → Int → Vl × Int) (e : Lx) (u : Int) : Bool × Int :=
  if e.op = 7 then (decide ((cp f e u).1 < 0), (cp f e u).2)
  else if e.op = 8 then ((cp f e u).1 == 0, (cp f e u).2)
  else if e.op = 9 then (if (nm f (kid e 0) u).1 = 0 then (false, (nm f (kid e 0) u).2) else ((nm f (kid e 1) (nm f (kid e 0) u).2).1 != 0, (nm f (kid e 1) (nm f (kid e 0) u).2).2))
  else if e.op = 10 then (if (nm f (kid e 0) u).1 = 0 then ((nm f (kid e 1) (nm f (kid e 0) u).2).1 != 0, (nm f (kid e 1) (nm f (kid e 0) u).2).2) else (true, (nm f (kid e 0) u).2))
  else ((nm f (kid e 0) u).1 == 0, (nm f (kid e 0) u).2)
/-- the number, what is told of it, and the failure so far -/
def rk (f : Lx → Int → Vl × Int) (e : Lx) (u : Int) : Int × Int :=
  let p := nm f (kid e 0) u
  if e.op = 6 then (-p.1, p.2) else
  let q := nm f (kid e 1) p.2
  (if e.op = 3 then p.1 + q.1 else if e.op = 4 then p.1 - q.1 else p.1 * q.1, q.2)
/-- what an expression comes to -/
def ev (row : List Vl) : Nat → Lx → Int → Vl × Int
  | 0, _, u => (Vl.zero, u)
  | n + 1, e, u =>
    if e.op = 1 then (if 0 ≤ e.col ∧ e.col < row.length then (row.getD e.col.toNat default, u) else (Vl.zero, fl u 1))
    else if e.op = 2 then (e.c, u)
    else if e.op = 12 then
      (if (nm (ev row n) (kid e 0) u).1 = 0 then ev row n (kid e 2) (nm (ev row n) (kid e 0) u).2 else ev row n (kid e 1) (nm (ev row n) (kid e 0) u).2)
    else if 7 ≤ e.op then (Vl.num (if (hd (ev row n) e u).1 then 1 else 0), (hd (ev row n) e u).2)
    else (Vl.num (fitN (rk (ev row n) e u).1), fl (rk (ev row n) e u).2 (fitE (rk (ev row n) e u).1))
end Go.Proofs.Ytjidjpmdmcleoaa
