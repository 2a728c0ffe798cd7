/- Part 6 of the texts on which LinearParts rests: facts and contracts. -/
import Derived.Test.YtcfldgncmbcpmaaGreatLinearPartsM5
import Derived.Outline
import Derived.Deep.CutRange
import Derived.Deep.DeepCutAuto
import Derived.Deep.RegionHeld3
namespace Go.Proofs.YtcfldgncmbcpmaaGreat
open Go Go.RowKit

def Vl.zero : Vl := ⟨false, 0, ⟨#[]⟩⟩
def Vl.num (n : Int) : Vl := ⟨false, n, ⟨#[]⟩⟩
/-- an expression as it lies in memory -/
inductive Lx where
  | mk (op : Int) (col : Int) (c : Vl) (A : Option Addr) (cap : Nat) (kids : List Lx)
instance : Inhabited Lx := ⟨.mk 0 0 ⟨false, 0, ⟨#[]⟩⟩ none 0 []⟩
namespace Lx
def op : Lx → Int | mk o _ _ _ _ _ => o
def col : Lx → Int | mk _ o _ _ _ _ => o
def c : Lx → Vl | mk _ _ o _ _ _ => o
def A : Lx → Option Addr | mk _ _ _ o _ _ => o
def cap : Lx → Nat | mk _ _ _ _ o _ => o
def kids : Lx → List Lx | mk _ _ _ _ _ o => o
def cells (e : Lx) : List Value := [.int .u8 e.op, .int .i64 e.col, .bool e.c.t, .int .i64 e.c.n, .string e.c.s, .slice e.A e.kids.length e.cap]
def val (e : Lx) : Value := .agg #[.int .u8 e.op, .int .i64 e.col, .bool e.c.t, .int .i64 e.c.n, .string e.c.s, .slice e.A e.kids.length e.cap]
end Lx
/-- how many others an operator holds -/
def kidsOf (op : Int) : Int :=
  if op = 1 ∨ op = 2 then 0 else if op = 6 ∨ op = 11 then 1 else if op = 3 ∨ op = 4 ∨ op = 5 ∨ op = 7 ∨ op = 8 ∨ op = 9 ∨ op = 10 then 2 else if op = 12 then 3 else -1
def isZero (v : Vl) : Bool := !v.t && (v.n == 0 && decide (v.s.size = 0))
def constOk (op : Int) (v : Vl) : Bool := if op = 2 then chkRow [v] == 0 else isZero v
def nodeOk (e : Lx) : Bool := ((e.kids.length : Int) == kidsOf e.op) && ((e.col == 0 || e.op == 1) && constOk e.op e.c)
/-- all is well-formed, and at most n deep -/
def good : Nat → Lx → Bool
  | 0, _ => false
  | n + 1, e => nodeOk e && e.kids.all (good n)
def cnt : Nat → Lx → Nat
  | 0, _ => 0
  | n + 1, e => 1 + (e.kids.map (cnt n)).sum
/-- what has been looked at -/
structure St where
  why : Int
  nodes : Int
  deep : Bool
def w64 (x : Int) : Int := (x + 9223372036854775808) % 18446744073709551616 - 9223372036854775808
theorem w64_w64 (a b : Int) : w64 (w64 a + b) = w64 (a + b) := by unfold w64; omega
theorem w64_id {a : Int} (h1 : -9223372036854775808 ≤ a) (h2 : a ≤ 9223372036854775807) : w64 a = a := by unfold w64; omega
theorem w64_bound (a : Int) : -9223372036854775808 ≤ w64 a ∧ w64 a ≤ 9223372036854775807 := by unfold w64; omega
def St.fail (s : St) (w : Int) : St := ⟨if s.why = 0 then w else s.why, s.nodes, s.deep⟩
def lk : Nat → Lx → St → St
  | 0, _, s => s
  | n + 1, e, s => if s.why ≠ 0 then s else
      e.kids.foldl (fun s k => lk n k s) ⟨if nodeOk e then 0 else 4, w64 (s.nodes + 1), s.deep || n == 0⟩
theorem lk_next {n : Nat} {e : Lx} {s : St} (h : s.why = 0) : lk (n + 1) e s = e.kids.foldl (fun s k => lk n k s) ⟨if nodeOk e then 0 else 4, w64 (s.nodes + 1), s.deep || n == 0⟩ := by
  rw [lk, if_neg (by simpa using h)]
def St.ok (s : St) : Prop := s.why = 0 ∧ s.deep = false
theorem foldl_ok {n : Nat} (ih : ∀ e s, (lk n e s).ok ↔ s.ok ∧ good (n - 1) e = true) : ∀ (l : List Lx) (s : St), (l.foldl (fun s k => lk n k s) s).ok ↔ s.ok ∧ l.all (good (n - 1)) = true
  | [], s => by simp
  | k :: l, s => by
    rw [List.foldl_cons, foldl_ok ih l, ih, List.all_cons, Bool.and_eq_true, and_assoc]
theorem lk_ok : ∀ (n : Nat) (e : Lx) (s : St), (lk (n + 1) e s).ok ↔ s.ok ∧ good n e = true
  | n, e, s => by
    unfold lk
    by_cases hs : s.why = 0
    · rw [if_neg (by simpa using hs)]
      cases n with
      | zero =>
        have h0 : ∀ (l : List Lx) (t : St), l.foldl (fun s k => lk 0 k s) t = t := by
          intro l; induction l with
          | nil => intro t; rfl
          | cons x l ih => intro t; rw [List.foldl_cons]; exact ih _
        rw [h0]
        simp [St.ok, good]
      | succ n =>
        rw [foldl_ok (n := n + 1) (fun e s => by simpa using lk_ok n e s)]
        simp only [good, Bool.and_eq_true, St.ok, Nat.add_sub_cancel]
        simp only [Bool.or_eq_false_iff]
        cases hn : nodeOk e <;> simp [hs]
    · rw [if_pos hs]
      simp [St.ok, hs]
theorem lk_stay : ∀ (n : Nat) (e : Lx) (s : St), s.why ≠ 0 → lk n e s = s
  | 0, _, _, _ => rfl
  | n + 1, e, s, h => by unfold lk; rw [if_pos h]
theorem foldl_stay (n : Nat) : ∀ (l : List Lx) (s : St), s.why ≠ 0 → l.foldl (fun s k => lk n k s) s = s
  | [], _, _ => rfl
  | k :: l, s, h => by rw [List.foldl_cons, lk_stay n k s h]; exact foldl_stay n l s h
theorem lk_why : ∀ (n : Nat) (e : Lx) (s : St), s.why = 0 ∨ s.why = 4 → (lk n e s).why = 0 ∨ (lk n e s).why = 4
  | 0, _, _, h => h
  | n + 1, e, s, h => by
    unfold lk
    split
    · exact h
    · have : ∀ (l : List Lx) (s : St), s.why = 0 ∨ s.why = 4 → (l.foldl (fun s k => lk n k s) s).why = 0 ∨ (l.foldl (fun s k => lk n k s) s).why = 4 := by
        intro l; induction l with
        | nil => intro s h; exact h
        | cons k l ih => intro s h; rw [List.foldl_cons]; exact ih _ (lk_why n k s h)
      refine this _ _ ?_
      cases nodeOk e <;> simp
theorem foldl_nodes {n : Nat} (ih : ∀ e s, (lk n e s).why = 0 → s.why = 0 ∧ (s.nodes = w64 s.nodes → (lk n e s).nodes = w64 (s.nodes + cnt n e))) :
    ∀ (l : List Lx) (s : St), (l.foldl (fun s k => lk n k s) s).why = 0 → s.why = 0 ∧ (s.nodes = w64 s.nodes → (l.foldl (fun s k => lk n k s) s).nodes = w64 (s.nodes + ((l.map (cnt n)).sum : Nat)))
  | [], s, h => ⟨h, fun hs => by simpa using hs⟩
  | k :: l, s, h => by
    rw [List.foldl_cons] at h ⊢
    obtain ⟨h1, h2⟩ := foldl_nodes ih l _ h
    obtain ⟨h3, h4⟩ := ih k s h1
    refine ⟨h3, fun hs => ?_⟩
    have e1 := h4 hs
    rw [h2 (by rw [e1]; have := w64_w64 (s.nodes + cnt n k) 0; simpa using this.symm), e1, w64_w64, List.map_cons, List.sum_cons, Int.natCast_add, Int.add_assoc]
theorem lk_nodes : ∀ (n : Nat) (e : Lx) (s : St), (lk n e s).why = 0 → s.why = 0 ∧ (s.nodes = w64 s.nodes → (lk n e s).nodes = w64 (s.nodes + cnt n e))
  | 0, e, s, h => ⟨h, fun hs => by simpa [lk, cnt] using hs⟩
  | n + 1, e, s, h => by
    unfold lk at h ⊢
    by_cases hs : s.why = 0
    · rw [if_neg (by simpa using hs)] at h ⊢
      refine ⟨hs, fun _ => ?_⟩
      have h2 := (foldl_nodes (fun e s => lk_nodes n e s) _ _ h).2 (by have := w64_w64 (s.nodes + 1) 0; simpa using this.symm)
      rw [h2, w64_w64, cnt, Int.natCast_add, Int.add_assoc]
      rfl
    · rw [if_pos hs] at h
      exact absurd h hs
theorem kidsOf_le (op : Int) : kidsOf op ≤ 3 := by
  unfold kidsOf
  repeat' split
  all_goals omega
theorem cnt_good : ∀ (n m : Nat) (e : Lx), n ≤ m → good n e = true → cnt m e = cnt n e
  | 0, _, _, _, h => by cases h
  | n + 1, 0, _, h, _ => by omega
  | n + 1, m + 1, e, hm, h => by
    simp only [good, Bool.and_eq_true, List.all_eq_true] at h
    simp only [cnt]
    congr 2
    exact List.map_congr_left fun k hk => cnt_good n m k (by omega) (h.2 k hk)
theorem cnt_le : ∀ (n : Nat) (e : Lx), good n e = true → 2 * cnt n e + 1 ≤ 3 ^ (n + 1)
  | 0, _, h => by cases h
  | n + 1, e, h => by
    simp only [good, Bool.and_eq_true, List.all_eq_true] at h
    have hk : e.kids.length ≤ 3 := by
      have h1 := h.1
      unfold nodeOk at h1
      simp only [Bool.and_eq_true, beq_iff_eq] at h1
      have := kidsOf_le e.op
      omega
    have hs : ∀ l : List Lx, (∀ k ∈ l, good n k = true) → 2 * (l.map (cnt n)).sum + l.length ≤ l.length * 3 ^ (n + 1) := by
      intro l; induction l with
      | nil => intro _; simp
      | cons k l ih =>
        intro hl
        have a := cnt_le n k (hl k (by simp))
        have b := ih fun k hk => hl k (by simp [hk])
        simp only [List.map_cons, List.sum_cons, List.length_cons, Nat.add_mul]
        omega
    have h1 := hs e.kids h.2
    have h2 : e.kids.length * 3 ^ (n + 1) ≤ 3 * 3 ^ (n + 1) := Nat.mul_le_mul_right _ hk
    have h3 : 3 ^ (n + 1) ≥ 3 := by rw [Nat.pow_succ]; have := Nat.pow_pos (n := n) (show 0 < 3 by omega); omega
    simp only [cnt]
    rw [Nat.pow_succ 3 (n + 1)]
    rcases hl : e.kids.length with _ | _ | _ | _ | k
    all_goals (rw [hl] at h1 h2 hk; omega)
/-- what Check tells -/
def checkE (e : Lx) : Int :=
  let s := lk 17 e ⟨0, 0, false⟩
  if s.deep = true ∨ s.nodes > 64 then (s.fail 2).why else s.why
theorem checkE_ok (e : Lx) : checkE e = 0 ↔ good 16 e = true ∧ cnt 16 e ≤ 64 := by
  have h1 := lk_ok 16 e ⟨0, 0, false⟩
  have h2 : (lk 17 e ⟨0, 0, false⟩).why = 0 → (lk 17 e ⟨0, 0, false⟩).nodes = w64 (cnt 17 e) := fun h => by
    have := (lk_nodes 17 e ⟨0, 0, false⟩ h).2 (by decide)
    rw [this, Int.zero_add]
  have h3 := fun h => cnt_good 16 17 e (by omega) h
  have h4 := fun h => cnt_le 16 e h
  unfold checkE St.fail
  simp only
  simp only [St.ok, true_and] at h1
  generalize hs : lk 17 e ⟨0, 0, false⟩ = s at *
  generalize cnt 16 e = C at *
  generalize cnt 17 e = D at *
  constructor
  · intro h
    by_cases hd : s.deep = true ∨ s.nodes > 64
    · rw [if_pos hd] at h
      split at h <;> omega
    · rw [if_neg hd] at h
      have hd1 : s.deep = false := by rw [← Bool.not_eq_true]; exact fun hh => hd (.inl hh)
      have hg := h1.1 ⟨h, hd1⟩
      refine ⟨hg, ?_⟩
      have hn := h2 h
      have hl := h4 hg
      rw [h3 hg, w64_id (by omega) (by omega)] at hn
      have : ¬ s.nodes > 64 := fun hh => hd (.inr hh)
      omega
  · rintro ⟨hg, hc⟩
    obtain ⟨h, hd1⟩ := h1.2 hg
    have hn := h2 h
    rw [h3 hg, w64_id (by omega) (by omega)] at hn
    rw [if_neg]
    · exact h
    · rintro (hh | hh)
      · rw [hd1] at hh; cases hh
      · omega
theorem checkE_cases (e : Lx) : checkE e = 0 ∨ checkE e = 2 ∨ checkE e = 4 := by
  have h := lk_why 17 e ⟨0, 0, false⟩ (.inl rfl)
  unfold checkE St.fail
  simp only
  generalize lk 17 e ⟨0, 0, false⟩ = s at *
  repeat' split
  all_goals omega

/-- the first failure stays -/
def fl (u w : Int) : Int := if u = 0 then w else u
def kid (e : Lx) (i : Nat) : Lx := e.kids.getD i default
def nm (f : Lx → Int → Vl × Int) (k : Lx) (u : Int) : Int × Int := ((f k u).1.n, if (f k u).1.t then fl (f k u).2 11 else (f k u).2)
def cp (f : Lx → Int → Vl × Int) (e : Lx) (u : Int) : Int × Int :=
  let p := f (kid e 0) u
  let q := f (kid e 1) p.2
  (p.1.cmp q.1, if p.1.t != q.1.t then fl q.2 11 else q.2)
def hd (f : Lx → Int → Vl × Int) (e : Lx) (u : Int) : Bool × Int :=
  if e.op = 7 then (decide ((cp f e u).1 < 0), (cp f e u).2)
  else if e.op = 8 then ((cp f e u).1 == 0, (cp f e u).2)
  else if e.op = 9 then (if (nm f (kid e 0) u).1 = 0 then (false, (nm f (kid e 0) u).2) else ((nm f (kid e 1) (nm f (kid e 0) u).2).1 != 0, (nm f (kid e 1) (nm f (kid e 0) u).2).2))
  else if e.op = 10 then (if (nm f (kid e 0) u).1 = 0 then ((nm f (kid e 1) (nm f (kid e 0) u).2).1 != 0, (nm f (kid e 1) (nm f (kid e 0) u).2).2) else (true, (nm f (kid e 0) u).2))
  else ((nm f (kid e 0) u).1 == 0, (nm f (kid e 0) u).2)
/-- the number, what is told of it, and the failure so far -/
def rk (f : Lx → Int → Vl × Int) (e : Lx) (u : Int) : Int × Int :=
  let p := nm f (kid e 0) u
  if e.op = 6 then (-p.1, p.2) else
  let q := nm f (kid e 1) p.2
  (if e.op = 3 then p.1 + q.1 else if e.op = 4 then p.1 - q.1 else p.1 * q.1, q.2)
/-- what an expression comes to -/
def ev (row : List Vl) : Nat → Lx → Int → Vl × Int
  | 0, _, u => (Vl.zero, u)
  | n + 1, e, u =>
    if e.op = 1 then (if 0 ≤ e.col ∧ e.col < row.length then (row.getD e.col.toNat default, u) else (Vl.zero, fl u 1))
    else if e.op = 2 then (e.c, u)
    else if e.op = 12 then
      (if (nm (ev row n) (kid e 0) u).1 = 0 then ev row n (kid e 2) (nm (ev row n) (kid e 0) u).2 else ev row n (kid e 1) (nm (ev row n) (kid e 0) u).2)
    else if 7 ≤ e.op then (Vl.num (if (hd (ev row n) e u).1 then 1 else 0), (hd (ev row n) e u).2)
    else (Vl.num (fitN (rk (ev row n) e u).1), fl (rk (ev row n) e u).2 (fitE (rk (ev row n) e u).1))
end Go.Proofs.YtcfldgncmbcpmaaGreat
namespace Go.Proofs.YtcfldgncmbcpmaaGreat
open Go Go.RowKit

theorem eql_val (x y : Vl) (w : World) : (binOp .eql 46 x.val y.val).run Tryz.prog w = .ok (.bool (eqV x y)) w := by
  have h := eqIn_val x y w
  unfold Vl.val at h ⊢
  rw [run_eql_struct, h]; rfl
end Go.Proofs.YtcfldgncmbcpmaaGreat
namespace Go.Proofs.YtcfldgncmbcpmaaGreat
open Go Go.RowKit

/-- the numbers in an expression fit, n deep -/
def LxOk : Nat → Lx → Prop
  | 0, _ => True
  | n + 1, e => VOk e.c ∧ (0 ≤ e.op ∧ e.op ≤ 255) ∧ (-9223372036854775808 ≤ e.col ∧ e.col ≤ 9223372036854775807) ∧ e.kids.length ≤ maxLen ∧ ∀ k ∈ e.kids, LxOk n k
/-- it lies below block B, n deep -/
def LxIn (w : World) (B : Nat) : Nat → Lx → Prop
  | 0, _ => True
  | n + 1, e => Lies 6 Lx.cells w B e.A e.kids ∧ ∀ k ∈ e.kids, LxIn w B n k
theorem LxIn.past {B B' : Nat} {w w' : World} (hb : Below B' w w') (hB : B ≤ B') : ∀ {n : Nat} {e : Lx}, LxIn w B n e → LxIn w' B n e
  | 0, _, _ => trivial
  | _ + 1, _, h => ⟨h.1.past hb hB, fun k hk => LxIn.past hb hB (h.2 k hk)⟩
theorem LxIn.wide {B B' : Nat} {w : World} (hB : B ≤ B') : ∀ {n : Nat} {e : Lx}, LxIn w B n e → LxIn w B' n e
  | 0, _, _ => trivial
  | _ + 1, _, h => ⟨h.1.wide hB, fun k hk => LxIn.wide hB (h.2 k hk)⟩
theorem LxIn.less {B : Nat} {w : World} : ∀ {n m : Nat} {e : Lx}, m ≤ n → LxIn w B n e → LxIn w B m e
  | _, 0, _, _, _ => trivial
  | 0, _ + 1, _, h, _ => absurd h (by omega)
  | n + 1, m + 1, _, h, k => ⟨k.1, fun x hx => LxIn.less (by omega) (k.2 x hx)⟩
theorem LxOk.less : ∀ {n m : Nat} {e : Lx}, m ≤ n → LxOk n e → LxOk m e
  | _, 0, _, _, _ => trivial
  | 0, _ + 1, _, h, _ => absurd h (by omega)
  | n + 1, m + 1, _, h, k => ⟨k.1, k.2.1, k.2.2.1, k.2.2.2.1, fun x hx => LxOk.less (by omega) (k.2.2.2.2 x hx)⟩
theorem lxIn_keep {a b : World} {n : Nat} {e : Lx} (h : LxIn a a.heap.size n e) (hb : Below a.heap.size a b) : LxIn b b.heap.size n e := (h.past hb (Nat.le_refl _)).wide hb.size
/-- an expression's six cells lie at b, o -/
def LxAt (w : World) (b o : Nat) (e : Lx) : Prop := ∀ (j : Nat) (u : Value), e.cells[j]? = some u → w.cell? ⟨b, o + j, none⟩ = some u
theorem LxAt.past {B b o : Nat} {w w' : World} {e : Lx} (h : LxAt w b o e) (hb : Below B w w') (hB : b < B) : LxAt w' b o e :=
  fun j u hj => (hb.cell (p := ⟨b, o + j, none⟩) hB).trans (h j u hj)
theorem LxAt.six {b o : Nat} {w : World} {e : Lx} (h : LxAt w b o e) :
    w.cell? ⟨b, o, none⟩ = some (.int .u8 e.op) ∧ w.cell? ⟨b, o + 1, none⟩ = some (.int .i64 e.col) ∧ w.cell? ⟨b, o + 2, none⟩ = some (.bool e.c.t) ∧
      w.cell? ⟨b, o + 3, none⟩ = some (.int .i64 e.c.n) ∧ w.cell? ⟨b, o + 4, none⟩ = some (.string e.c.s) ∧ w.cell? ⟨b, o + 5, none⟩ = some (.slice e.A e.kids.length e.cap) :=
  ⟨h 0 _ rfl, h 1 _ rfl, h 2 _ rfl, h 3 _ rfl, h 4 _ rfl, h 5 _ rfl⟩
/-- a row of expressions: where each lies -/
theorem lies_lx {w : World} {B : Nat} {A : Option Addr} {l : List Lx} (h : Lies 6 Lx.cells w B A l) (hp : 0 < l.length) :
    ∃ b o, A = some ⟨b, o, none⟩ ∧ b < B ∧ ∀ (i : Nat) (x : Lx), l[i]? = some x → LxAt w b (o + i * 6) x := by
  obtain ⟨b, o, e, hb, hc⟩ := h hp
  exact ⟨b, o, e, hb, fun i x hi j u hj => hc i x hi j u hj⟩
/-- block g turned into l; all else that was there is as it was -/
structure Upd (w w' : World) (g : Nat) (t : TypeId) (l : List Value) : Prop where
  own : Own w' g t l
  grow : w.grownBy w' (some g)
section
variable {w w' w'' : World} {g : Nat} {t : TypeId} {l l' : List Value}
theorem Upd.below (h : Upd w w' g t l) {B : Nat} (hB : B ≤ g) (hg : g ≤ w.heap.size) : Below B w w' :=
  ⟨h.grow.os, h.grow.tape, h.grow.output, h.grow.size, fun k hk => h.grow.block k (by omega) (by simp; omega)⟩
theorem Upd.other (h : Upd w w' g t l) {k : Nat} {t' : TypeId} {m : List Value} (hk : k ≠ g) (ho : Own w k t' m) : Own w' k t' m :=
  (h.grow.block k ho.inside (by simp; exact hk)).trans ho
theorem Upd.same (h : Own w g t l) : Upd w w g t l := ⟨h, ⟨rfl, rfl, rfl, Nat.le_refl _, fun _ _ _ => rfl⟩⟩
theorem Upd.trans (h : Upd w w' g t l) (k : Upd w' w'' g t l') : Upd w w'' g t l' :=
  ⟨k.own, ⟨k.grow.os.trans h.grow.os, k.grow.tape.trans h.grow.tape, k.grow.output.trans h.grow.output, Nat.le_trans h.grow.size k.grow.size,
    fun i hi hne => (k.grow.block i (Nat.lt_of_lt_of_le hi h.grow.size) hne).trans (h.grow.block i hi hne)⟩⟩
theorem Upd.set_ (h : Upd w w' g t l) (i : Nat) (u : Value) : Upd w (w'.setCell ⟨g, i, none⟩ u) g t (l.set i u) :=
  ⟨h.own.set_ i u, ⟨h.grow.os, h.grow.tape, h.grow.output, by simpa using h.grow.size, fun k hk hne => (Below.heap_setCell w' ⟨g, i, none⟩ u k (by simpa using hne)).trans (h.grow.block k hk hne)⟩⟩
theorem Upd.quiet (h : Upd w w' g t l) (hb : Below w'.heap.size w' w'') : Upd w w'' g t l :=
  ⟨h.own.past hb h.own.inside, ⟨hb.os.trans h.grow.os, hb.tape.trans h.grow.tape, hb.output.trans h.grow.output, Nat.le_trans h.grow.size hb.size,
    fun i hi hne => (hb.block i (Nat.lt_of_lt_of_le hi h.grow.size)).trans (h.grow.block i hi hne)⟩⟩
/-- turned only beyond what stood before: all as it was -/
theorem Upd.newer (h : Below w.heap.size w w') (k : Upd w' w'' g t l) (hg : w.heap.size ≤ g) (hi : g ≤ w'.heap.size) : Below w.heap.size w w'' :=
  h.trans (k.below hg hi)
theorem Upd.as (h : Upd w w' g t l) (e : l = l') : Upd w w' g t l' := e ▸ h
/-- first only what is newer than all turned, then block g -/
theorem Upd.after (hb : Below w.heap.size w w') (k : Upd w' w'' g t l) : Upd w w'' g t l :=
  ⟨k.own, ⟨k.grow.os.trans hb.os, k.grow.tape.trans hb.tape, k.grow.output.trans hb.output, Nat.le_trans hb.size k.grow.size,
    fun i hi hne => (k.grow.block i (Nat.lt_of_lt_of_le hi hb.size) hne).trans (hb.block i hi)⟩⟩
end
theorem ret_i64' {a b : Int} (h : a = b) : Value.int .i64 a = .int .i64 b := by rw [h]

set_option maxRecDepth 100000 in
set_option maxHeartbeats 800000 in
theorem fail_any (g : Nat) (t : TypeId) (u f : Int) (l : List Value) (w : World) (h : Own w g t (.int .i64 u :: l)) :
    Calls Tryz.prog 119 #[.pointer (some ⟨g, 0, none⟩), .int .i64 f] w fun e w' => e = .returned (.tuple #[]) ∧ Upd w w' g t (.int .i64 (fl u f) :: l) := by
  have c0 := h.at_ 0
  have f0 := h.open_ 0
  simp only [List.getElem?_cons_zero] at c0
  have HO := Lib.hid h
  clear h
  by_cases hu : u = 0
  · have t1 : (u == 0) = true := by simpa using hu
    have HU := Lib.hid hu
    clear hu
    go_enter Tryz.func119, Tryz.ntmps119
    go_wp2_with fail
    exact bodyPost_end (results_none rfl _ _ _) rfl ⟨rfl, ((Upd.same HO.out).set_ 0 _).as (by unfold fl; rw [if_pos HU.out]; rfl)⟩
  · have t1 : (u == 0) = false := by simpa using hu
    have HU := Lib.hid hu
    clear hu
    go_enter Tryz.func119, Tryz.ntmps119
    go_wp2_with fail
    exact bodyPost_end (results_none rfl _ _ _) rfl ⟨rfl, (Upd.same HO.out).as (by unfold fl; rw [if_neg HU.out])⟩
set_option maxRecDepth 100000 in
set_option maxHeartbeats 1600000 in
theorem kids_any (op : Int) (w : World) : Calls Tryz.prog 130 #[.int .u8 op] w fun e w' => e = .returned (.int .i64 (kidsOf op)) ∧ w = w' := by
  by_cases h1 : op = 1
  case pos => subst h1; go_enter Tryz.func130, Tryz.ntmps130; go_wp2_with fail; go_ret; exact ⟨rfl, rfl⟩
  by_cases h2 : op = 2
  case pos => subst h2; go_enter Tryz.func130, Tryz.ntmps130; go_wp2_with fail; go_ret; exact ⟨rfl, rfl⟩
  by_cases h3 : op = 6
  case pos => subst h3; go_enter Tryz.func130, Tryz.ntmps130; go_wp2_with fail; go_ret; exact ⟨rfl, rfl⟩
  by_cases h4 : op = 11
  case pos => subst h4; go_enter Tryz.func130, Tryz.ntmps130; go_wp2_with fail; go_ret; exact ⟨rfl, rfl⟩
  by_cases h5 : op = 3
  case pos => subst h5; go_enter Tryz.func130, Tryz.ntmps130; go_wp2_with fail; go_ret; exact ⟨rfl, rfl⟩
  by_cases h6 : op = 4
  case pos => subst h6; go_enter Tryz.func130, Tryz.ntmps130; go_wp2_with fail; go_ret; exact ⟨rfl, rfl⟩
  by_cases h7 : op = 5
  case pos => subst h7; go_enter Tryz.func130, Tryz.ntmps130; go_wp2_with fail; go_ret; exact ⟨rfl, rfl⟩
  by_cases h8 : op = 7
  case pos => subst h8; go_enter Tryz.func130, Tryz.ntmps130; go_wp2_with fail; go_ret; exact ⟨rfl, rfl⟩
  by_cases h9 : op = 8
  case pos => subst h9; go_enter Tryz.func130, Tryz.ntmps130; go_wp2_with fail; go_ret; exact ⟨rfl, rfl⟩
  by_cases h10 : op = 9
  case pos => subst h10; go_enter Tryz.func130, Tryz.ntmps130; go_wp2_with fail; go_ret; exact ⟨rfl, rfl⟩
  by_cases h11 : op = 10
  case pos => subst h11; go_enter Tryz.func130, Tryz.ntmps130; go_wp2_with fail; go_ret; exact ⟨rfl, rfl⟩
  by_cases h12 : op = 12
  case pos => subst h12; go_enter Tryz.func130, Tryz.ntmps130; go_wp2_with fail; go_ret; exact ⟨rfl, rfl⟩
  have hk : kidsOf op = -1 := by unfold kidsOf; repeat' split
                                 all_goals first | rfl | (exfalso; omega)
  rw [hk]
  clear hk
  go_enter Tryz.func130, Tryz.ntmps130
  go_wp2_with fail
  go_ret
  exact ⟨rfl, rfl⟩
end Go.Proofs.YtcfldgncmbcpmaaGreat
namespace Go.Proofs.YtcfldgncmbcpmaaGreat
open Go Go.RowKit

theorem eqV_zero (v : Vl) : eqV v Vl.zero = isZero v := by
  obtain ⟨t, n, s⟩ := v
  simp only [eqV, isZero, Vl.zero]
  have hs : (s.toList == (ByteArray.mk #[]).toList) = decide (s.size = 0) := by
    rw [Bool.eq_iff_iff, beq_iff_eq, decide_eq_true_eq, ByteArray.toList_eq, ByteArray.toList_eq, ← len_of, List.length_eq_zero_iff]
  rw [hs]
  cases t <;> rfl
theorem vals_one {w : World} {N : Nat} (v : Vl) (hN : w.heap.size = N) : Vals (w.alloc (.cells #[.bool v.t, .int .i64 v.n, .string v.s] 46)) (w.alloc (.cells #[.bool v.t, .int .i64 v.n, .string v.s] 46)).heap.size (some ⟨N, 0, none⟩) [v] := fun _ => by
  subst hN
  have ho := Own.made w 46 v.cells
  refine ⟨_, _, rfl, by simp, fun i x hx => ?_⟩
  match i, hx with
  | 0, hx =>
    obtain rfl : v = x := by simpa using hx
    exact ⟨ho.at_ 0, ho.at_ 1, ho.at_ 2⟩
theorem chkRow_cases (l : List Vl) : chkRow l = 0 ∨ chkRow l = 4 := by unfold chkRow; split <;> simp

set_option maxRecDepth 100000 in
set_option maxHeartbeats 1600000 in
theorem constant_any (op : Int) (v : Vl) (w : World) (hv : VOk v) :
    Calls Tryz.prog 131 #[.int .u8 op, v.val] w fun e w' => e = .returned (.bool (constOk op v)) ∧ Below w.heap.size w w' := by
  by_cases h2 : op = 2
  · subst h2
    have hc : ∀ W A c, Vals W W.heap.size A [v] → Hid (Calls Tryz.prog 37 #[.slice A 1 c] W fun e w' => e = .returned (.int .i64 (chkRow [v])) ∧ Below W.heap.size W w') :=
      fun W A c h => Lib.hid (vcheck_any A c [v] W h (by unfold maxLen; simp) (by simpa using hv.1))
    have hb := Lib.hid (show constOk 2 v = (chkRow [v] == 0) from rfl)
    unfold Vl.val
    generalize chkRow [v] = R at *
    clear hv
    go_enter Tryz.func131, Tryz.ntmps131
    go_wp2_with fail
    refine (hc _ _ _ (vals_one v (by simp))).out.mono ?_
    rintro e w1 ⟨rfl, b1⟩
    have B1 := Lib.hid b1
    clear b1
    go_wp2_with fail
    go_ret
    exact ⟨ret_bool hb.out.symm, below_then (((Below.refl _ _).alloc (Nat.le_refl _) _).alloc (by simp) _) (by simp) B1.out⟩
  · have t1 : (op == 2) = false := by simpa using h2
    have he := eql_val v Vl.zero
    have hgd := fun (x1 y1 : Operand) (xs ys : Array Value) (w : World) => grd_val .eql x1 y1 xs ys w
    have hb := Lib.hid (show constOk op v = isZero v by unfold constOk; rw [if_neg h2])
    rw [eqV_zero] at he
    unfold Vl.zero at he
    unfold Vl.val at he ⊢
    dsimp only at he
    generalize isZero v = z at *
    clear h2 hv
    go_enter Tryz.func131, Tryz.ntmps131
    go_wp2_with fail
    all_goals
      go_ret
      exact ⟨ret_bool hb.out.symm, (Below.refl _ _).alloc (Nat.le_refl _) _⟩
end Go.Proofs.YtcfldgncmbcpmaaGreat
namespace Go.Proofs.YtcfldgncmbcpmaaGreat
open Go Go.RowKit

/-- what the block of one that looks holds -/
def stL (s : St) : List Value := [.int .i64 s.why, .int .i64 s.nodes, .bool s.deep]
theorem past_lx {V : World} {b o : Nat} {e : Lx} (h : LxAt V b o e) (hb : b < V.heap.size) :
    (∀ p : Past V, p.w.cell? ⟨b, o, none⟩ = some (.int .u8 e.op)) ∧ (∀ p : Past V, p.w.cell? ⟨b, o + 1, none⟩ = some (.int .i64 e.col)) ∧ (∀ p : Past V, p.w.cell? ⟨b, o + 2, none⟩ = some (.bool e.c.t)) ∧
      (∀ p : Past V, p.w.cell? ⟨b, o + 3, none⟩ = some (.int .i64 e.c.n)) ∧ (∀ p : Past V, p.w.cell? ⟨b, o + 4, none⟩ = some (.string e.c.s)) ∧ (∀ p : Past V, p.w.cell? ⟨b, o + 5, none⟩ = some (.slice e.A e.kids.length e.cap)) :=
  ⟨fun p => ((h.past p.h hb).six).1, fun p => ((h.past p.h hb).six).2.1, fun p => ((h.past p.h hb).six).2.2.1, fun p => ((h.past p.h hb).six).2.2.2.1, fun p => ((h.past p.h hb).six).2.2.2.2.1, fun p => ((h.past p.h hb).six).2.2.2.2.2⟩
theorem wrap_w64 (x : Int) : wrap64 x = w64 x := by unfold wrap64 w64; omega
def LookC (n : Nat) : Prop := ∀ (e : Lx) (s : St) (b o g : Nat) (w : World), LxOk n e → LxIn w g n e → LxAt w b o e → b < g → Own w g 187 (stL s) →
  Calls Tryz.prog 118 #[.pointer (some ⟨g, 0, none⟩), .pointer (some ⟨b, o, none⟩), .int .i64 (17 - (n : Int))] w fun x w' => x = .returned (.tuple #[]) ∧ Upd w w' g 187 (stL (lk n e s))

set_option maxRecDepth 100000 in
set_option maxHeartbeats 3200000 in
theorem look_zero : LookC 0 := by
  intro e s b o g w _ _ _ _ h
  have c0 := h.at_ 0
  simp only [stL, List.getElem?_cons_zero] at c0
  have HO := Lib.hid h
  clear h
  go_enter Tryz.func118, Tryz.ntmps118
  go_wp2_with fail
  exact bodyPost_ret (results_none rfl _ _ _) rfl ⟨rfl, Upd.same HO.out⟩

set_option maxRecDepth 100000 in
set_option maxHeartbeats 6400000 in
theorem look_next {n : Nat} (hn : n ≤ 16) (ih : LookC n) : LookC (n + 1) := by
  intro e s b o g w hok hin hat hbg h
  have hg := h.inside
  have f0 := h.open_ 0
  have f1 := h.open_ 1
  have f2 := h.open_ 2
  have c0 := h.at_ 0
  have c1 := h.at_ 1
  have c2 := h.at_ 2
  simp only [stL, List.getElem?_cons_zero, List.getElem?_cons_succ] at c0 c1 c2
  have t0 : decide ((16 : Int) < 17 - ((n + 1 : Nat) : Int)) = false := by simp; omega
  have e0 : (17 - ((n + 1 : Nat) : Int)) = 16 - (n : Int) := by omega
  rw [e0] at t0 ⊢
  by_cases hs : s.why = 0
  case neg =>
    have t1 : (s.why != 0) = true := by simpa using hs
    have HH := Lib.hid (And.intro h hs)
    clear h hs hok hin hat ih
    go_enter Tryz.func118, Tryz.ntmps118
    go_wp2_with fail
    exact bodyPost_ret (results_none rfl _ _ _) rfl ⟨rfl, (Upd.same HH.out.1).as (by unfold lk; rw [if_pos HH.out.2])⟩
  case pos =>
    have t1 : (s.why != 0) = false := by simpa using hs
    have HH := Lib.hid (And.intro hok (And.intro hin (And.intro hat hs)))
    have HO := Lib.hid h
    have IH := Lib.hid ih
    clear h hok hin hat ih
    have hz : ∀ d, s.deep = d → Hid (s.deep = d) := fun d h => Lib.hid h
    go_enter Tryz.func118, Tryz.ntmps118
    go_upto_region 1 with fail
    go_cut [] (fun wx => Upd w wx g 187 (stL ⟨0, s.nodes, s.deep || n == 0⟩))
    case first =>
      cases hd : s.deep with
      | true =>
        rw [hd] at c2
        have HD := Lib.hid hd
        clear hd
        go_wp2_with fail
        go_meet
        exact ((Upd.same HO.out).set_ 2 _).as (by simp [stL, HH.out.2.2.2, HD.out])
      | false =>
        rw [hd] at c2
        have HD := Lib.hid hd
        clear hd
        by_cases h0 : n = 0
        · subst h0
          go_wp2_with fail
          go_meet
          exact ((Upd.same HO.out).set_ 2 _).as (by simp [stL, HH.out.2.2.2, HD.out])
        · have t2 : (16 - (n : Int) == 16) = false := by simp; omega
          go_wp2_with fail
          go_meet
          exact ((Upd.same HO.out).set_ 2 _).as (by simp [stL, HH.out.2.2.2, h0, HD.out])
    case rest =>
      clear c0 c1 c2 f0 f1 f2
      have c1 := hcut.own.at_ 1
      have f1 := hcut.own.open_ 1
      have f0 := hcut.own.open_ 0
      have f2 := hcut.own.open_ 2
      simp only [stL, List.getElem?_cons_zero, List.getElem?_cons_succ] at c1
      have H1 := Lib.hid hcut
      clear hcut
      go_upto_region 3 with fail
      obtain ⟨V, hV⟩ : ∃ V, wc.setCell ⟨g, 1, none⟩ (.int .i64 (wrap64 (s.nodes + 1))) = V := ⟨_, rfl⟩
      rw [hV]
      have hU : Upd w V g 187 (stL ⟨0, w64 (s.nodes + 1), s.deep || n == 0⟩) := hV ▸ (H1.out.set_ 1 _).as (by simp [stL, wrap_w64])
      have hsz := hU.grow.size
      have hat := HH.out.2.2.1.past (hU.below (Nat.le_refl _) (by omega)) hbg
      obtain ⟨d0, d1, d2, d3, d4, d5⟩ := past_lx hat (by omega)
      have hok := HH.out.1
      have hk := fun p : Past V => Lib.hid (kids_any e.op p.w)
      have hc := fun p : Past V => Lib.hid (constant_any e.op e.c p.w hok.1)
      unfold Vl.val at hc
      have hno := Lib.hid (show nodeOk e = (((e.kids.length : Int) == kidsOf e.op) && ((e.col == 0 || e.op == 1) && constOk e.op e.c)) from rfl)
      have HU := Lib.hid (And.intro hU hat)
      clear hU hat hok hV hz t0 t1 hs H1 c1 f0 f1 f2
      go_cut [71] (fun v wx => v = .bool (!nodeOk e) ∧ Below V.heap.size V wx)
      case first =>
        generalize e.kids.length = L at *
        generalize kidsOf e.op = K at *
        generalize constOk e.op e.c = C at *
        generalize e.op = O at *
        generalize e.col = M at *
        by_cases q1 : (L : Int) = K
        case neg =>
          have s1 : ((L : Int) != K) = true := by simpa using q1
          have r1 : ((L : Int) == K) = false := by simpa using q1
          rw [r1] at hno
          clear q1 r1
          refine wp_region_past V (by kernel_rfl) (by kernel_rfl) (Below.refl _ _) ?_
          repeat (first | go_big_quiet_step ((first | (go_at_call 130; refine (hk _).out.mono ?_; rintro _ _ ⟨rfl, rfl⟩; exact ⟨rfl, _, rfl⟩) | (go_at_call 131; exact calls_past (hc _).out))) | quiet_step ((first | (go_at_call 130; refine (hk _).out.mono ?_; rintro _ _ ⟨rfl, rfl⟩; exact ⟨rfl, _, rfl⟩) | (go_at_call 131; exact calls_past (hc _).out))))
          refine wpQuiet_nil ?_
          intro _ hw'
          obtain ⟨⟨wz, hbz⟩, hw''⟩ := hw'
          dsimp only at hw''
          obtain rfl := hw''
          go_wp2_with fail
          go_meet
          exact ⟨by rw [hno.out]; rfl, hbz⟩
        case pos =>
          have s1 : ((L : Int) != K) = false := by simpa using q1
          have r1 : ((L : Int) == K) = true := by simpa using q1
          rw [r1] at hno
          clear q1 r1
          by_cases q2 : M = 0
          case pos =>
            have s2 : (M != 0) = false := by simpa using q2
            have r2 : (M == 0) = true := by simpa using q2
            rw [r2] at hno
            clear q2 r2
            cases C
            all_goals
              refine wp_region_past V (by kernel_rfl) (by kernel_rfl) (Below.refl _ _) ?_
              repeat (first | go_big_quiet_step ((first | (go_at_call 130; refine (hk _).out.mono ?_; rintro _ _ ⟨rfl, rfl⟩; exact ⟨rfl, _, rfl⟩) | (go_at_call 131; exact calls_past (hc _).out))) | quiet_step ((first | (go_at_call 130; refine (hk _).out.mono ?_; rintro _ _ ⟨rfl, rfl⟩; exact ⟨rfl, _, rfl⟩) | (go_at_call 131; exact calls_past (hc _).out))))
              refine wpQuiet_nil ?_
              intro _ hw'
              obtain ⟨⟨wz, hbz⟩, hw''⟩ := hw'
              dsimp only at hw''
              obtain rfl := hw''
              go_wp2_with fail
              go_meet
              exact ⟨by rw [hno.out]; rfl, hbz⟩
          case neg =>
            have s2 : (M != 0) = true := by simpa using q2
            have r2 : (M == 0) = false := by simpa using q2
            rw [r2] at hno
            clear q2 r2
            by_cases q3 : O = 1
            case pos =>
              have s3 : (O != 1) = false := by simpa using q3
              have r3 : (O == 1) = true := by simpa using q3
              rw [r3] at hno
              clear q3 r3
              cases C
              all_goals
                refine wp_region_past V (by kernel_rfl) (by kernel_rfl) (Below.refl _ _) ?_
                repeat (first | go_big_quiet_step ((first | (go_at_call 130; refine (hk _).out.mono ?_; rintro _ _ ⟨rfl, rfl⟩; exact ⟨rfl, _, rfl⟩) | (go_at_call 131; exact calls_past (hc _).out))) | quiet_step ((first | (go_at_call 130; refine (hk _).out.mono ?_; rintro _ _ ⟨rfl, rfl⟩; exact ⟨rfl, _, rfl⟩) | (go_at_call 131; exact calls_past (hc _).out))))
                refine wpQuiet_nil ?_
                intro _ hw'
                obtain ⟨⟨wz, hbz⟩, hw''⟩ := hw'
                dsimp only at hw''
                obtain rfl := hw''
                go_wp2_with fail
                go_meet
                exact ⟨by rw [hno.out]; rfl, hbz⟩
            case neg =>
              have s3 : (O != 1) = true := by simpa using q3
              have r3 : (O == 1) = false := by simpa using q3
              rw [r3] at hno
              clear q3 r3
              refine wp_region_past V (by kernel_rfl) (by kernel_rfl) (Below.refl _ _) ?_
              repeat (first | go_big_quiet_step ((first | (go_at_call 130; refine (hk _).out.mono ?_; rintro _ _ ⟨rfl, rfl⟩; exact ⟨rfl, _, rfl⟩) | (go_at_call 131; exact calls_past (hc _).out))) | quiet_step ((first | (go_at_call 130; refine (hk _).out.mono ?_; rintro _ _ ⟨rfl, rfl⟩; exact ⟨rfl, _, rfl⟩) | (go_at_call 131; exact calls_past (hc _).out))))
              refine wpQuiet_nil ?_
              intro _ hw'
              obtain ⟨⟨wz, hbz⟩, hw''⟩ := hw'
              dsimp only at hw''
              obtain rfl := hw''
              go_wp2_with fail
              go_meet
              exact ⟨by rw [hno.out]; rfl, hbz⟩
      case rest =>
        obtain ⟨rfl, hcb⟩ := hcut
        have hU := HU.out.1.quiet hcb
        have hat := HU.out.2.past hcb (by omega)
        have HU2 := Lib.hid (And.intro hU hat)
        clear hU hat hcb HU hk hc hno d0 d1 d2 d3 d4 d5
        go_upto_if 71 with fail
        go_cut [] (fun wx => Upd w wx g 187 (stL ⟨if nodeOk e then 0 else 4, w64 (s.nodes + 1), s.deep || n == 0⟩))
        case first =>
          cases hn : nodeOk e with
          | true =>
            go_wp2_with fail
            go_meet
            exact HU2.out.1.as (by simp [hn])
          | false =>
            go_wp2_with fail
            refine (fail_any g _ _ 4 _ _ HU2.out.1.own).mono ?_
            rintro _ w2 ⟨rfl, u2⟩
            have U2 := Lib.hid u2
            clear u2
            go_wp2_with fail
            go_meet
            exact (HU2.out.1.trans U2.out).as (by simp [stL, fl, hn])
        case rest =>
          have hat := HU2.out.2
          have hU := hcut
          have hsz2 := hU.grow.size
          have hcw : LxAt wc b o e := HH.out.2.2.1.past (hU.below (Nat.le_refl _) (by omega)) hbg
          obtain ⟨d0, d1, d2, d3, d4, d5⟩ := hcw.six
          have hlen : e.kids.length ≤ 9223372036854775807 := by have := HH.out.1.2.2.2.1; unfold maxLen at this; omega
          have HW := Lib.hid (And.intro hU hcw)
          clear hat hU hcut HU2 HO hsz hsz2 hcw d0 d1 d2 d3 d4
          go_wp2_with fail
          go_loopw [81] (fun i wr => ∃ k : Nat, i = .int .i64 (k : Int) ∧ k ≤ e.kids.length ∧ Upd w wr g 187 (stL ((e.kids.take k).foldl (fun s k => lk n k s) ⟨if nodeOk e then 0 else 4, w64 (s.nodes + 1), s.deep || n == 0⟩)))
            (fun i _ => e.kids.length - (intOf i).toNat)
          case atStart => exact ⟨0, rfl, by omega, HW.out.1⟩
          case round =>
            obtain ⟨k, rfl, hk, hu⟩ := hrel
            by_cases hlt : k < e.kids.length
            · have hx : e.kids[k]? = some e.kids[k] := List.getElem?_eq_getElem hlt
              obtain ⟨b', o', hA, hB', hxs⟩ := lies_lx HH.out.2.1.1 (by omega)
              have hbw := hu.below (Nat.le_refl _) (Nat.le_of_lt hg)
              have hxa := (hxs k _ hx).past hbw hB'
              have hmem := List.mem_of_getElem? hx
              have hxi := (HH.out.2.1.2 _ hmem).past hbw (Nat.le_refl _)
              have hxo := HH.out.1.2.2.2.2 _ hmem
              have c5 := ((HH.out.2.2.1.past hbw hbg).six).2.2.2.2.2
              rw [hA] at c5
              have hst : (e.kids.take (k + 1)).foldl (fun s k => lk n k s) ⟨if nodeOk e then 0 else 4, w64 (s.nodes + 1), s.deep || n == 0⟩ = lk n e.kids[k] ((e.kids.take k).foldl (fun s k => lk n k s) ⟨if nodeOk e then 0 else 4, w64 (s.nodes + 1), s.deep || n == 0⟩) := by
                rw [List.take_add_one, hx, List.foldl_append]; rfl
              have hm : 16 - (n : Int) + 1 = 17 - (n : Int) := by omega
              have HX := Lib.hid (And.intro hu (And.intro hxa (And.intro hxi (And.intro hxo (And.intro hst hm)))))
              clear hu hx hxs hbw hxa hmem hxi hxo hst hm hA
              go_wp2_with fail
              rw [HX.out.2.2.2.2.2]
              refine (IH.out e.kids[k] _ b' (o' + k * 6) g _ HX.out.2.2.2.1 HX.out.2.2.1 HX.out.2.1 hB' HX.out.1.own).mono ?_
              rintro _ w2 ⟨rfl, u2⟩
              have U2 := Lib.hid u2
              clear u2
              go_wp2_with fail
              go_roundw
              case rel => exact ⟨k + 1, by go_num, by omega, (HX.out.1.trans U2.out).as (by rw [HX.out.2.2.2.2.1])⟩
              case measure => simp [intOf]; omega
            · have hk2 : k = e.kids.length := by omega
              subst hk2
              rw [List.take_length] at hu
              have HX := Lib.hid hu
              clear hu
              go_wp2_with fail
              exact bodyPost_end (results_none rfl _ _ _) rfl ⟨rfl, HX.out.as (by rw [lk_next HH.out.2.2.2])⟩
theorem look_any : ∀ n, n ≤ 17 → LookC n
  | 0, _ => look_zero
  | n + 1, h => look_next (by omega) (look_any n (by omega))
end Go.Proofs.YtcfldgncmbcpmaaGreat
namespace Go.Proofs.YtcfldgncmbcpmaaGreat
open Go Go.RowKit

theorem lxAt_own {w : World} {b : Nat} {t : TypeId} {e : Lx} (h : Own w b t e.cells) : LxAt w b 0 e := fun j u hj => by
  rw [Nat.zero_add, h.at_ j]
  exact hj
theorem lxbox (w : World) (e : Lx) : ∃ W, W = w.alloc (.cells #[.int .u8 e.op, .int .i64 e.col, .bool e.c.t, .int .i64 e.c.n, .string e.c.s, .slice e.A e.kids.length e.cap] 141) ∧ Below w.heap.size w W ∧ W.heap.size = w.heap.size + 1 ∧ Own W w.heap.size 141 e.cells :=
  ⟨_, rfl, (Below.refl _ _).alloc (Nat.le_refl _) _, by simp, by have := Own.made w 141 e.cells; simpa [Lx.cells] using this⟩
theorem lxbox2 (w : World) (e : Lx) (t : TypeId) (l : List Value) : ∃ W, W = (w.alloc (.cells #[.int .u8 e.op, .int .i64 e.col, .bool e.c.t, .int .i64 e.c.n, .string e.c.s, .slice e.A e.kids.length e.cap] 141)).alloc (.cells l.toArray t) ∧ Below w.heap.size w W ∧ W.heap.size = w.heap.size + 2 ∧
    Own W w.heap.size 141 e.cells ∧ Own W (w.heap.size + 1) t l := by
  obtain ⟨W, hW, fb, h1, f0⟩ := lxbox w e
  rw [← hW]
  have g0 := Own.made W t l
  rw [h1] at g0
  exact ⟨_, rfl, fb.alloc (by omega) _, by simp; omega, f0.more _, g0⟩
theorem look_all (e : Lx) (s : St) (b o g : Nat) (w : World) (h1 : LxOk 17 e) (h2 : LxIn w g 17 e) (h3 : LxAt w b o e) (h4 : b < g) (h5 : Own w g 187 (stL s)) :
    Calls Tryz.prog 118 #[.pointer (some ⟨g, 0, none⟩), .pointer (some ⟨b, o, none⟩), .int .i64 0] w fun x w' => x = .returned (.tuple #[]) ∧ Upd w w' g 187 (stL (lk 17 e s)) := by
  have := look_any 17 (by omega) e s b o g w h1 h2 h3 h4 h5
  rwa [show (17 - ((17 : Nat) : Int)) = 0 from rfl] at this

set_option maxRecDepth 100000 in
set_option maxHeartbeats 3200000 in
theorem echeck_any (e : Lx) (w : World) (hok : LxOk 17 e) (hin : LxIn w w.heap.size 17 e) :
    Calls Tryz.prog 97 #[e.val] w fun x w' => x = .returned (.int .i64 (checkE e)) ∧ Below w.heap.size w w' := by
  have HH := Lib.hid (And.intro hok hin)
  have HC := Lib.hid (show checkE e = if (lk 17 e ⟨0, 0, false⟩).deep = true ∨ (lk 17 e ⟨0, 0, false⟩).nodes > 64 then ((lk 17 e ⟨0, 0, false⟩).fail 2).why else (lk 17 e ⟨0, 0, false⟩).why from rfl)
  have hlk := fun b o g W => Lib.hid (look_all e ⟨0, 0, false⟩ b o g W)
  clear hok hin
  unfold Lx.val
  go_enter Tryz.func97, Tryz.ntmps97
  go_wp2_with fail
  obtain ⟨W, hW, fb, hs, fe, fo⟩ := lxbox2 w e 187 (stL ⟨0, 0, false⟩)
  unfold stL at hW
  dsimp only at hW
  rw [← hW]
  clear hW
  have HW := Lib.hid (And.intro fb (And.intro hs (And.intro fe fo)))
  clear fb hs fe fo
  generalize lk 17 e ⟨0, 0, false⟩ = s at *
  refine ((hlk _ _ _ _).out HH.out.1 ((HH.out.2.past HW.out.1 (Nat.le_refl _)).wide (by omega)) (lxAt_own HW.out.2.2.1) (by omega) HW.out.2.2.2).mono ?_
  rintro _ w2 ⟨rfl, u2⟩
  have hb2 := HW.out.1.trans (u2.below (B := w.heap.size) (by omega) (by have := HW.out.2.1; omega))
  have c0 := u2.own.at_ 0
  have c1 := u2.own.at_ 1
  have c2 := u2.own.at_ 2
  have U2 := Lib.hid (And.intro u2 hb2)
  have hsz := hb2.size
  have hin2 := u2.own.inside
  clear u2 hb2 hlk HH HW
  simp only [stL, List.getElem?_cons_zero, List.getElem?_cons_succ] at c0 c1 c2
  obtain ⟨why, nodes, deep⟩ := s
  dsimp only at c0 c1 c2
  unfold St.fail at HC
  dsimp only at HC
  by_cases hd : deep = true ∨ nodes > 64
  · rw [if_pos hd] at HC
    cases deep with
    | true =>
      go_wp2_with fail
      refine (fail_any _ _ _ 2 _ _ U2.out.1.own).mono ?_
      rintro _ w3 ⟨rfl, u3⟩
      have d0 := u3.own.at_ 0
      simp only [List.getElem?_cons_zero] at d0
      have hb3 := u3.below (B := w.heap.size) (by omega) (by omega)
      clear c0 c1 c2
      have U3 := Lib.hid hb3
      clear u3 hb3
      go_wp2_with fail
      go_ret
      exact ⟨ret_i64 HC.out.symm, U2.out.2.trans U3.out⟩
    | false =>
      have hn : nodes > 64 := by rcases hd with h | h; cases h; exact h
      have t1 : decide (64 < nodes) = true := by simpa using hn
      clear hd hn
      go_wp2_with fail
      refine (fail_any _ _ _ 2 _ _ U2.out.1.own).mono ?_
      rintro _ w3 ⟨rfl, u3⟩
      have d0 := u3.own.at_ 0
      simp only [List.getElem?_cons_zero] at d0
      have hb3 := u3.below (B := w.heap.size) (by omega) (by omega)
      clear c0 c1 c2
      have U3 := Lib.hid hb3
      clear u3 hb3
      go_wp2_with fail
      go_ret
      exact ⟨ret_i64 HC.out.symm, U2.out.2.trans U3.out⟩
  · rw [if_neg hd] at HC
    have hn : ¬ nodes > 64 := fun h => hd (.inr h)
    have hd1 : deep = false := by rw [← Bool.not_eq_true]; exact fun h => hd (.inl h)
    subst hd1
    have t1 : decide (64 < nodes) = false := by simpa using hn
    clear hd hn
    go_wp2_with fail
    go_ret
    exact ⟨ret_i64 HC.out.symm, U2.out.2⟩
end Go.Proofs.YtcfldgncmbcpmaaGreat
namespace Go.Proofs.YtcfldgncmbcpmaaGreat
open Go Go.RowKit

/-- what the block of one that evaluates holds -/
def evL (u : Int) (A : Option Addr) (n c : Nat) : List Value := [.int .i64 u, .slice A n c]
/-- an expression that is well-formed lies below block g, and so does the row -/
structure Te (n : Nat) (e : Lx) (w : World) (g : Nat) : Prop where
  gd : good n e = true
  ok : LxOk n e
  in_ : LxIn w g n e
structure RowIn (row : List Vl) (A : Option Addr) (w : World) (g : Nat) : Prop where
  vals : Vals w g A row
  len : row.length ≤ maxLen
  ok : ∀ v ∈ row, VOk v
theorem Te.past {n : Nat} {e : Lx} {w w' : World} {g : Nat} (h : Te n e w g) (hb : Below g w w') : Te n e w' g := ⟨h.gd, h.ok, h.in_.past hb (Nat.le_refl _)⟩
theorem RowIn.past {row : List Vl} {A : Option Addr} {w w' : World} {g : Nat} (h : RowIn row A w g) (hb : Below g w w') : RowIn row A w' g := ⟨h.vals.past hb (Nat.le_refl _), h.len, h.ok⟩
theorem Te.sub {n : Nat} {e : Lx} {w : World} {g i : Nat} (h : Te (n + 1) e w g) (hi : i < e.kids.length) : Te n (kid e i) w g := by
  have hk : kid e i ∈ e.kids := by unfold kid; rw [List.getD_eq_getElem?_getD, List.getElem?_eq_getElem hi]; exact List.getElem_mem hi
  have hg := h.gd
  simp only [good, Bool.and_eq_true, List.all_eq_true] at hg
  exact ⟨hg.2 _ hk, h.ok.2.2.2.2 _ hk, h.in_.2 _ hk⟩
theorem Te.node {n : Nat} {e : Lx} {w : World} {g : Nat} (h : Te (n + 1) e w g) : (e.kids.length : Int) = kidsOf e.op ∧ constOk e.op e.c = true := by
  have hg := h.gd
  simp only [good, Bool.and_eq_true, nodeOk, beq_iff_eq] at hg
  exact ⟨hg.1.1, hg.1.2.2⟩
/-- where the i-th of those in an expression lies -/
theorem Te.at_ {n : Nat} {e : Lx} {w : World} {g i : Nat} (h : Te (n + 1) e w g) (hi : i < e.kids.length) : ∃ b o, e.A = some ⟨b, o, none⟩ ∧ b < g ∧ LxAt w b (o + i * 6) (kid e i) := by
  obtain ⟨b, o, hA, hb, hx⟩ := lies_lx h.in_.1 (by omega)
  refine ⟨b, o, hA, hb, hx i _ ?_⟩
  unfold kid
  rw [List.getD_eq_getElem?_getD, List.getElem?_eq_getElem hi]
  rfl
/-- the contract of the evaluation, n deep -/
def EvC (row : List Vl) (A : Option Addr) (c : Nat) (n : Nat) : Prop := ∀ (e : Lx) (u : Int) (g : Nat) (w : World), Te n e w g → RowIn row A w g → Own w g 169 (evL u A row.length c) →
  Calls Tryz.prog 98 #[.pointer (some ⟨g, 0, none⟩), e.val] w fun x w' => x = .returned (ev row n e u).1.val ∧ Upd w w' g 169 (evL (ev row n e u).2 A row.length c)
theorem vbox (w : World) (x : Vl) : ∃ W, W = w.alloc (.cells #[.bool x.t, .int .i64 x.n, .string x.s] 46) ∧ Below w.heap.size w W ∧ W.heap.size = w.heap.size + 1 ∧ Own W w.heap.size 46 x.cells :=
  ⟨_, rfl, (Below.refl _ _).alloc (Nat.le_refl _) _, by simp, by have := Own.made w 46 x.cells; simpa [Vl.cells] using this⟩

theorem Upd.put {w w' : World} {g : Nat} {t : TypeId} {l : List Value} (h : Upd w w' g t l) {p : Addr} (hp : w.heap.size ≤ p.block) (hg : g < w.heap.size) (u : Value) : Upd w (w'.setCell p u) g t l :=
  ⟨h.own.other (by omega) u, ⟨h.grow.os, h.grow.tape, h.grow.output, by simpa using h.grow.size, fun k hk hne => (Below.heap_setCell w' p u k (by omega)).trans (h.grow.block k hk hne)⟩⟩
theorem Upd.put3 {w w' : World} {g N : Nat} {t : TypeId} {l : List Value} (h : Upd w w' g t l) (hp : w.heap.size ≤ N) (hg : g < w.heap.size) (x y z : Value) : Upd w (((w'.setCell ⟨N, 0, none⟩ x).setCell ⟨N, 1, none⟩ y).setCell ⟨N, 2, none⟩ z) g t l :=
  ((h.put (p := ⟨N, 0, none⟩) hp hg x).put (p := ⟨N, 1, none⟩) hp hg y).put (p := ⟨N, 2, none⟩) hp hg z

set_option maxRecDepth 100000 in
set_option maxHeartbeats 1600000 in
theorem column_any (row : List Vl) (A : Option Addr) (c : Nat) (u col : Int) (g : Nat) (w : World) (hr : RowIn row A w g) (ho : Own w g 169 (evL u A row.length c)) :
    Calls Tryz.prog 120 #[.pointer (some ⟨g, 0, none⟩), .int .i64 col] w fun x w' =>
      x = .returned ((if 0 ≤ col ∧ col < row.length then row.getD col.toNat default else Vl.zero).val) ∧ Upd w w' g 169 (evL (if 0 ≤ col ∧ col < row.length then u else fl u 1) A row.length c) := by
  have c0 := ho.at_ 0
  have c1 := ho.at_ 1
  have hg := ho.inside
  have hlen := hr.len
  unfold maxLen at hlen
  simp only [evL, List.getElem?_cons_zero, List.getElem?_cons_succ] at c0 c1
  obtain ⟨W, hW, fb, hs, fz⟩ := vbox w Vl.zero
  dsimp only [Vl.zero] at hW
  replace c0 := (fb.cell (p := ⟨g, 0, none⟩) hg).trans c0
  replace c1 := (fb.cell (p := ⟨g, 1, none⟩) hg).trans c1
  have z0 := fz.open_ 0
  have z1 := fz.open_ 1
  have z2 := fz.open_ 2
  have y0 := fz.at_ 0
  have y1 := fz.at_ 1
  have y2 := fz.at_ 2
  simp only [Vl.cells, Vl.zero, List.getElem?_cons_zero, List.getElem?_cons_succ] at y0 y1 y2
  have hzi := fz.inside
  have HW := Lib.hid (And.intro (Upd.after fb (Upd.same (ho.past fb hg))) fz)
  have hgw : g < W.heap.size := by omega
  by_cases h0 : 0 ≤ col
  · by_cases h1 : col < row.length
    · rw [if_pos ⟨h0, h1⟩, if_pos ⟨h0, h1⟩]
      obtain ⟨k, rfl⟩ : ∃ k : Nat, col = (k : Int) := ⟨col.toNat, by omega⟩
      have hk : k < row.length := by omega
      have hx : row[k]? = some row[k] := List.getElem?_eq_getElem hk
      have hd : row.getD (k : Int).toNat default = row[k] := by rw [Int.toNat_natCast, List.getD_eq_getElem?_getD, hx]; rfl
      obtain ⟨b, o, rfl, hB, hl⟩ := hr.vals (by omega)
      obtain ⟨d0, d1, d2⟩ := (hl k _ hx).past fb (by omega)
      have t1 : decide ((k : Int) < 0) = false := by simp
      have t2 : decide ((row.length : Int) ≤ (k : Int)) = false := by simp; omega
      rw [hd]
      generalize row[k] = x at *
      clear hr ho hx hd hl h0 fb fz
      unfold Vl.val
      go_enter Tryz.func120, Tryz.ntmps120
      go_upto_region 1 with fail
      rw [← hW]
      clear hW
      go_wp2_with fail
      obtain ⟨e0, e1, e2⟩ := HW.out.2.stored3 (.bool x.t) (.int .i64 x.n) (.string x.s)
      exact bodyPost_ret (v := .agg #[.bool x.t, .int .i64 x.n, .string x.s]) (by simp [results, Tryz.results120, go_sem, e0, e1, e2]) rfl ⟨rfl, HW.out.1.put3 (Nat.le_refl _) hg _ _ _⟩
    · have t1 : decide (col < 0) = false := by simpa using h0
      have t2 : decide ((row.length : Int) ≤ col) = true := by simpa using h1
      rw [if_neg (fun h => h1 h.2), if_neg (fun h => h1 h.2)]
      clear ho hr h0 h1 fb fz
      unfold Vl.val Vl.zero
      go_enter Tryz.func120, Tryz.ntmps120
      go_upto_region 1 with fail
      rw [← hW]
      clear hW
      go_wp2_with fail
      refine (fail_any g _ _ 1 _ _ HW.out.1.own).mono ?_
      rintro _ w3 ⟨rfl, u3⟩
      have y0 := (u3.other (k := w.heap.size) (by omega) HW.out.2).at_ 0
      have y1 := (u3.other (k := w.heap.size) (by omega) HW.out.2).at_ 1
      have y2 := (u3.other (k := w.heap.size) (by omega) HW.out.2).at_ 2
      have z0 := (u3.other (k := w.heap.size) (by omega) HW.out.2).open_ 0
      have z1 := (u3.other (k := w.heap.size) (by omega) HW.out.2).open_ 1
      have z2 := (u3.other (k := w.heap.size) (by omega) HW.out.2).open_ 2
      simp only [Vl.cells, Vl.zero, List.getElem?_cons_zero, List.getElem?_cons_succ] at y0 y1 y2
      have U3 := Lib.hid (And.intro (HW.out.1.trans u3) (u3.other (k := w.heap.size) (by omega) HW.out.2))
      clear u3 c0 c1
      go_wp2_with fail
      obtain ⟨e0, e1, e2⟩ := U3.out.2.stored3 (.bool false) (.int .i64 0) (.string ⟨#[]⟩)
      exact bodyPost_ret (v := .agg #[.bool false, .int .i64 0, .string ⟨#[]⟩]) (by simp [results, Tryz.results120, go_sem, e0, e1, e2]) rfl ⟨rfl, U3.out.1.put3 (Nat.le_refl _) hg _ _ _⟩
  · have t1 : decide (col < 0) = true := by simpa using h0
    rw [if_neg (fun h => h0 h.1), if_neg (fun h => h0 h.1)]
    clear ho hr h0 fb fz
    unfold Vl.val Vl.zero
    go_enter Tryz.func120, Tryz.ntmps120
    go_upto_region 1 with fail
    rw [← hW]
    clear hW
    go_wp2_with fail
    refine (fail_any g _ _ 1 _ _ HW.out.1.own).mono ?_
    rintro _ w3 ⟨rfl, u3⟩
    have y0 := (u3.other (k := w.heap.size) (by omega) HW.out.2).at_ 0
    have y1 := (u3.other (k := w.heap.size) (by omega) HW.out.2).at_ 1
    have y2 := (u3.other (k := w.heap.size) (by omega) HW.out.2).at_ 2
    have z0 := (u3.other (k := w.heap.size) (by omega) HW.out.2).open_ 0
    have z1 := (u3.other (k := w.heap.size) (by omega) HW.out.2).open_ 1
    have z2 := (u3.other (k := w.heap.size) (by omega) HW.out.2).open_ 2
    simp only [Vl.cells, Vl.zero, List.getElem?_cons_zero, List.getElem?_cons_succ] at y0 y1 y2
    have U3 := Lib.hid (And.intro (HW.out.1.trans u3) (u3.other (k := w.heap.size) (by omega) HW.out.2))
    clear u3 c0 c1
    go_wp2_with fail
    obtain ⟨e0, e1, e2⟩ := U3.out.2.stored3 (.bool false) (.int .i64 0) (.string ⟨#[]⟩)
    exact bodyPost_ret (v := .agg #[.bool false, .int .i64 0, .string ⟨#[]⟩]) (by simp [results, Tryz.results120, go_sem, e0, e1, e2]) rfl ⟨rfl, U3.out.1.put3 (Nat.le_refl _) hg _ _ _⟩
end Go.Proofs.YtcfldgncmbcpmaaGreat
namespace Go.Proofs.YtcfldgncmbcpmaaGreat
open Go Go.RowKit

theorem Upd.more {w w' : World} {g : Nat} {t : TypeId} {l : List Value} (h : Upd w w' g t l) (o : Obj) : Upd w (w'.alloc o) g t l := h.quiet ((Below.refl _ _).alloc (Nat.le_refl _) _)
theorem Upd.drew {w w' : World} {g : Nat} {t : TypeId} {l : List Value} (h : Upd w w' g t l) : Upd w w'.drew g t l := h.quiet (Below.refl _ _).drew
theorem ret_i64s {a b : Int} {u v : Int} {w w' : World} {g : Nat} {t : TypeId} {A : Option Addr} {n c : Nat} (h : a = b) (hu : u = v) (k : Upd w w' g t (evL u A n c)) : Ending.returned (.int .i64 a) = .returned (.int .i64 b) ∧ Upd w w' g t (evL v A n c) := by subst h hu; exact ⟨rfl, k⟩
set_option maxRecDepth 100000 in
set_option maxHeartbeats 1600000 in
theorem number2_any (row : List Vl) (A : Option Addr) (c n : Nat) (hE : EvC row A c n) (k : Lx) (u : Int) (g : Nat) (w : World) (ht : Te n k w g) (hr : RowIn row A w g) (ho : Own w g 169 (evL u A row.length c)) :
    Calls Tryz.prog 121 #[.pointer (some ⟨g, 0, none⟩), k.val] w fun x w' =>
      x = .returned (.int .i64 (nm (ev row n) k u).1) ∧ Upd w w' g 169 (evL (nm (ev row n) k u).2 A row.length c) := by
  have hg := ho.inside
  obtain ⟨W, hW, fb, hs, fk⟩ := lxbox w k
  have hcall := Lib.hid (hE k u g W (ht.past (fb.mono (by omega))) (hr.past (fb.mono (by omega))) (ho.past fb hg))
  have HW := Lib.hid (Upd.after fb (Upd.same (ho.past fb hg)))
  clear ht hr ho hE fk
  unfold nm
  unfold Lx.val at *
  unfold Vl.val at hcall
  generalize ev row n k u = p at *
  obtain ⟨⟨t, m, s⟩, u'⟩ := p
  dsimp only at *
  cases t
  all_goals
    go_enter Tryz.func121, Tryz.ntmps121
    go_wp2_with fail
    rw [← hW]
    refine hcall.out.mono ?_
    rintro _ w2 ⟨rfl, u2⟩
    have U2 := Lib.hid (HW.out.trans u2)
    clear u2
    have hg2 := U2.out.own.inside
    go_wp2_with fail
  · go_ret
    exact ret_i64s rfl (by simp) (U2.out.more _)
  · have U3 := Lib.hid (U2.out.more (.cells #[.bool true, .int .i64 m, .string s] 46))
    have fv := Own.made w2 46 [.bool true, .int .i64 m, .string s]
    refine (fail_any g _ _ 11 _ _ U3.out.own).mono ?_
    rintro _ w3 ⟨rfl, u3⟩
    have fv3 := u3.other (k := w2.heap.size) (by omega) fv
    have d1 := fv3.at_ 1
    simp only [List.getElem?_cons_zero, List.getElem?_cons_succ] at d1
    have U4 := Lib.hid (U3.out.trans u3)
    clear u3 fv fv3
    go_wp2_with fail
    go_ret
    exact ret_i64s rfl (by simp) U4.out
end Go.Proofs.YtcfldgncmbcpmaaGreat
namespace Go.Proofs.YtcfldgncmbcpmaaGreat
open Go Go.RowKit

theorem own_put3 {w : World} {P : Nat} {t : TypeId} {x y z : Value} (h : Own w P t [x, y, z]) (a b c : Value) : Own (((w.setCell ⟨P, 0, none⟩ a).setCell ⟨P, 1, none⟩ b).setCell ⟨P, 2, none⟩ c) P t [a, b, c] := ((h.set_ 0 a).set_ 1 b).set_ 2 c
theorem own_put3_other {w : World} {P Q : Nat} {t : TypeId} {l : List Value} (h : Own w Q t l) (hn : P ≠ Q) (a b c : Value) : Own (((w.setCell ⟨P, 0, none⟩ a).setCell ⟨P, 1, none⟩ b).setCell ⟨P, 2, none⟩ c) Q t l :=
  ((h.other (p := ⟨P, 0, none⟩) hn a).other (p := ⟨P, 1, none⟩) hn b).other (p := ⟨P, 2, none⟩) hn c
theorem own_putz {w : World} {P : Nat} {t : TypeId} (h : Own w P t [.bool false, .int .i64 0, .string ⟨#[]⟩]) (a b c : Value) : Own (((w.setCell ⟨P, 0, none⟩ a).setCell ⟨P, 1, none⟩ b).setCell ⟨P, 2, none⟩ c) P t [a, b, c] := own_put3 h a b c
theorem own_atE {w : World} {N : Nat} {t : TypeId} {l : List Value} (hN : w.heap.size = N) : Own (w.alloc (.cells l.toArray t)) N t l := by subst hN; exact Own.made w t l
theorem own_grown {w w' : World} {g k : Nat} {t : TypeId} {l : List Value} (hg : w.grownBy w' (some g)) (h : Own w k t l) (hn : k ≠ g) : Own w' k t l := (hg.block k h.inside (by simpa using hn)).trans h
theorem own_drew {w : World} {k : Nat} {t : TypeId} {l : List Value} (h : Own w k t l) : Own w.drew k t l := h
/-- the two kids that are loaded, at a world in which nothing but block g has turned -/
theorem kids_read {W w' : World} {g N b o o' : Nat} {l : List Value} {e k k' : Lx} (h : Upd W w' g 169 l) (hN : Own W N 141 e.cells) (hNg : N ≠ g) (hk : LxAt W b o k) (hk' : LxAt W b o' k') (hb : b < g) (hg : g ≤ W.heap.size) :
    (∃ l, Upd W w' g 169 l) ∧ w'.cell? ⟨N, 5, none⟩ = some (.slice e.A e.kids.length e.cap) ∧
      (w'.cell? ⟨b, o, none⟩ = some (.int .u8 k.op) ∧ w'.cell? ⟨b, o + 1, none⟩ = some (.int .i64 k.col) ∧ w'.cell? ⟨b, o + 2, none⟩ = some (.bool k.c.t) ∧
      w'.cell? ⟨b, o + 3, none⟩ = some (.int .i64 k.c.n) ∧ w'.cell? ⟨b, o + 4, none⟩ = some (.string k.c.s) ∧ w'.cell? ⟨b, o + 5, none⟩ = some (.slice k.A k.kids.length k.cap)) ∧
      (w'.cell? ⟨b, o', none⟩ = some (.int .u8 k'.op) ∧ w'.cell? ⟨b, o' + 1, none⟩ = some (.int .i64 k'.col) ∧ w'.cell? ⟨b, o' + 2, none⟩ = some (.bool k'.c.t) ∧
      w'.cell? ⟨b, o' + 3, none⟩ = some (.int .i64 k'.c.n) ∧ w'.cell? ⟨b, o' + 4, none⟩ = some (.string k'.c.s) ∧ w'.cell? ⟨b, o' + 5, none⟩ = some (.slice k'.A k'.kids.length k'.cap)) :=
  ⟨⟨l, h⟩, (h.other hNg hN).at_ 5, (hk.past (h.below (Nat.le_refl _) hg) hb).six, (hk'.past (h.below (Nat.le_refl _) hg) hb).six⟩
theorem grown_olds {w w' : World} {g : Nat} (h : w.grownBy w' (some g)) : (∀ b o, b < w.heap.size → b ≠ g → w'.cell? ⟨b, o, none⟩ = w.cell? ⟨b, o, none⟩) ∧ (∀ b o, b < w.heap.size → b ≠ g → w'.frozen? ⟨b, o, none⟩ = w.frozen? ⟨b, o, none⟩) :=
  ⟨fun b o hb hn => by simp [World.cell?, h.block b hb (by simpa using hn)], fun b o hb hn => by simp [World.frozen?, h.block b hb (by simpa using hn)]⟩
theorem ne_of_upd {W w' : World} {g : Nat} {t : TypeId} {l : List Value} (h : Upd W w' g t l) (hg : g < W.heap.size) : w'.heap.size ≠ g ∧ w'.heap.size + 1 ≠ g := by have := h.grow.size; omega
theorem cell_alloc_ne (w : World) (o : Obj) (b k : Nat) (h : b ≠ w.heap.size) : (w.alloc o).cell? ⟨b, k, none⟩ = w.cell? ⟨b, k, none⟩ := by
  by_cases hb : b < w.heap.size
  · simp [World.cell?, Below.heap_alloc w o b hb]
  · have h1 : w.heap[b]? = none := by rw [Array.getElem?_eq_none_iff]; omega
    have h2 : (w.alloc o).heap[b]? = none := by rw [Array.getElem?_eq_none_iff, World.size_alloc]; omega
    simp [World.cell?, h1, h2]
theorem frozen_alloc_ne (w : World) (o : Obj) (b k : Nat) (h : b ≠ w.heap.size) : (w.alloc o).frozen? ⟨b, k, none⟩ = w.frozen? ⟨b, k, none⟩ := by
  by_cases hb : b < w.heap.size
  · simp [World.frozen?, Below.heap_alloc w o b hb]
  · have h1 : w.heap[b]? = none := by rw [Array.getElem?_eq_none_iff]; omega
    have h2 : (w.alloc o).heap[b]? = none := by rw [Array.getElem?_eq_none_iff, World.size_alloc]; omega
    simp [World.frozen?, h1, h2]
attribute [local go_sem] cell_alloc_ne
attribute [local go_sem] frozen_alloc_ne
def ExU (W w' : World) (g : Nat) : Prop := ∃ l, Upd W w' g 169 l
theorem ExU.mk {W w' : World} {g : Nat} {l : List Value} (h : Upd W w' g 169 l) : ExU W w' g := ⟨l, h⟩
theorem ExU.more {W w' : World} {g : Nat} (h : ExU W w' g) (o : Obj) : ExU W (w'.alloc o) g := let ⟨_, k⟩ := h; ⟨_, k.more o⟩
theorem ExU.drew {W w' : World} {g : Nat} (h : ExU W w' g) : ExU W w'.drew g := let ⟨_, k⟩ := h; ⟨_, k.drew⟩
theorem ExU.put {W w' : World} {g : Nat} (h : ExU W w' g) {p : Addr} (hp : W.heap.size ≤ p.block) (hg : g < W.heap.size) (u : Value) : ExU W (w'.setCell p u) g := let ⟨_, k⟩ := h; ⟨_, k.put hp hg u⟩
set_option maxRecDepth 100000 in
set_option maxHeartbeats 16000000 in
theorem compare2_any (row : List Vl) (A : Option Addr) (c n : Nat) (hE : EvC row A c n) (e : Lx) (u : Int) (g : Nat) (w : World) (ht : Te (n + 1) e w g) (h2 : e.kids.length = 2) (hr : RowIn row A w g) (ho : Own w g 169 (evL u A row.length c)) :
    Calls Tryz.prog 132 #[.pointer (some ⟨g, 0, none⟩), e.val] w fun x w' =>
      x = .returned (.int .i64 (cp (ev row n) e u).1) ∧ Upd w w' g 169 (evL (cp (ev row n) e u).2 A row.length c) := by
  have hg := ho.inside
  obtain ⟨W, hW, fb, hs, fk⟩ := lxbox w e
  obtain ⟨b, o, hA, hB, hk0⟩ := ht.at_ (i := 0) (by omega)
  obtain ⟨b', o', hA', _, hk1⟩ := ht.at_ (i := 1) (by omega)
  rw [hA] at hA'
  simp only [Option.some.injEq, Addr.mk.injEq, and_true] at hA'
  obtain ⟨rfl, rfl⟩ := hA'
  rw [Nat.zero_mul, Nat.add_zero] at hk0
  rw [Nat.one_mul] at hk1
  have fg := fb.mono (show g ≤ w.heap.size by omega)
  have hk0 := hk0.past fg hB
  have hk1 := hk1.past fg hB
  have HW := Lib.hid (Upd.after fb (Upd.same (ho.past fb hg)))
  have hgW : g < W.heap.size := by omega
  have hrw := hr.past fg
  have ht0 := (ht.sub (i := 0) (by omega)).past fg
  have ht1 := (ht.sub (i := 1) (by omega)).past fg
  have HR := fun w' (h : ExU W w' g) => Lib.hid (kids_read h.choose_spec fk (by omega) hk0 hk1 hB (by omega))
  have hc0 : ∀ w', Upd W w' g 169 (evL u A row.length c) → Hid (Calls Tryz.prog 98 #[.pointer (some ⟨g, 0, none⟩), (kid e 0).val] w' fun x w'' => x = .returned (ev row n (kid e 0) u).1.val ∧ Upd W w'' g 169 (evL (ev row n (kid e 0) u).2 A row.length c) ∧ w'.grownBy w'' (some g)) :=
    fun w' h => Lib.hid ((hE (kid e 0) u g w' (ht0.past (h.below (Nat.le_refl _) (by omega))) (hrw.past (h.below (Nat.le_refl _) (by omega))) h.own).mono fun x w'' k => ⟨k.1, h.trans k.2, k.2.grow⟩)
  have hc1 : ∀ w', Upd W w' g 169 (evL (ev row n (kid e 0) u).2 A row.length c) → Hid (Calls Tryz.prog 98 #[.pointer (some ⟨g, 0, none⟩), (kid e 1).val] w' fun x w'' => x = .returned (ev row n (kid e 1) (ev row n (kid e 0) u).2).1.val ∧ Upd W w'' g 169 (evL (ev row n (kid e 1) (ev row n (kid e 0) u).2).2 A row.length c) ∧ w'.grownBy w'' (some g)) :=
    fun w' h => Lib.hid ((hE (kid e 1) (ev row n (kid e 0) u).2 g w' (ht1.past (h.below (Nat.le_refl _) (by omega))) (hrw.past (h.below (Nat.le_refl _) (by omega))) h.own).mono fun x w'' k => ⟨k.1, h.trans k.2, k.2.grow⟩)
  have HU := Lib.hid (Upd.same (ho.past fb hg))
  have h0 := HR W (ExU.mk (Upd.same (ho.past fb hg)))
  rw [hA, h2] at HR h0
  have HS := Lib.hid h0.out
  have Hcp := Lib.hid (show cp (ev row n) e u = ((ev row n (kid e 0) u).1.cmp (ev row n (kid e 1) (ev row n (kid e 0) u).2).1, if (ev row n (kid e 0) u).1.t != (ev row n (kid e 1) (ev row n (kid e 0) u).2).1.t then fl (ev row n (kid e 1) (ev row n (kid e 0) u).2).2 11 else (ev row n (kid e 1) (ev row n (kid e 0) u).2).2) from rfl)
  generalize hq : cp (ev row n) e u = q at *
  generalize ev row n (kid e 0) u = p at *
  generalize ev row n (kid e 1) p.2 = r at *
  obtain ⟨x, u1⟩ := p
  obtain ⟨y, u2⟩ := r
  unfold Lx.val at *
  rw [hA, h2]
  unfold Vl.val at hc0 hc1
  dsimp only at hc0 hc1 Hcp
  clear ht hr ho hE fk hk0 hk1 fb fg hrw ht0 ht1 h0 hq
  go_enter Tryz.func132, Tryz.ntmps132
  rw [hA, h2] at hW
  go_upto_region 1 with fail
  rw [← hW]
  clear hW hA h2
  go_cut [5, 6] (fun s5 s6 wx => ∃ P Q : Nat, s5 = .pointer (some ⟨P, 0, none⟩) ∧ s6 = .pointer (some ⟨Q, 0, none⟩) ∧ Upd W wx g 169 (evL u2 A row.length c) ∧ Own wx P 46 x.cells ∧ Own wx Q 46 y.cells ∧ g < P ∧ g < Q)
  case first =>
    obtain ⟨hh0, hh1, hh2, hh3⟩ := HS.out
    have Hs := Lib.hid hs
    clear hs
    have hm1 : W.heap.size ≠ g := by omega
    have hm2 : W.heap.size + 1 ≠ g := by omega
    go_region_held3 (fun w' => (∃ l, Upd W w' g 169 l) ∧ w'.cell? ⟨w.heap.size, 5, none⟩ = some (.slice (some ⟨b, o, none⟩) 2 e.cap) ∧
      (w'.cell? ⟨b, o, none⟩ = some (.int .u8 (kid e 0).op) ∧ w'.cell? ⟨b, o + 1, none⟩ = some (.int .i64 (kid e 0).col) ∧ w'.cell? ⟨b, o + 2, none⟩ = some (.bool (kid e 0).c.t) ∧
      w'.cell? ⟨b, o + 3, none⟩ = some (.int .i64 (kid e 0).c.n) ∧ w'.cell? ⟨b, o + 4, none⟩ = some (.string (kid e 0).c.s) ∧ w'.cell? ⟨b, o + 5, none⟩ = some (.slice (kid e 0).A (kid e 0).kids.length (kid e 0).cap)) ∧
      (w'.cell? ⟨b, o + 6, none⟩ = some (.int .u8 (kid e 1).op) ∧ w'.cell? ⟨b, o + 6 + 1, none⟩ = some (.int .i64 (kid e 1).col) ∧ w'.cell? ⟨b, o + 6 + 2, none⟩ = some (.bool (kid e 1).c.t) ∧
      w'.cell? ⟨b, o + 6 + 3, none⟩ = some (.int .i64 (kid e 1).c.n) ∧ w'.cell? ⟨b, o + 6 + 4, none⟩ = some (.string (kid e 1).c.s) ∧ w'.cell? ⟨b, o + 6 + 5, none⟩ = some (.slice (kid e 1).A (kid e 1).kids.length (kid e 1).cap)))
      ((refine (HR _ ?_).out; repeat (first | with_reducible exact ExU.mk HU.out | with_reducible exact ExU.mk hu2 | with_reducible exact ExU.mk hu1 | with_reducible refine ExU.more ?_ _ | with_reducible refine ExU.drew ?_ | with_reducible refine ExU.put ?_ (by first | (simp; done) | (simp; omega) | (have z1 := hu1.grow.size; simp; omega) | (have z2 := hu2.grow.size; simp; omega)) hgW _)))
      (first | (go_at_call 98; with_reducible refine (hc0 _ ?_).out.mono ?_; (repeat (first | with_reducible exact HU.out | with_reducible exact hu2 | with_reducible exact hu1 | with_reducible refine Upd.more ?_ _ | with_reducible refine Upd.drew ?_ | with_reducible refine Upd.put ?_ (by first | (simp; done) | (simp; omega) | (have z1 := hu1.grow.size; simp; omega) | (have z2 := hu2.grow.size; simp; omega)) hgW _)); rintro _ w1 ⟨rfl, hu1, hg1⟩; obtain ⟨hc1_, hf1_⟩ := grown_olds hg1; obtain ⟨hn1_, hn2_⟩ := ne_of_upd hu1 hgW; have hz1_ := hg1.size; (try simp at hz1_); (try (have hl0 : W.heap.size < w1.heap.size := by omega)); (try (have hl1 : W.heap.size + 1 < w1.heap.size := by omega)); (try (have ha0a : W.heap.size ≠ w1.heap.size := by omega)); (try (have ha0b : w1.heap.size ≠ W.heap.size := by omega)); (try (have ha1a : W.heap.size + 1 ≠ w1.heap.size := by omega)); (try (have ha1b : w1.heap.size ≠ W.heap.size + 1 := by omega)); (try (have kc00 : w1.cell? ⟨W.heap.size, 0, none⟩ = some (.bool false) := (by rw [hc1_ _ _ (by first | omega | (simp; done) | (simp; omega)) hm1]; first | exact rfl | (simp [go_sem, *]; done)))); (try (have kf00 : w1.frozen? ⟨W.heap.size, 0, none⟩ = false := (by rw [hf1_ _ _ (by first | omega | (simp; done) | (simp; omega)) hm1]; first | exact rfl | (simp [go_sem, *]; done)))); (try (have kc01 : w1.cell? ⟨W.heap.size, 1, none⟩ = some (.int .i64 0) := (by rw [hc1_ _ _ (by first | omega | (simp; done) | (simp; omega)) hm1]; first | exact rfl | (simp [go_sem, *]; done)))); (try (have kf01 : w1.frozen? ⟨W.heap.size, 1, none⟩ = false := (by rw [hf1_ _ _ (by first | omega | (simp; done) | (simp; omega)) hm1]; first | exact rfl | (simp [go_sem, *]; done)))); (try (have kc02 : w1.cell? ⟨W.heap.size, 2, none⟩ = some (.string ⟨#[]⟩) := (by rw [hc1_ _ _ (by first | omega | (simp; done) | (simp; omega)) hm1]; first | exact rfl | (simp [go_sem, *]; done)))); (try (have kf02 : w1.frozen? ⟨W.heap.size, 2, none⟩ = false := (by rw [hf1_ _ _ (by first | omega | (simp; done) | (simp; omega)) hm1]; first | exact rfl | (simp [go_sem, *]; done)))); (try (have kc10 : w1.cell? ⟨W.heap.size + 1, 0, none⟩ = some (.bool false) := (by rw [hc1_ _ _ (by first | omega | (simp; done) | (simp; omega)) hm2]; first | exact rfl | (simp [go_sem, *]; done)))); (try (have kf10 : w1.frozen? ⟨W.heap.size + 1, 0, none⟩ = false := (by rw [hf1_ _ _ (by first | omega | (simp; done) | (simp; omega)) hm2]; first | exact rfl | (simp [go_sem, *]; done)))); (try (have kc11 : w1.cell? ⟨W.heap.size + 1, 1, none⟩ = some (.int .i64 0) := (by rw [hc1_ _ _ (by first | omega | (simp; done) | (simp; omega)) hm2]; first | exact rfl | (simp [go_sem, *]; done)))); (try (have kf11 : w1.frozen? ⟨W.heap.size + 1, 1, none⟩ = false := (by rw [hf1_ _ _ (by first | omega | (simp; done) | (simp; omega)) hm2]; first | exact rfl | (simp [go_sem, *]; done)))); (try (have kc12 : w1.cell? ⟨W.heap.size + 1, 2, none⟩ = some (.string ⟨#[]⟩) := (by rw [hc1_ _ _ (by first | omega | (simp; done) | (simp; omega)) hm2]; first | exact rfl | (simp [go_sem, *]; done)))); (try (have kf12 : w1.frozen? ⟨W.heap.size + 1, 2, none⟩ = false := (by rw [hf1_ _ _ (by first | omega | (simp; done) | (simp; omega)) hm2]; first | exact rfl | (simp [go_sem, *]; done)))); clear hc1_ hf1_) | (go_at_call 98; with_reducible refine (hc1 _ ?_).out.mono ?_; (repeat (first | with_reducible exact HU.out | with_reducible exact hu2 | with_reducible exact hu1 | with_reducible refine Upd.more ?_ _ | with_reducible refine Upd.drew ?_ | with_reducible refine Upd.put ?_ (by first | (simp; done) | (simp; omega) | (have z1 := hu1.grow.size; simp; omega) | (have z2 := hu2.grow.size; simp; omega)) hgW _)); rintro _ w2 ⟨rfl, hu2, hg2⟩; obtain ⟨hc3_, hf3_⟩ := grown_olds hg2; obtain ⟨hn3_, hn4_⟩ := ne_of_upd hu2 hgW; have hz2_ := hg2.size; (try simp at hz2_); (try (have hb0a : w1.heap.size ≠ w2.heap.size := by omega)); (try (have hb0b : w2.heap.size ≠ w1.heap.size := by omega)); (try (have hb1a : w1.heap.size + 1 ≠ w2.heap.size := by omega)); (try (have hb1b : w2.heap.size ≠ w1.heap.size + 1 := by omega)); (try (have hb2a : W.heap.size ≠ w2.heap.size := by omega)); (try (have hb2b : w2.heap.size ≠ W.heap.size := by omega)); (try (have hb3a : W.heap.size + 1 ≠ w2.heap.size := by omega)); (try (have hb3b : w2.heap.size ≠ W.heap.size + 1 := by omega)); (try (have lc00 : w2.cell? ⟨W.heap.size, 0, none⟩ = some (.bool false) := (by rw [hc3_ _ _ (by first | omega | (simp; done) | (simp; omega)) hm1]; first | exact kc00 | (simp [go_sem, *]; done)))); (try (have lf00 : w2.frozen? ⟨W.heap.size, 0, none⟩ = false := (by rw [hf3_ _ _ (by first | omega | (simp; done) | (simp; omega)) hm1]; first | exact kf00 | (simp [go_sem, *]; done)))); (try (have lc01 : w2.cell? ⟨W.heap.size, 1, none⟩ = some (.int .i64 0) := (by rw [hc3_ _ _ (by first | omega | (simp; done) | (simp; omega)) hm1]; first | exact kc01 | (simp [go_sem, *]; done)))); (try (have lf01 : w2.frozen? ⟨W.heap.size, 1, none⟩ = false := (by rw [hf3_ _ _ (by first | omega | (simp; done) | (simp; omega)) hm1]; first | exact kf01 | (simp [go_sem, *]; done)))); (try (have lc02 : w2.cell? ⟨W.heap.size, 2, none⟩ = some (.string ⟨#[]⟩) := (by rw [hc3_ _ _ (by first | omega | (simp; done) | (simp; omega)) hm1]; first | exact kc02 | (simp [go_sem, *]; done)))); (try (have lf02 : w2.frozen? ⟨W.heap.size, 2, none⟩ = false := (by rw [hf3_ _ _ (by first | omega | (simp; done) | (simp; omega)) hm1]; first | exact kf02 | (simp [go_sem, *]; done)))); (try (have lc10 : w2.cell? ⟨W.heap.size + 1, 0, none⟩ = some (.bool false) := (by rw [hc3_ _ _ (by first | omega | (simp; done) | (simp; omega)) hm2]; first | exact kc10 | (simp [go_sem, *]; done)))); (try (have lf10 : w2.frozen? ⟨W.heap.size + 1, 0, none⟩ = false := (by rw [hf3_ _ _ (by first | omega | (simp; done) | (simp; omega)) hm2]; first | exact kf10 | (simp [go_sem, *]; done)))); (try (have lc11 : w2.cell? ⟨W.heap.size + 1, 1, none⟩ = some (.int .i64 0) := (by rw [hc3_ _ _ (by first | omega | (simp; done) | (simp; omega)) hm2]; first | exact kc11 | (simp [go_sem, *]; done)))); (try (have lf11 : w2.frozen? ⟨W.heap.size + 1, 1, none⟩ = false := (by rw [hf3_ _ _ (by first | omega | (simp; done) | (simp; omega)) hm2]; first | exact kf11 | (simp [go_sem, *]; done)))); (try (have lc12 : w2.cell? ⟨W.heap.size + 1, 2, none⟩ = some (.string ⟨#[]⟩) := (by rw [hc3_ _ _ (by first | omega | (simp; done) | (simp; omega)) hm2]; first | exact kc12 | (simp [go_sem, *]; done)))); (try (have lf12 : w2.frozen? ⟨W.heap.size + 1, 2, none⟩ = false := (by rw [hf3_ _ _ (by first | omega | (simp; done) | (simp; omega)) hm2]; first | exact kf12 | (simp [go_sem, *]; done)))); (try (have lc20 : w2.cell? ⟨w1.heap.size, 0, none⟩ = some (.bool false) := (by rw [hc3_ _ _ (by first | omega | (simp; done) | (simp; omega)) hn1_]; first | exact rfl | (simp [go_sem, *]; done)))); (try (have lf20 : w2.frozen? ⟨w1.heap.size, 0, none⟩ = false := (by rw [hf3_ _ _ (by first | omega | (simp; done) | (simp; omega)) hn1_]; first | exact rfl | (simp [go_sem, *]; done)))); (try (have lc21 : w2.cell? ⟨w1.heap.size, 1, none⟩ = some (.int .i64 0) := (by rw [hc3_ _ _ (by first | omega | (simp; done) | (simp; omega)) hn1_]; first | exact rfl | (simp [go_sem, *]; done)))); (try (have lf21 : w2.frozen? ⟨w1.heap.size, 1, none⟩ = false := (by rw [hf3_ _ _ (by first | omega | (simp; done) | (simp; omega)) hn1_]; first | exact rfl | (simp [go_sem, *]; done)))); (try (have lc22 : w2.cell? ⟨w1.heap.size, 2, none⟩ = some (.string ⟨#[]⟩) := (by rw [hc3_ _ _ (by first | omega | (simp; done) | (simp; omega)) hn1_]; first | exact rfl | (simp [go_sem, *]; done)))); (try (have lf22 : w2.frozen? ⟨w1.heap.size, 2, none⟩ = false := (by rw [hf3_ _ _ (by first | omega | (simp; done) | (simp; omega)) hn1_]; first | exact rfl | (simp [go_sem, *]; done)))); (try (have lc30 : w2.cell? ⟨w1.heap.size + 1, 0, none⟩ = some (.bool false) := (by rw [hc3_ _ _ (by first | omega | (simp; done) | (simp; omega)) hn2_]; first | exact rfl | (simp [go_sem, *]; done)))); (try (have lf30 : w2.frozen? ⟨w1.heap.size + 1, 0, none⟩ = false := (by rw [hf3_ _ _ (by first | omega | (simp; done) | (simp; omega)) hn2_]; first | exact rfl | (simp [go_sem, *]; done)))); (try (have lc31 : w2.cell? ⟨w1.heap.size + 1, 1, none⟩ = some (.int .i64 0) := (by rw [hc3_ _ _ (by first | omega | (simp; done) | (simp; omega)) hn2_]; first | exact rfl | (simp [go_sem, *]; done)))); (try (have lf31 : w2.frozen? ⟨w1.heap.size + 1, 1, none⟩ = false := (by rw [hf3_ _ _ (by first | omega | (simp; done) | (simp; omega)) hn2_]; first | exact rfl | (simp [go_sem, *]; done)))); (try (have lc32 : w2.cell? ⟨w1.heap.size + 1, 2, none⟩ = some (.string ⟨#[]⟩) := (by rw [hc3_ _ _ (by first | omega | (simp; done) | (simp; omega)) hn2_]; first | exact rfl | (simp [go_sem, *]; done)))); (try (have lf32 : w2.frozen? ⟨w1.heap.size + 1, 2, none⟩ = false := (by rw [hf3_ _ _ (by first | omega | (simp; done) | (simp; omega)) hn2_]; first | exact rfl | (simp [go_sem, *]; done)))); clear hc3_ hf3_))
    all_goals
      go_wp2_with fail
      go_meet
      refine ⟨_, _, rfl, rfl, ?_, ?_, ?_, ?_, ?_⟩
      · repeat (first | with_reducible exact HU.out | with_reducible exact hu2 | with_reducible exact hu1 | with_reducible refine Upd.more ?_ _ | with_reducible refine Upd.drew ?_ | with_reducible refine Upd.put ?_ (by first | (simp; done) | (simp; omega) | (have z1 := hu1.grow.size; simp; omega) | (have z2 := hu2.grow.size; simp; omega)) hgW _)
      · show Own _ _ _ [.bool x.t, .int .i64 x.n, .string x.s]
        repeat (first | (with_reducible refine own_atE ?_; (simp; done)) | with_reducible refine own_putz ?_ _ _ _ | with_reducible refine own_put3_other ?_ (by omega) _ _ _ | with_reducible refine Own.more ?_ _ | with_reducible refine own_drew ?_ | with_reducible refine own_grown hg2 ?_ (by omega) | with_reducible refine own_grown hg1 ?_ (by omega))
      · show Own _ _ _ [.bool y.t, .int .i64 y.n, .string y.s]
        repeat (first | (with_reducible refine own_atE ?_; (simp; done)) | with_reducible refine own_putz ?_ _ _ _ | with_reducible refine own_put3_other ?_ (by omega) _ _ _ | with_reducible refine Own.more ?_ _ | with_reducible refine own_drew ?_ | with_reducible refine own_grown hg2 ?_ (by omega) | with_reducible refine own_grown hg1 ?_ (by omega))
      · omega
      · omega
  case rest =>
    obtain ⟨P, Q, rfl, rfl, hu, hP, hQ, hgP, hgQ⟩ := hcut
    have d0 := hP.at_ 0
    have d1 := hP.at_ 1
    have d2 := hP.at_ 2
    have e0 := hQ.at_ 0
    have e1 := hQ.at_ 1
    have e2 := hQ.at_ 2
    simp only [Vl.cells, List.getElem?_cons_zero, List.getElem?_cons_succ] at d0 d1 d2 e0 e1 e2
    have HX := Lib.hid (And.intro (HW.out.trans hu) (And.intro hP hQ))
    have hcmp := fun W => Lib.hid (vcompare_any x y W)
    unfold Vl.val at hcmp
    have hlt := hu.own.inside
    clear hu hP hQ hc0 hc1 HR HS HU
    obtain ⟨xt, xn, xs⟩ := x
    obtain ⟨yt, yn, ys⟩ := y
    dsimp only at d0 d1 d2 e0 e1 e2 hcmp Hcp
    rcases Bool.eq_false_or_eq_true xt with rfl | rfl <;> rcases Bool.eq_false_or_eq_true yt with rfl | rfl
    · go_wp2_with fail
      refine (hcmp _).out.mono ?_
      rintro _ w4 ⟨rfl, b4⟩
      have B4 := Lib.hid (HX.out.1.quiet b4)
      clear b4
      go_wp2_with fail
      go_ret
      have hq := Hcp.out
      rw [hq]
      exact ⟨rfl, B4.out⟩
    · go_wp2_with fail
      refine (fail_any g _ _ 11 _ _ HX.out.1.own).mono ?_
      rintro _ w3 ⟨rfl, u3⟩
      have hP3 := u3.other (by omega) HX.out.2.1
      have hQ3 := u3.other (by omega) HX.out.2.2
      have d0 := hP3.at_ 0
      have d1 := hP3.at_ 1
      have d2 := hP3.at_ 2
      have e0 := hQ3.at_ 0
      have e1 := hQ3.at_ 1
      have e2 := hQ3.at_ 2
      simp only [Vl.cells, List.getElem?_cons_zero, List.getElem?_cons_succ] at d0 d1 d2 e0 e1 e2
      have U3 := Lib.hid (HX.out.1.trans u3)
      clear u3 hP3 hQ3
      go_wp2_with fail
      refine (hcmp _).out.mono ?_
      rintro _ w4 ⟨rfl, b4⟩
      have B4 := Lib.hid (U3.out.quiet b4)
      clear b4
      go_wp2_with fail
      go_ret
      have hq := Hcp.out
      rw [hq]
      exact ⟨rfl, B4.out⟩
    · go_wp2_with fail
      refine (fail_any g _ _ 11 _ _ HX.out.1.own).mono ?_
      rintro _ w3 ⟨rfl, u3⟩
      have hP3 := u3.other (by omega) HX.out.2.1
      have hQ3 := u3.other (by omega) HX.out.2.2
      have d0 := hP3.at_ 0
      have d1 := hP3.at_ 1
      have d2 := hP3.at_ 2
      have e0 := hQ3.at_ 0
      have e1 := hQ3.at_ 1
      have e2 := hQ3.at_ 2
      simp only [Vl.cells, List.getElem?_cons_zero, List.getElem?_cons_succ] at d0 d1 d2 e0 e1 e2
      have U3 := Lib.hid (HX.out.1.trans u3)
      clear u3 hP3 hQ3
      go_wp2_with fail
      refine (hcmp _).out.mono ?_
      rintro _ w4 ⟨rfl, b4⟩
      have B4 := Lib.hid (U3.out.quiet b4)
      clear b4
      go_wp2_with fail
      go_ret
      have hq := Hcp.out
      rw [hq]
      exact ⟨rfl, B4.out⟩
    · go_wp2_with fail
      refine (hcmp _).out.mono ?_
      rintro _ w4 ⟨rfl, b4⟩
      have B4 := Lib.hid (HX.out.1.quiet b4)
      clear b4
      go_wp2_with fail
      go_ret
      have hq := Hcp.out
      rw [hq]
      exact ⟨rfl, B4.out⟩
end Go.Proofs.YtcfldgncmbcpmaaGreat
namespace Go.Proofs.YtcfldgncmbcpmaaGreat
open Go Go.RowKit

/-- an expression that is boxed in block N, those in it, and the row: below g, but for the box -/
structure Bx (row : List Vl) (A : Option Addr) (n : Nat) (e : Lx) (g N : Nat) (W : World) : Prop where
  box : Own W N 141 e.cells
  te : Te (n + 1) e W g
  row : RowIn row A W g
  gN : g < N
section
variable {row : List Vl} {A : Option Addr} {n : Nat} {e : Lx} {g N : Nat} {W W' : World}
theorem Bx.next {t : TypeId} {l : List Value} (h : Bx row A n e g N W) (k : Upd W W' g t l) : Bx row A n e g N W' :=
  have hb := k.below (Nat.le_refl _) (by have := h.box.inside; have := h.gN; omega)
  ⟨k.other (by have := h.gN; omega) h.box, h.te.past hb, h.row.past hb, h.gN⟩
theorem Bx.six (h : Bx row A n e g N W) : W.cell? ⟨N, 0, none⟩ = some (.int .u8 e.op) ∧ W.cell? ⟨N, 1, none⟩ = some (.int .i64 e.col) ∧ W.cell? ⟨N, 2, none⟩ = some (.bool e.c.t) ∧
      W.cell? ⟨N, 3, none⟩ = some (.int .i64 e.c.n) ∧ W.cell? ⟨N, 4, none⟩ = some (.string e.c.s) ∧ W.cell? ⟨N, 5, none⟩ = some (.slice e.A e.kids.length e.cap) := by
  have := (lxAt_own h.box).six
  simpa using this
theorem Bx.kidAt {b o i : Nat} (h : Bx row A n e g N W) (hA : e.A = some ⟨b, o, none⟩) (hi : i < e.kids.length) :
    W.cell? ⟨b, o + i * 6, none⟩ = some (.int .u8 (kid e i).op) ∧ W.cell? ⟨b, o + i * 6 + 1, none⟩ = some (.int .i64 (kid e i).col) ∧ W.cell? ⟨b, o + i * 6 + 2, none⟩ = some (.bool (kid e i).c.t) ∧
      W.cell? ⟨b, o + i * 6 + 3, none⟩ = some (.int .i64 (kid e i).c.n) ∧ W.cell? ⟨b, o + i * 6 + 4, none⟩ = some (.string (kid e i).c.s) ∧ W.cell? ⟨b, o + i * 6 + 5, none⟩ = some (.slice (kid e i).A (kid e i).kids.length (kid e i).cap) := by
  obtain ⟨b', o', hA', _, hx⟩ := h.te.at_ hi
  rw [hA] at hA'
  simp only [Option.some.injEq, Addr.mk.injEq, and_true] at hA'
  obtain ⟨rfl, rfl⟩ := hA'
  exact hx.six
theorem Bx.made {w : World} {c : Nat} {u : Int} (ht : Te (n + 1) e w g) (hr : RowIn row A w g) (ho : Own w g 169 (evL u A row.length c)) :
    ∃ W, W = w.alloc (.cells #[.int .u8 e.op, .int .i64 e.col, .bool e.c.t, .int .i64 e.c.n, .string e.c.s, .slice e.A e.kids.length e.cap] 141) ∧ Bx row A n e g w.heap.size W ∧ Upd w W g 169 (evL u A row.length c) ∧ W.heap.size = w.heap.size + 1 ∧ (0 < e.kids.length → ∃ b o, e.A = some ⟨b, o, none⟩) := by
  have hg := ho.inside
  obtain ⟨W, hW, fb, hs, fk⟩ := lxbox w e
  have fg := fb.mono (show g ≤ w.heap.size by omega)
  exact ⟨W, hW, ⟨fk, ht.past fg, hr.past fg, hg⟩, Upd.after fb (Upd.same (ho.past fb hg)), hs, fun h => by obtain ⟨b, o, hA, _⟩ := ht.at_ h; exact ⟨b, o, hA⟩⟩
end
set_option maxRecDepth 100000 in
set_option maxHeartbeats 3200000 in
theorem holds2_any (row : List Vl) (A : Option Addr) (c n : Nat) (hE : EvC row A c n) (e : Lx) (u : Int) (g : Nat) (w : World) (ht : Te (n + 1) e w g) (hop : 7 ≤ e.op ∧ e.op ≤ 11) (hr : RowIn row A w g) (ho : Own w g 169 (evL u A row.length c)) :
    Calls Tryz.prog 122 #[.pointer (some ⟨g, 0, none⟩), e.val] w fun x w' =>
      x = .returned (.bool (hd (ev row n) e u).1) ∧ Upd w w' g 169 (evL (hd (ev row n) e u).2 A row.length c) := by
  have hg := ho.inside
  have hnode := ht.node.1
  obtain ⟨W, hW, hB, hU, hs, hA⟩ := Bx.made ht hr ho
  have Hs := Lib.hid hs
  clear ht hr ho hs
  by_cases h7 : e.op = 7
  case pos =>
    have h2 : e.kids.length = 2 := by rw [h7] at hnode; unfold kidsOf at hnode; simp at hnode; omega
    have hc := Lib.hid (compare2_any row A c n hE e u g W hB.te h2 hB.row hU.own)
    have hq : hd (ev row n) e u = (decide ((cp (ev row n) e u).1 < 0), (cp (ev row n) e u).2) := by unfold hd; rw [if_pos h7]
    rw [hq]
    have HU := Lib.hid hU
    clear hB hU hA hnode hop hq hE h2
    unfold Lx.val at *
    rw [h7] at hc hW ⊢
    generalize cp (ev row n) e u = q at *
    go_enter Tryz.func122, Tryz.ntmps122
    go_wp2_with fail
    rw [← hW]
    refine hc.out.mono ?_
    rintro _ w2 ⟨rfl, u2⟩
    have U2 := Lib.hid (HU.out.trans u2)
    clear u2
    go_wp2_with fail
    go_ret
    exact ⟨rfl, U2.out⟩
  by_cases h8 : e.op = 8
  case pos =>
    have h2 : e.kids.length = 2 := by rw [h8] at hnode; unfold kidsOf at hnode; simp at hnode; omega
    have hc := Lib.hid (compare2_any row A c n hE e u g W hB.te h2 hB.row hU.own)
    have hq : hd (ev row n) e u = ((cp (ev row n) e u).1 == 0, (cp (ev row n) e u).2) := by unfold hd; rw [if_neg h7, if_pos h8]
    rw [hq]
    have HU := Lib.hid hU
    clear hB hU hA hnode hop hq hE h2 h7
    unfold Lx.val at *
    rw [h8] at hc hW ⊢
    generalize cp (ev row n) e u = q at *
    go_enter Tryz.func122, Tryz.ntmps122
    go_wp2_with fail
    rw [← hW]
    refine hc.out.mono ?_
    rintro _ w2 ⟨rfl, u2⟩
    have U2 := Lib.hid (HU.out.trans u2)
    clear u2
    go_wp2_with fail
    go_ret
    exact ⟨rfl, U2.out⟩
  by_cases h11 : e.op = 11
  case pos =>
    have h1 : e.kids.length = 1 := by rw [h11] at hnode; unfold kidsOf at hnode; simp at hnode; omega
    have hq : hd (ev row n) e u = ((nm (ev row n) (kid e 0) u).1 == 0, (nm (ev row n) (kid e 0) u).2) := by unfold hd; rw [if_neg h7, if_neg h8, if_neg (by omega), if_neg (by omega)]
    rw [hq]
    have hc := Lib.hid (number2_any row A c n hE (kid e 0) u g W (hB.te.sub (by omega)) hB.row hU.own)
    obtain ⟨b, o, hA⟩ := hA (by omega)
    have k0 := hB.kidAt hA (i := 0) (by omega)
    rw [Nat.zero_mul, Nat.add_zero] at k0
    obtain ⟨d0, d1, d2, d3, d4, d5⟩ := k0
    have c5 := hB.six.2.2.2.2.2
    have HU := Lib.hid hU
    rw [hA, h1] at c5
    clear hB hU hnode hop hq hE h7 h8
    unfold Lx.val at *
    rw [h11, hA, h1] at hW ⊢
    generalize nm (ev row n) (kid e 0) u = q at *
    go_enter Tryz.func122, Tryz.ntmps122
    go_upto_region 1 with fail
    rw [← hW]
    have c0 : W.cell? ⟨w.heap.size, 0, none⟩ = some (.int .u8 11) := by rw [hW]; simp
    clear hW
    go_wp2_with fail
    refine hc.out.mono ?_
    rintro _ w2 ⟨rfl, u2⟩
    have U2 := Lib.hid (HU.out.trans u2)
    clear u2
    go_wp2_with fail
    go_ret
    exact ⟨rfl, U2.out⟩
  by_cases h9 : e.op = 9
  case pos =>
    have h2 : e.kids.length = 2 := by rw [h9] at hnode; unfold kidsOf at hnode; simp at hnode; omega
    have hq : hd (ev row n) e u = (if (nm (ev row n) (kid e 0) u).1 = 0 then (false, (nm (ev row n) (kid e 0) u).2) else ((nm (ev row n) (kid e 1) (nm (ev row n) (kid e 0) u).2).1 != 0, (nm (ev row n) (kid e 1) (nm (ev row n) (kid e 0) u).2).2)) := by unfold hd; rw [if_neg h7, if_neg h8, if_pos h9]
    rw [hq]
    have hc := Lib.hid (number2_any row A c n hE (kid e 0) u g W (hB.te.sub (by omega)) hB.row hU.own)
    have hc1 := fun W' (k : Upd W W' g 169 (evL (nm (ev row n) (kid e 0) u).2 A row.length c)) => Lib.hid (number2_any row A c n hE (kid e 1) (nm (ev row n) (kid e 0) u).2 g W' ((hB.next k).te.sub (by omega)) (hB.next k).row k.own)
    obtain ⟨b, o, hA⟩ := hA (by omega)
    have hK : ∀ W' l, Upd W W' g 169 l → Hid (W'.cell? ⟨w.heap.size, 5, none⟩ = some (.slice (some ⟨b, o, none⟩) 2 e.cap) ∧ W'.cell? ⟨b, o + 6, none⟩ = some (.int .u8 (kid e 1).op) ∧ W'.cell? ⟨b, o + 6 + 1, none⟩ = some (.int .i64 (kid e 1).col) ∧ W'.cell? ⟨b, o + 6 + 2, none⟩ = some (.bool (kid e 1).c.t) ∧
      W'.cell? ⟨b, o + 6 + 3, none⟩ = some (.int .i64 (kid e 1).c.n) ∧ W'.cell? ⟨b, o + 6 + 4, none⟩ = some (.string (kid e 1).c.s) ∧ W'.cell? ⟨b, o + 6 + 5, none⟩ = some (.slice (kid e 1).A (kid e 1).kids.length (kid e 1).cap)) := fun W' l k => by
      have k1 := (hB.next k).kidAt hA (i := 1) (by omega)
      have c5 := (hB.next k).six.2.2.2.2.2
      rw [hA, h2] at c5
      rw [Nat.one_mul] at k1
      exact Lib.hid ⟨c5, k1⟩
    have k0 := hB.kidAt hA (i := 0) (by omega)
    rw [Nat.zero_mul, Nat.add_zero] at k0
    obtain ⟨d0, d1, d2, d3, d4, d5⟩ := k0
    have c5 := hB.six.2.2.2.2.2
    have HU := Lib.hid hU
    rw [hA, h2] at c5
    clear hB hU hnode hop hq hE h7 h8 h11
    unfold Lx.val at *
    rw [h9, hA, h2] at hW ⊢
    generalize nm (ev row n) (kid e 0) u = p at *
    generalize nm (ev row n) (kid e 1) p.2 = q at *
    by_cases hz : p.1 = 0
    all_goals
      first | (have t1 : (p.1 != 0) = false := (by simpa using hz)) | (have t1 : (p.1 != 0) = true := (by simpa using hz))
      first | rw [if_pos hz] | rw [if_neg hz]
      clear hz
      go_enter Tryz.func122, Tryz.ntmps122
      go_upto_region 1 with fail
      rw [← hW]
      have c0 : W.cell? ⟨w.heap.size, 0, none⟩ = some (.int .u8 9) := by rw [hW]; simp
      clear hW
      go_wp2_with fail
      refine hc.out.mono ?_
      rintro _ w2 ⟨rfl, u2⟩
      have U2 := Lib.hid u2
      obtain ⟨x5, x0, x1, x2, x3, x4, x6⟩ := (hK w2 _ u2).out
      clear u2 c0 c5 d0 d1 d2 d3 d4 d5
      go_wp2_with fail
      first
      | (go_ret
         exact ⟨rfl, HU.out.trans U2.out⟩)
      | (refine (hc1 _ U2.out).out.mono ?_
         rintro _ w3 ⟨rfl, u3⟩
         have U3 := Lib.hid (U2.out.trans u3)
         clear u3 x0 x1 x2 x3 x4 x5 x6
         go_wp2_with fail
         go_ret
         exact ⟨rfl, HU.out.trans U3.out⟩)
  by_cases h10 : e.op = 10
  case pos =>
    have h2 : e.kids.length = 2 := by rw [h10] at hnode; unfold kidsOf at hnode; simp at hnode; omega
    have hq : hd (ev row n) e u = (if (nm (ev row n) (kid e 0) u).1 = 0 then ((nm (ev row n) (kid e 1) (nm (ev row n) (kid e 0) u).2).1 != 0, (nm (ev row n) (kid e 1) (nm (ev row n) (kid e 0) u).2).2) else (true, (nm (ev row n) (kid e 0) u).2)) := by unfold hd; rw [if_neg h7, if_neg h8, if_neg h9, if_pos h10]
    rw [hq]
    have hc := Lib.hid (number2_any row A c n hE (kid e 0) u g W (hB.te.sub (by omega)) hB.row hU.own)
    have hc1 := fun W' (k : Upd W W' g 169 (evL (nm (ev row n) (kid e 0) u).2 A row.length c)) => Lib.hid (number2_any row A c n hE (kid e 1) (nm (ev row n) (kid e 0) u).2 g W' ((hB.next k).te.sub (by omega)) (hB.next k).row k.own)
    obtain ⟨b, o, hA⟩ := hA (by omega)
    have hK : ∀ W' l, Upd W W' g 169 l → Hid (W'.cell? ⟨w.heap.size, 5, none⟩ = some (.slice (some ⟨b, o, none⟩) 2 e.cap) ∧ W'.cell? ⟨b, o + 6, none⟩ = some (.int .u8 (kid e 1).op) ∧ W'.cell? ⟨b, o + 6 + 1, none⟩ = some (.int .i64 (kid e 1).col) ∧ W'.cell? ⟨b, o + 6 + 2, none⟩ = some (.bool (kid e 1).c.t) ∧
      W'.cell? ⟨b, o + 6 + 3, none⟩ = some (.int .i64 (kid e 1).c.n) ∧ W'.cell? ⟨b, o + 6 + 4, none⟩ = some (.string (kid e 1).c.s) ∧ W'.cell? ⟨b, o + 6 + 5, none⟩ = some (.slice (kid e 1).A (kid e 1).kids.length (kid e 1).cap)) := fun W' l k => by
      have k1 := (hB.next k).kidAt hA (i := 1) (by omega)
      have c5 := (hB.next k).six.2.2.2.2.2
      rw [hA, h2] at c5
      rw [Nat.one_mul] at k1
      exact Lib.hid ⟨c5, k1⟩
    have k0 := hB.kidAt hA (i := 0) (by omega)
    rw [Nat.zero_mul, Nat.add_zero] at k0
    obtain ⟨d0, d1, d2, d3, d4, d5⟩ := k0
    have c5 := hB.six.2.2.2.2.2
    have HU := Lib.hid hU
    rw [hA, h2] at c5
    clear hB hU hnode hop hq hE h7 h8 h9 h11
    unfold Lx.val at *
    rw [h10, hA, h2] at hW ⊢
    generalize nm (ev row n) (kid e 0) u = p at *
    generalize nm (ev row n) (kid e 1) p.2 = q at *
    by_cases hz : p.1 = 0
    all_goals
      first | (have t1 : (p.1 != 0) = false := (by simpa using hz)) | (have t1 : (p.1 != 0) = true := (by simpa using hz))
      first | rw [if_pos hz] | rw [if_neg hz]
      clear hz
      go_enter Tryz.func122, Tryz.ntmps122
      go_upto_region 1 with fail
      rw [← hW]
      have c0 : W.cell? ⟨w.heap.size, 0, none⟩ = some (.int .u8 10) := by rw [hW]; simp
      clear hW
      go_wp2_with fail
      refine hc.out.mono ?_
      rintro _ w2 ⟨rfl, u2⟩
      have U2 := Lib.hid u2
      obtain ⟨x5, x0, x1, x2, x3, x4, x6⟩ := (hK w2 _ u2).out
      clear u2 c0 c5 d0 d1 d2 d3 d4 d5
      go_wp2_with fail
      first
      | (go_ret
         exact ⟨rfl, HU.out.trans U2.out⟩)
      | (refine (hc1 _ U2.out).out.mono ?_
         rintro _ w3 ⟨rfl, u3⟩
         have U3 := Lib.hid (U2.out.trans u3)
         clear u3 x0 x1 x2 x3 x4 x5 x6
         go_wp2_with fail
         go_ret
         exact ⟨rfl, HU.out.trans U3.out⟩)
  exfalso
  omega
end Go.Proofs.YtcfldgncmbcpmaaGreat
namespace Go.Proofs.YtcfldgncmbcpmaaGreat
open Go Go.RowKit

theorem fitN_bound (S : Int) : -9223372036854775808 ≤ fitN S ∧ fitN S ≤ 9223372036854775807 := by
  unfold fitN
  split
  · rename_i h; rw [fits_iff] at h; exact h
  · omega
theorem Vl.num_ok (n : Int) (h1 : -9223372036854775808 ≤ n) (h2 : n ≤ 9223372036854775807) : VOk (Vl.num n) := ⟨by unfold Vl.num maxLen; exact Nat.zero_le _, h1, h2⟩
theorem ev_ok (row : List Vl) (hr : ∀ v ∈ row, VOk v) : ∀ (n : Nat) (e : Lx) (u : Int), good n e = true → LxOk n e → VOk (ev row n e u).1
  | 0, _, _, h, _ => by cases h
  | n + 1, e, u, h, hok => by
    simp only [good, nodeOk, Bool.and_eq_true, List.all_eq_true, beq_iff_eq] at h
    have hk : ∀ i, i < e.kids.length → kid e i ∈ e.kids := fun i hi => by unfold kid; rw [List.getD_eq_getElem?_getD, List.getElem?_eq_getElem hi]; exact List.getElem_mem hi
    unfold ev
    split
    · split
      · rename_i h1
        have hlt : e.col.toNat < row.length := by omega
        have := hr row[e.col.toNat] (List.getElem_mem hlt)
        rw [List.getD_eq_getElem?_getD, List.getElem?_eq_getElem hlt]
        exact this
      · exact Vl.num_ok 0 (by omega) (by omega)
    · split
      · exact hok.1
      · split
        · rename_i h12
          have h3 : e.kids.length = 3 := by have := h.1.1; rw [h12] at this; unfold kidsOf at this; simp at this; omega
          split
          · exact ev_ok row hr n _ _ (h.2 _ (hk 2 (by omega))) (hok.2.2.2.2 _ (hk 2 (by omega)))
          · exact ev_ok row hr n _ _ (h.2 _ (hk 1 (by omega))) (hok.2.2.2.2 _ (hk 1 (by omega)))
        · split
          · exact Vl.num_ok _ (by split <;> omega) (by split <;> omega)
          · exact Vl.num_ok _ (fitN_bound _).1 (fitN_bound _).2
theorem bits_flip (n : Int) (h1 : -9223372036854775808 ≤ n) (h2 : n ≤ 9223372036854775807) : bits .xor .i64 (-1) n = -n - 1 := by
  have e : bits .xor .i64 (-1) n = IntKind.i64.wrap (((BitVec.ofInt 64 (-1)) ^^^ (BitVec.ofInt 64 n)).toNat : Int) := rfl
  have a : BitVec.ofInt 64 (-1) = BitVec.allOnes 64 := by decide
  have hp : ((2 ^ 64 : Nat) : Int) = 18446744073709551616 := by decide
  have hp2 : (2 ^ 64 : Nat) = 18446744073709551616 := by decide
  rw [e, a, BitVec.allOnes_xor, BitVec.toNat_not, BitVec.toNat_ofInt, hp, hp2]
  have h : 0 ≤ n % 18446744073709551616 := Int.emod_nonneg _ (by decide)
  obtain ⟨m, hm⟩ : ∃ m : Nat, n % 18446744073709551616 = (m : Int) := ⟨_, (Int.toNat_of_nonneg h).symm⟩
  rw [hm, Int.toNat_natCast]
  have hm2 : m < 18446744073709551616 := by omega
  have hc : ((18446744073709551616 - 1 - m : Nat) : Int) = 18446744073709551615 - (m : Int) := by omega
  rw [hc]
  clear hc hp hp2 e a h
  simp [IntKind.wrap, IntKind.bits, IntKind.signed]
  split <;> omega
theorem sum2_any (a b : Int) (ha : -9223372036854775808 ≤ a ∧ a ≤ 9223372036854775807) (hb : -9223372036854775808 ≤ b ∧ b ≤ 9223372036854775807) (W : World) :
    Calls Tryz.prog 133 #[.slice (some ⟨W.heap.size, 0, none⟩) 2 2] (W.alloc (.cells #[.int .i64 a, .int .i64 b] 2)) fun e w' => e = .returned (.tuple #[.int .i64 (fitN (a + b)), .int .i64 (fitE (a + b))]) ∧ Below W.heap.size W w' := by
  have h := sum_any (some ⟨W.heap.size, 0, none⟩) 2 [a, b] (W.alloc (.cells #[.int .i64 a, .int .i64 b] 2)) (ints_two a b) (by unfold maxLen; simp) (fun x hx => by
    rcases List.mem_cons.1 hx with rfl | hx
    · exact ha
    · rcases List.mem_cons.1 hx with rfl | hx
      · exact hb
      · cases hx)
  rw [show [a, b].sum = a + b by simp] at h
  exact h.mono fun e w' k => ⟨k.1, below_then ((Below.refl _ _).alloc (Nat.le_refl _) _) (by simp) k.2⟩
theorem sum3_any (a b d : Int) (ha : -9223372036854775808 ≤ a ∧ a ≤ 9223372036854775807) (hb : -9223372036854775808 ≤ b ∧ b ≤ 9223372036854775807) (hd : -9223372036854775808 ≤ d ∧ d ≤ 9223372036854775807) (W : World) :
    Calls Tryz.prog 133 #[.slice (some ⟨W.heap.size, 0, none⟩) 3 3] (W.alloc (.cells #[.int .i64 a, .int .i64 b, .int .i64 d] 2)) fun e w' => e = .returned (.tuple #[.int .i64 (fitN (a + b + d)), .int .i64 (fitE (a + b + d))]) ∧ Below W.heap.size W w' := by
  have h := sum_any (some ⟨W.heap.size, 0, none⟩) 3 [a, b, d] (W.alloc (.cells #[.int .i64 a, .int .i64 b, .int .i64 d] 2)) (ints_three a b d) (by unfold maxLen; simp) (fun x hx => by
    rcases List.mem_cons.1 hx with rfl | hx
    · exact ha
    · rcases List.mem_cons.1 hx with rfl | hx
      · exact hb
      · rcases List.mem_cons.1 hx with rfl | hx
        · exact hd
        · cases hx)
  rw [show [a, b, d].sum = a + b + d by simp; omega] at h
  exact h.mono fun e w' k => ⟨k.1, below_then ((Below.refl _ _).alloc (Nat.le_refl _) _) (by simp) k.2⟩
set_option maxRecDepth 100000 in
set_option maxHeartbeats 3200000 in
theorem reckon2_any (row : List Vl) (A : Option Addr) (c n : Nat) (hE : EvC row A c n) (e : Lx) (u : Int) (g : Nat) (w : World) (ht : Te (n + 1) e w g) (hop : 3 ≤ e.op ∧ e.op ≤ 6) (hr : RowIn row A w g) (ho : Own w g 169 (evL u A row.length c)) :
    Calls Tryz.prog 123 #[.pointer (some ⟨g, 0, none⟩), e.val] w fun x w' =>
      x = .returned (.tuple #[.int .i64 (fitN (rk (ev row n) e u).1), .int .i64 (fitE (rk (ev row n) e u).1)]) ∧ Upd w w' g 169 (evL (rk (ev row n) e u).2 A row.length c) := by
  have hg := ho.inside
  have hnode := ht.node.1
  have hkl : 1 ≤ e.kids.length := by
    unfold kidsOf at hnode
    rw [if_neg (by omega)] at hnode
    split at hnode
    · omega
    · rw [if_pos (by omega)] at hnode; omega
  have hm : -9223372036854775808 ≤ (nm (ev row n) (kid e 0) u).1 ∧ (nm (ev row n) (kid e 0) u).1 ≤ 9223372036854775807 := (ev_ok row hr.ok n (kid e 0) u (ht.sub (by omega)).gd (ht.sub (by omega)).ok).2
  obtain ⟨W, hW, hB, hU, hs, hA⟩ := Bx.made ht hr ho
  have Hs := Lib.hid hs
  by_cases h6 : e.op = 6
  case pos =>
    have h1 : e.kids.length = 1 := by rw [h6] at hnode; unfold kidsOf at hnode; simp at hnode; omega
    have hq : rk (ev row n) e u = (-(nm (ev row n) (kid e 0) u).1, (nm (ev row n) (kid e 0) u).2) := by unfold rk; rw [if_pos h6]
    rw [hq]
    clear ht hr ho hs
    have hc := Lib.hid (number2_any row A c n hE (kid e 0) u g W (hB.te.sub (by omega)) hB.row hU.own)
    have hfl := bits_flip _ hm.1 hm.2
    have hsum := fun W => Lib.hid (sum2_any (-(nm (ev row n) (kid e 0) u).1 - 1) 1 (by omega) (by omega) W)
    rw [show -(nm (ev row n) (kid e 0) u).1 - 1 + 1 = -(nm (ev row n) (kid e 0) u).1 by omega] at hsum
    obtain ⟨b, o, hA⟩ := hA (by omega)
    have k0 := hB.kidAt hA (i := 0) (by omega)
    rw [Nat.zero_mul, Nat.add_zero] at k0
    obtain ⟨d0, d1, d2, d3, d4, d5⟩ := k0
    have c5 := hB.six.2.2.2.2.2
    have HU := Lib.hid hU
    have hN : ∀ W' l, Upd W W' g 169 l → W'.cell? ⟨w.heap.size, 0, none⟩ = some (.int .u8 6) := fun W' l k => by have := (hB.next k).six.1; rwa [h6] at this
    have HN := Lib.hid hN
    rw [hA, h1] at c5
    have HF := Lib.hid hfl
    clear hB hU hnode hop hq hE hN hfl
    unfold Lx.val at *
    rw [h6, hA, h1] at hW ⊢
    generalize nm (ev row n) (kid e 0) u = q at *
    go_enter Tryz.func123, Tryz.ntmps123
    go_upto_region 1 with fail
    rw [← hW]
    clear hW
    go_wp2_with fail
    refine hc.out.mono ?_
    rintro _ w2 ⟨rfl, u2⟩
    have c0 := HN.out _ _ u2
    have U2 := Lib.hid (HU.out.trans u2)
    clear u2
    go_wp2_with fail
    rw [HF.out]
    refine (hsum _).out.mono ?_
    rintro _ w3 ⟨rfl, b3⟩
    go_wp2_with fail
    go_ret2
    exact ⟨rfl, U2.out.quiet b3⟩
  by_cases h3 : e.op = 3
  case pos =>
    have h2 : e.kids.length = 2 := by rw [h3] at hnode; unfold kidsOf at hnode; simp at hnode; omega
    have hm2 : -9223372036854775808 ≤ (nm (ev row n) (kid e 1) (nm (ev row n) (kid e 0) u).2).1 ∧ (nm (ev row n) (kid e 1) (nm (ev row n) (kid e 0) u).2).1 ≤ 9223372036854775807 := (ev_ok row hr.ok n (kid e 1) _ (ht.sub (by omega)).gd (ht.sub (by omega)).ok).2
    have hq : rk (ev row n) e u = ((nm (ev row n) (kid e 0) u).1 + (nm (ev row n) (kid e 1) (nm (ev row n) (kid e 0) u).2).1, (nm (ev row n) (kid e 1) (nm (ev row n) (kid e 0) u).2).2) := by unfold rk; dsimp only; rw [if_neg h6, if_pos h3]
    rw [hq]
    clear ht hr ho hs
    have hc := Lib.hid (number2_any row A c n hE (kid e 0) u g W (hB.te.sub (by omega)) hB.row hU.own)
    have hc1 := fun W' (k : Upd W W' g 169 (evL (nm (ev row n) (kid e 0) u).2 A row.length c)) => Lib.hid (number2_any row A c n hE (kid e 1) (nm (ev row n) (kid e 0) u).2 g W' ((hB.next k).te.sub (by omega)) (hB.next k).row k.own)
    have hsum := fun W => Lib.hid (sum2_any (nm (ev row n) (kid e 0) u).1 (nm (ev row n) (kid e 1) (nm (ev row n) (kid e 0) u).2).1 hm hm2 W)
    obtain ⟨b, o, hA⟩ := hA (by omega)
    have hK : ∀ W' l, Upd W W' g 169 l → Hid (W'.cell? ⟨w.heap.size, 0, none⟩ = some (.int .u8 3) ∧ W'.cell? ⟨w.heap.size, 5, none⟩ = some (.slice (some ⟨b, o, none⟩) 2 e.cap) ∧ W'.cell? ⟨b, o + 6, none⟩ = some (.int .u8 (kid e 1).op) ∧ W'.cell? ⟨b, o + 6 + 1, none⟩ = some (.int .i64 (kid e 1).col) ∧ W'.cell? ⟨b, o + 6 + 2, none⟩ = some (.bool (kid e 1).c.t) ∧
      W'.cell? ⟨b, o + 6 + 3, none⟩ = some (.int .i64 (kid e 1).c.n) ∧ W'.cell? ⟨b, o + 6 + 4, none⟩ = some (.string (kid e 1).c.s) ∧ W'.cell? ⟨b, o + 6 + 5, none⟩ = some (.slice (kid e 1).A (kid e 1).kids.length (kid e 1).cap)) := fun W' l k => by
      have k1 := (hB.next k).kidAt hA (i := 1) (by omega)
      have c0 := (hB.next k).six.1
      have c5 := (hB.next k).six.2.2.2.2.2
      rw [hA, h2] at c5
      rw [h3] at c0
      rw [Nat.one_mul] at k1
      exact Lib.hid ⟨c0, c5, k1⟩
    have k0 := hB.kidAt hA (i := 0) (by omega)
    rw [Nat.zero_mul, Nat.add_zero] at k0
    obtain ⟨d0, d1, d2, d3, d4, d5⟩ := k0
    have c5 := hB.six.2.2.2.2.2
    have HU := Lib.hid hU
    rw [hA, h2] at c5
    clear hB hU hnode hop hq hE h6 hm hm2 hkl
    unfold Lx.val at *
    rw [h3, hA, h2] at hW ⊢
    generalize nm (ev row n) (kid e 0) u = p at *
    generalize nm (ev row n) (kid e 1) p.2 = q at *
    go_enter Tryz.func123, Tryz.ntmps123
    go_upto_region 1 with fail
    rw [← hW]
    clear hW
    go_wp2_with fail
    refine hc.out.mono ?_
    rintro _ w2 ⟨rfl, u2⟩
    have U2 := Lib.hid u2
    obtain ⟨x7, x5, x0, x1, x2, x3, x4, x6⟩ := (hK w2 _ u2).out
    clear u2 c5 d0 d1 d2 d3 d4 d5
    go_wp2_with fail
    refine (hc1 _ U2.out).out.mono ?_
    rintro _ w3 ⟨rfl, u3⟩
    have U3 := Lib.hid (U2.out.trans u3)
    have y7 := (hK w3 _ (U2.out.trans u3)).out.1
    clear u3 x0 x1 x2 x3 x4 x5 x6 x7
    go_wp2_with fail
    refine (hsum _).out.mono ?_
    rintro _ w4 ⟨rfl, b4⟩
    have B4 := Lib.hid b4
    clear b4
    go_wp2_with fail
    go_ret2
    exact ⟨rfl, (HU.out.trans U3.out).quiet B4.out⟩
  by_cases h4 : e.op = 4
  case pos =>
    have h2 : e.kids.length = 2 := by rw [h4] at hnode; unfold kidsOf at hnode; simp at hnode; omega
    have hm2 : -9223372036854775808 ≤ (nm (ev row n) (kid e 1) (nm (ev row n) (kid e 0) u).2).1 ∧ (nm (ev row n) (kid e 1) (nm (ev row n) (kid e 0) u).2).1 ≤ 9223372036854775807 := (ev_ok row hr.ok n (kid e 1) _ (ht.sub (by omega)).gd (ht.sub (by omega)).ok).2
    have hq : rk (ev row n) e u = ((nm (ev row n) (kid e 0) u).1 - (nm (ev row n) (kid e 1) (nm (ev row n) (kid e 0) u).2).1, (nm (ev row n) (kid e 1) (nm (ev row n) (kid e 0) u).2).2) := by unfold rk; dsimp only; rw [if_neg h6, if_neg h3, if_pos h4]
    rw [hq]
    clear ht hr ho hs
    have hc := Lib.hid (number2_any row A c n hE (kid e 0) u g W (hB.te.sub (by omega)) hB.row hU.own)
    have hc1 := fun W' (k : Upd W W' g 169 (evL (nm (ev row n) (kid e 0) u).2 A row.length c)) => Lib.hid (number2_any row A c n hE (kid e 1) (nm (ev row n) (kid e 0) u).2 g W' ((hB.next k).te.sub (by omega)) (hB.next k).row k.own)
    have hfl := bits_flip _ hm2.1 hm2.2
    have hsum := fun W => Lib.hid (sum3_any (nm (ev row n) (kid e 0) u).1 (-(nm (ev row n) (kid e 1) (nm (ev row n) (kid e 0) u).2).1 - 1) 1 hm (by omega) (by omega) W)
    rw [show (nm (ev row n) (kid e 0) u).1 + (-(nm (ev row n) (kid e 1) (nm (ev row n) (kid e 0) u).2).1 - 1) + 1 = (nm (ev row n) (kid e 0) u).1 - (nm (ev row n) (kid e 1) (nm (ev row n) (kid e 0) u).2).1 by omega] at hsum
    have HF := Lib.hid hfl
    clear hfl
    obtain ⟨b, o, hA⟩ := hA (by omega)
    have hK : ∀ W' l, Upd W W' g 169 l → Hid (W'.cell? ⟨w.heap.size, 0, none⟩ = some (.int .u8 4) ∧ W'.cell? ⟨w.heap.size, 5, none⟩ = some (.slice (some ⟨b, o, none⟩) 2 e.cap) ∧ W'.cell? ⟨b, o + 6, none⟩ = some (.int .u8 (kid e 1).op) ∧ W'.cell? ⟨b, o + 6 + 1, none⟩ = some (.int .i64 (kid e 1).col) ∧ W'.cell? ⟨b, o + 6 + 2, none⟩ = some (.bool (kid e 1).c.t) ∧
      W'.cell? ⟨b, o + 6 + 3, none⟩ = some (.int .i64 (kid e 1).c.n) ∧ W'.cell? ⟨b, o + 6 + 4, none⟩ = some (.string (kid e 1).c.s) ∧ W'.cell? ⟨b, o + 6 + 5, none⟩ = some (.slice (kid e 1).A (kid e 1).kids.length (kid e 1).cap)) := fun W' l k => by
      have k1 := (hB.next k).kidAt hA (i := 1) (by omega)
      have c0 := (hB.next k).six.1
      have c5 := (hB.next k).six.2.2.2.2.2
      rw [hA, h2] at c5
      rw [h4] at c0
      rw [Nat.one_mul] at k1
      exact Lib.hid ⟨c0, c5, k1⟩
    have k0 := hB.kidAt hA (i := 0) (by omega)
    rw [Nat.zero_mul, Nat.add_zero] at k0
    obtain ⟨d0, d1, d2, d3, d4, d5⟩ := k0
    have c5 := hB.six.2.2.2.2.2
    have HU := Lib.hid hU
    rw [hA, h2] at c5
    clear hB hU hnode hop hq hE h6 hm hm2 hkl
    unfold Lx.val at *
    rw [h4, hA, h2] at hW ⊢
    generalize nm (ev row n) (kid e 0) u = p at *
    generalize nm (ev row n) (kid e 1) p.2 = q at *
    go_enter Tryz.func123, Tryz.ntmps123
    go_upto_region 1 with fail
    rw [← hW]
    clear hW
    go_wp2_with fail
    refine hc.out.mono ?_
    rintro _ w2 ⟨rfl, u2⟩
    have U2 := Lib.hid u2
    obtain ⟨x7, x5, x0, x1, x2, x3, x4, x6⟩ := (hK w2 _ u2).out
    clear u2 c5 d0 d1 d2 d3 d4 d5
    go_wp2_with fail
    refine (hc1 _ U2.out).out.mono ?_
    rintro _ w3 ⟨rfl, u3⟩
    have U3 := Lib.hid (U2.out.trans u3)
    have y7 := (hK w3 _ (U2.out.trans u3)).out.1
    clear u3 x0 x1 x2 x3 x4 x5 x6 x7
    go_wp2_with fail
    rw [HF.out]
    refine (hsum _).out.mono ?_
    rintro _ w4 ⟨rfl, b4⟩
    have B4 := Lib.hid b4
    clear b4
    go_wp2_with fail
    go_ret2
    exact ⟨rfl, (HU.out.trans U3.out).quiet B4.out⟩
  by_cases h5 : e.op = 5
  case pos =>
    have h2 : e.kids.length = 2 := by rw [h5] at hnode; unfold kidsOf at hnode; simp at hnode; omega
    have hm2 : -9223372036854775808 ≤ (nm (ev row n) (kid e 1) (nm (ev row n) (kid e 0) u).2).1 ∧ (nm (ev row n) (kid e 1) (nm (ev row n) (kid e 0) u).2).1 ≤ 9223372036854775807 := (ev_ok row hr.ok n (kid e 1) _ (ht.sub (by omega)).gd (ht.sub (by omega)).ok).2
    have hq : rk (ev row n) e u = ((nm (ev row n) (kid e 0) u).1 * (nm (ev row n) (kid e 1) (nm (ev row n) (kid e 0) u).2).1, (nm (ev row n) (kid e 1) (nm (ev row n) (kid e 0) u).2).2) := by unfold rk; dsimp only; rw [if_neg h6, if_neg h3, if_neg h4]
    rw [hq]
    clear ht hr ho hs
    have hc := Lib.hid (number2_any row A c n hE (kid e 0) u g W (hB.te.sub (by omega)) hB.row hU.own)
    have hc1 := fun W' (k : Upd W W' g 169 (evL (nm (ev row n) (kid e 0) u).2 A row.length c)) => Lib.hid (number2_any row A c n hE (kid e 1) (nm (ev row n) (kid e 0) u).2 g W' ((hB.next k).te.sub (by omega)) (hB.next k).row k.own)
    have hsum := fun W => Lib.hid (dtimes_any (nm (ev row n) (kid e 0) u).1 (nm (ev row n) (kid e 1) (nm (ev row n) (kid e 0) u).2).1 W hm.1 hm.2 hm2.1 hm2.2)
    obtain ⟨b, o, hA⟩ := hA (by omega)
    have hK : ∀ W' l, Upd W W' g 169 l → Hid (W'.cell? ⟨w.heap.size, 0, none⟩ = some (.int .u8 5) ∧ W'.cell? ⟨w.heap.size, 5, none⟩ = some (.slice (some ⟨b, o, none⟩) 2 e.cap) ∧ W'.cell? ⟨b, o + 6, none⟩ = some (.int .u8 (kid e 1).op) ∧ W'.cell? ⟨b, o + 6 + 1, none⟩ = some (.int .i64 (kid e 1).col) ∧ W'.cell? ⟨b, o + 6 + 2, none⟩ = some (.bool (kid e 1).c.t) ∧
      W'.cell? ⟨b, o + 6 + 3, none⟩ = some (.int .i64 (kid e 1).c.n) ∧ W'.cell? ⟨b, o + 6 + 4, none⟩ = some (.string (kid e 1).c.s) ∧ W'.cell? ⟨b, o + 6 + 5, none⟩ = some (.slice (kid e 1).A (kid e 1).kids.length (kid e 1).cap)) := fun W' l k => by
      have k1 := (hB.next k).kidAt hA (i := 1) (by omega)
      have c0 := (hB.next k).six.1
      have c5 := (hB.next k).six.2.2.2.2.2
      rw [hA, h2] at c5
      rw [h5] at c0
      rw [Nat.one_mul] at k1
      exact Lib.hid ⟨c0, c5, k1⟩
    have k0 := hB.kidAt hA (i := 0) (by omega)
    rw [Nat.zero_mul, Nat.add_zero] at k0
    obtain ⟨d0, d1, d2, d3, d4, d5⟩ := k0
    have c5 := hB.six.2.2.2.2.2
    have HU := Lib.hid hU
    rw [hA, h2] at c5
    clear hB hU hnode hop hq hE h6 hm hm2 hkl
    unfold Lx.val at *
    rw [h5, hA, h2] at hW ⊢
    generalize nm (ev row n) (kid e 0) u = p at *
    generalize nm (ev row n) (kid e 1) p.2 = q at *
    go_enter Tryz.func123, Tryz.ntmps123
    go_upto_region 1 with fail
    rw [← hW]
    clear hW
    go_wp2_with fail
    refine hc.out.mono ?_
    rintro _ w2 ⟨rfl, u2⟩
    have U2 := Lib.hid u2
    obtain ⟨x7, x5, x0, x1, x2, x3, x4, x6⟩ := (hK w2 _ u2).out
    clear u2 c5 d0 d1 d2 d3 d4 d5
    go_wp2_with fail
    refine (hc1 _ U2.out).out.mono ?_
    rintro _ w3 ⟨rfl, u3⟩
    have U3 := Lib.hid (U2.out.trans u3)
    have y7 := (hK w3 _ (U2.out.trans u3)).out.1
    clear u3 x0 x1 x2 x3 x4 x5 x6 x7
    go_wp2_with fail
    refine (hsum _).out.mono ?_
    rintro _ w4 ⟨rfl, b4⟩
    have B4 := Lib.hid b4
    clear b4
    go_wp2_with fail
    go_ret2
    exact ⟨rfl, (HU.out.trans U3.out).quiet B4.out⟩
  exfalso
  omega
end Go.Proofs.YtcfldgncmbcpmaaGreat
