/- Plain facts on plans: which are well-formed, how many they are, which loops they have. -/
import Derived.Test.YtjidjpmdmcleoaaEInfE
namespace Go.Proofs.Ytjidjpmdmcleoaa
open Go Go.RowKit

/-- a plan as it lies in memory -/
inductive Px where
  | mk (kind : Int) (n : Int) (kA : Option Addr) (kc : Nat) (kids : List Px) (eA : Option Addr) (ec : Nat) (exprs : List Lx) (cA : Option Addr) (cc : Nat) (cols : List Int) (wA : Option Addr) (wc : Nat) (wit : List Int) (agg : Int) (rounds : Int)
instance : Inhabited Px := ⟨.mk 0 0 none 0 [] none 0 [] none 0 [] none 0 [] 0 0⟩
namespace Px
def kind : Px → Int | mk k _ _ _ _ _ _ _ _ _ _ _ _ _ _ _ => k
def n : Px → Int | mk _ k _ _ _ _ _ _ _ _ _ _ _ _ _ _ => k
def kA : Px → Option Addr | mk _ _ k _ _ _ _ _ _ _ _ _ _ _ _ _ => k
def kc : Px → Nat | mk _ _ _ k _ _ _ _ _ _ _ _ _ _ _ _ => k
def kids : Px → List Px | mk _ _ _ _ k _ _ _ _ _ _ _ _ _ _ _ => k
def eA : Px → Option Addr | mk _ _ _ _ _ k _ _ _ _ _ _ _ _ _ _ => k
def ec : Px → Nat | mk _ _ _ _ _ _ k _ _ _ _ _ _ _ _ _ => k
def exprs : Px → List Lx | mk _ _ _ _ _ _ _ k _ _ _ _ _ _ _ _ => k
def cA : Px → Option Addr | mk _ _ _ _ _ _ _ _ k _ _ _ _ _ _ _ => k
def cc : Px → Nat | mk _ _ _ _ _ _ _ _ _ k _ _ _ _ _ _ => k
def cols : Px → List Int | mk _ _ _ _ _ _ _ _ _ _ k _ _ _ _ _ => k
def wA : Px → Option Addr | mk _ _ _ _ _ _ _ _ _ _ _ k _ _ _ _ => k
def wc : Px → Nat | mk _ _ _ _ _ _ _ _ _ _ _ _ k _ _ _ => k
def wit : Px → List Int | mk _ _ _ _ _ _ _ _ _ _ _ _ _ k _ _ => k
def agg : Px → Int | mk _ _ _ _ _ _ _ _ _ _ _ _ _ _ k _ => k
def rounds : Px → Int | mk _ _ _ _ _ _ _ _ _ _ _ _ _ _ _ k => k
def cells (p : Px) : List Value := [.int .u8 p.kind, .int .i64 p.n, .slice p.kA p.kids.length p.kc, .slice p.eA p.exprs.length p.ec, .slice p.cA p.cols.length p.cc, .slice p.wA p.wit.length p.wc, .int .u8 p.agg, .int .i64 p.rounds]
def val (p : Px) : Value := .agg #[.int .u8 p.kind, .int .i64 p.n, .slice p.kA p.kids.length p.kc, .slice p.eA p.exprs.length p.ec, .slice p.cA p.cols.length p.cc, .slice p.wA p.wit.length p.wc, .int .u8 p.agg, .int .i64 p.rounds]
end Px
def imax : Int := 9223372036854775807
def imin : Int := -9223372036854775808
def inS (a b n : Int) : Bool := decide (a ≤ n) && decide (n ≤ b)
/-- what a plan may have in its fields -/
structure Sh where
  (k1 k2 e1 e2 c1 c2 w1 w2 n1 n2 a1 a2 r1 r2 : Int)
def Sh.fits (s : Sh) (p : Px) : Bool :=
  inS s.k1 s.k2 p.kids.length && (inS s.e1 s.e2 p.exprs.length && (inS s.c1 s.c2 p.cols.length && (inS s.w1 s.w2 p.wit.length && (inS s.n1 s.n2 p.n && (inS s.a1 s.a2 p.agg && inS s.r1 s.r2 p.rounds)))))
def shp (k a : Int) : Sh :=
  if k = 1 ∨ k = 2 then ⟨0, 0, 0, 0, 0, 0, 0, 0, imin, imax, 0, 0, 0, 0⟩
  else if k = 3 then ⟨1, 1, 0, imax, 0, 0, 0, 0, 0, 0, 0, 0, 0, 0⟩
  else if k = 4 then ⟨1, 1, 1, 1, 0, 0, 0, 0, 0, 0, 0, 0, 0, 0⟩
  else if k = 5 then ⟨1, imax, 0, 0, 0, 0, 0, 0, 0, 0, 0, 0, 0, 0⟩
  else if k = 6 ∨ k = 9 then ⟨1, 1, 0, 0, 0, 0, 0, 0, 0, 0, 0, 0, 0, 0⟩
  else if k = 7 then ⟨2, 2, 0, 0, 0, imax, 0, imax, 0, 0, 0, 0, 0, 0⟩
  else if k = 8 then ⟨1, 1, 0, 0, 0, imax, 0, 0, if a = 1 then 0 else imin, if a = 1 then 0 else imax, 1, 5, 0, 0⟩
  else if k = 10 then ⟨2, 2, 0, 0, 0, 0, 0, 0, 0, 0, 0, 0, 1, 16⟩
  else ⟨1, 0, 0, 0, 0, 0, 0, 0, 0, 0, 0, 0, 0, 0⟩
def fitsP (p : Px) : Bool := (shp p.kind p.agg).fits p
/-- what has been looked at -/
structure Ft where
  why : Int
  nodes : Int
  depth : Int
  loops : Int
  long : Bool
def lookX (s : Ft) (e : Lx) : Ft := if checkE e = 0 then s else if checkE e = 2 then ⟨s.why, s.nodes, s.depth, s.loops, true⟩ else ⟨fl s.why 4, s.nodes, s.depth, s.loops, s.long⟩
def foldK {σ : Type} (f : Nat → Px → σ → σ) : Nat → List Px → σ → σ
  | _, [], s => s
  | i, k :: t, s => foldK f (i + 1) t (f i k s)
theorem foldK_snoc {σ : Type} (f : Nat → Px → σ → σ) : ∀ (l : List Px) (i : Nat) (k : Px) (s : σ), foldK f i (l ++ [k]) s = f (i + l.length) k (foldK f i l s)
  | [], _, _, _ => rfl
  | x :: l, i, k, s => by
    show foldK f (i + 1) (l ++ [k]) (f i x s) = _
    rw [foldK_snoc f l, List.length_cons, show i + 1 + l.length = i + (l.length + 1) by omega]
    rfl
def arnd (p : Px) (i : Nat) (l : Int) : Int := if p.kind = 10 ∧ i = 1 then l + 1 else l
def startP (p : Px) (n : Nat) (l : Int) (s : Ft) : Ft := p.exprs.foldl lookX ⟨if fitsP p then 0 else 4, w64 (s.nodes + 1), max s.depth (17 - (n : Int)), max s.loops l, s.long⟩
def lookP : Nat → Px → Int → Ft → Ft
  | 0, _, _, s => s
  | n + 1, p, l, s => if s.why ≠ 0 then s else foldK (fun i k s => lookP n k (arnd p i l) s) 0 p.kids (startP p n l s)
theorem lookP_next {n : Nat} {p : Px} {l : Int} {s : Ft} (h : s.why = 0) : lookP (n + 1) p l s = foldK (fun i k s => lookP n k (arnd p i l) s) 0 p.kids (startP p n l s) := by
  rw [lookP, if_neg (by simpa using h)]
def examP (p : Px) : Ft :=
  let s := lookP 17 p 0 ⟨0, 0, 0, 0, false⟩
  if s.long = true ∨ s.depth > 16 ∨ s.nodes > 64 ∨ s.loops > 2 then ⟨fl s.why 2, s.nodes, s.depth, s.loops, s.long⟩ else s
def checkP (p : Px) : Int := (examP p).why
def loopsP (p : Px) : Int := if checkP p = 0 then (examP p).loops else 0
/-- all is well-formed, and at most n deep -/
def goodP : Nat → Px → Bool
  | 0, _ => false
  | n + 1, p => fitsP p && (p.exprs.all (fun e => checkE e == 0) && p.kids.all (goodP n))
def cntP : Nat → Px → Nat
  | 0, _ => 0
  | n + 1, p => 1 + (p.kids.map (cntP n)).sum
def lpsP : Nat → Px → Int → Int
  | 0, _, l => l
  | n + 1, p, l => foldK (fun i k m => max m (lpsP n k (arnd p i l))) 0 p.kids l
def Ft.ok (s : Ft) : Prop := s.why = 0 ∧ s.long = false ∧ s.depth ≤ 16
theorem lookX_ok (s : Ft) (e : Lx) : (lookX s e).ok ↔ s.ok ∧ checkE e = 0 := by
  unfold lookX Ft.ok fl
  by_cases h : checkE e = 0
  · rw [if_pos h]; simp [h]
  · rw [if_neg h]
    by_cases h2 : checkE e = 2
    · rw [if_pos h2]; simp [h]
    · rw [if_neg h2]
      by_cases hw : s.why = 0
      · simp [h, hw]
      · simp [h, hw]
theorem lookX_more (s : Ft) (e : Lx) : (lookX s e).nodes = s.nodes ∧ (lookX s e).depth = s.depth ∧ (lookX s e).loops = s.loops := by
  unfold lookX; repeat' split
  all_goals exact ⟨rfl, rfl, rfl⟩
theorem foldX_ok : ∀ (l : List Lx) (s : Ft), (l.foldl lookX s).ok ↔ s.ok ∧ l.all (fun e => checkE e == 0) = true
  | [], s => by simp
  | e :: l, s => by
    rw [List.foldl_cons, foldX_ok l, lookX_ok, List.all_cons, Bool.and_eq_true, beq_iff_eq, and_assoc]
theorem foldX_more : ∀ (l : List Lx) (s : Ft), (l.foldl lookX s).nodes = s.nodes ∧ (l.foldl lookX s).depth = s.depth ∧ (l.foldl lookX s).loops = s.loops
  | [], _ => ⟨rfl, rfl, rfl⟩
  | e :: l, s => by
    obtain ⟨h1, h2, h3⟩ := foldX_more l (lookX s e)
    obtain ⟨k1, k2, k3⟩ := lookX_more s e
    rw [List.foldl_cons, h1, h2, h3]
    exact ⟨k1, k2, k3⟩
theorem startP_ok {p : Px} {n : Nat} {l : Int} {s : Ft} (hs : s.why = 0) (hn : n ≤ 16) : (startP p n l s).ok ↔ s.ok ∧ (fitsP p = true ∧ p.exprs.all (fun e => checkE e == 0) = true ∧ 0 < n) := by
  unfold startP
  rw [foldX_ok]
  unfold Ft.ok
  dsimp only
  constructor
  · rintro ⟨⟨h1, h2, h3⟩, h4⟩
    refine ⟨⟨hs, h2, by omega⟩, ?_, h4, by omega⟩
    cases hf : fitsP p
    · rw [hf] at h1; simp at h1
    · rfl
  · rintro ⟨⟨h1, h2, h3⟩, h4, h5, h6⟩
    exact ⟨⟨by rw [h4]; rfl, h2, by omega⟩, h5⟩
theorem foldK_ok {n : Nat} {a : Nat → Int} (ih : ∀ k l s, (lookP n k l s).ok ↔ s.ok ∧ goodP (n - 1) k = true) : ∀ (l : List Px) (i : Nat) (s : Ft), (foldK (fun i k s => lookP n k (a i) s) i l s).ok ↔ s.ok ∧ l.all (goodP (n - 1)) = true
  | [], _, s => by simp [foldK]
  | k :: l, i, s => by
    show (foldK (fun i k s => lookP n k (a i) s) (i + 1) l (lookP n k (a i) s)).ok ↔ _
    rw [foldK_ok ih l, ih, List.all_cons, Bool.and_eq_true, and_assoc]
theorem foldK_zero {a : Nat → Int} : ∀ (l : List Px) (i : Nat) (s : Ft), foldK (fun i k s => lookP 0 k (a i) s) i l s = s
  | [], _, _ => rfl
  | _ :: l, i, s => foldK_zero l (i + 1) s
theorem look_ok : ∀ (n : Nat), n ≤ 16 → ∀ (p : Px) (l : Int) (s : Ft), (lookP (n + 1) p l s).ok ↔ s.ok ∧ goodP n p = true
  | n, hn, p, l, s => by
    by_cases hs : s.why = 0
    · rw [lookP_next hs]
      cases n with
      | zero =>
        rw [foldK_zero (a := fun i => arnd p i l), startP_ok hs (by omega)]
        simp [goodP]
      | succ n =>
        rw [foldK_ok (n := n + 1) (a := fun i => arnd p i l) (fun k l s => by simpa using look_ok n (by omega) k l s), startP_ok hs hn]
        simp only [goodP, Bool.and_eq_true, Nat.add_sub_cancel]
        constructor
        · rintro ⟨⟨h1, h2, h3, _⟩, h4⟩; exact ⟨h1, h2, h3, h4⟩
        · rintro ⟨h1, h2, h3, h4⟩; exact ⟨⟨h1, h2, h3, by omega⟩, h4⟩
    · rw [lookP, if_pos hs]
      unfold Ft.ok
      simp [hs]
theorem lookP_stay (n : Nat) (p : Px) (l : Int) (s : Ft) (h : s.why ≠ 0) : lookP n p l s = s := by
  cases n with
  | zero => rfl
  | succ n => rw [lookP, if_pos h]
theorem w64_step (a : Int) : w64 (w64 a) = w64 a := by have := w64_w64 a 0; simpa using this
theorem foldK_ge (f : Nat → Px → Int) : ∀ (l : List Px) (i : Nat) (m : Int), m ≤ foldK (fun i k m => max m (f i k)) i l m
  | [], _, m => Int.le_refl m
  | k :: l, i, m => by
    have h := foldK_ge f l (i + 1) (max m (f i k))
    simp only [foldK]
    omega
/-- what else has been looked at -/
structure More (s t : Ft) (c : Nat) (m : Int) : Prop where
  nodes : t.nodes = w64 (s.nodes + c)
  loops : t.loops = max s.loops m
theorem foldK_more {n : Nat} {a : Nat → Int} (hn : n + 1 ≤ 16) (ih : ∀ k l s, (lookP (n + 1) k l s).ok → s.nodes = w64 s.nodes → More s (lookP (n + 1) k l s) (cntP (n + 1) k) (lpsP (n + 1) k l)) :
    ∀ (l : List Px) (i : Nat) (s : Ft) (m : Int), (foldK (fun i k s => lookP (n + 1) k (a i) s) i l s).ok → s.nodes = w64 s.nodes → m ≤ s.loops →
      More s (foldK (fun i k s => lookP (n + 1) k (a i) s) i l s) (l.map (cntP (n + 1))).sum (foldK (fun i k m => max m (lpsP (n + 1) k (a i))) i l m)
  | [], _, s, m, _, h2, h3 => ⟨by simpa [foldK] using h2, by simp only [foldK]; omega⟩
  | k :: l, i, s, m, h1, h2, h3 => by
    have hk : (lookP (n + 1) k (a i) s).ok := ((foldK_ok (n := n + 1) (a := a) (fun k l s => by simpa using look_ok n (by omega) k l s) l (i + 1) _).1 h1).1
    obtain ⟨e1, e2⟩ := ih k (a i) s hk h2
    obtain ⟨f1, f2⟩ := foldK_more hn ih l (i + 1) (lookP (n + 1) k (a i) s) (max m (lpsP (n + 1) k (a i))) h1 (by rw [e1, w64_step]) (by omega)
    refine ⟨?_, ?_⟩
    · simp only [foldK]
      rw [f1, e1, w64_w64, List.map_cons, List.sum_cons, Int.natCast_add, Int.add_assoc]
    · have := foldK_ge (fun i k => lpsP (n + 1) k (a i)) l (i + 1) (max m (lpsP (n + 1) k (a i)))
      simp only [foldK]
      rw [f2, e2]
      omega
theorem look_more : ∀ (n : Nat), n ≤ 16 → ∀ (p : Px) (l : Int) (s : Ft), (lookP (n + 1) p l s).ok → s.nodes = w64 s.nodes → More s (lookP (n + 1) p l s) (cntP (n + 1) p) (lpsP (n + 1) p l)
  | 0, hn, p, l, s, h, _ => by have := ((look_ok 0 hn p l s).1 h).2; cases this
  | n + 1, hn, p, l, s, h, hs => by
    have hw : s.why = 0 := ((look_ok (n + 1) hn p l s).1 h).1.1
    rw [lookP_next hw] at h ⊢
    obtain ⟨e1, _, e3⟩ := foldX_more p.exprs ⟨if fitsP p then 0 else 4, w64 (s.nodes + 1), max s.depth (17 - ((n + 1 : Nat) : Int)), max s.loops l, s.long⟩
    have e1 : (startP p (n + 1) l s).nodes = w64 (s.nodes + 1) := e1
    have e3 : (startP p (n + 1) l s).loops = max s.loops l := e3
    obtain ⟨f1, f2⟩ := foldK_more (n := n) (a := fun i => arnd p i l) hn (fun k l s => look_more n (by omega) k l s) p.kids 0 (startP p (n + 1) l s) l h (by rw [e1, w64_step]) (by omega)
    refine ⟨?_, ?_⟩
    · rw [f1, e1, w64_w64, cntP, Int.natCast_add, Int.add_assoc]; rfl
    · rw [f2, e3]
      show _ = max s.loops (foldK (fun i k m => max m (lpsP (n + 1) k (arnd p i l))) 0 p.kids l)
      have := foldK_ge (fun i k => lpsP (n + 1) k (arnd p i l)) p.kids 0 l
      omega
theorem cntP_good : ∀ (n m : Nat) (p : Px), n ≤ m → goodP n p = true → cntP m p = cntP n p
  | 0, _, _, _, h => by cases h
  | n + 1, 0, _, h, _ => by omega
  | n + 1, m + 1, p, hm, h => by
    simp only [goodP, Bool.and_eq_true, List.all_eq_true] at h
    simp only [cntP]
    congr 2
    exact List.map_congr_left fun k hk => cntP_good n m k (by omega) (h.2.2 k hk)
theorem foldK_congr {σ : Type} {f g : Nat → Px → σ → σ} : ∀ (l : List Px) (i : Nat) (s : σ), (∀ k ∈ l, ∀ i s, f i k s = g i k s) → foldK f i l s = foldK g i l s
  | [], _, _, _ => rfl
  | k :: l, i, s, h => by
    show foldK f (i + 1) l (f i k s) = foldK g (i + 1) l (g i k s)
    rw [h k (by simp), foldK_congr l (i + 1) _ fun x hx => h x (by simp [hx])]
theorem lpsP_good : ∀ (n m : Nat) (p : Px) (l : Int), n ≤ m → goodP n p = true → lpsP m p l = lpsP n p l
  | 0, _, _, _, _, h => by cases h
  | n + 1, 0, _, _, h, _ => by omega
  | n + 1, m + 1, p, l, hm, h => by
    simp only [goodP, Bool.and_eq_true, List.all_eq_true] at h
    simp only [lpsP]
    exact foldK_congr _ _ _ fun k hk i s => by rw [lpsP_good n m k _ (by omega) (h.2.2 k hk)]
theorem goodP_more : ∀ (n m : Nat) (p : Px), n ≤ m → goodP n p = true → goodP m p = true
  | 0, _, _, _, h => by cases h
  | n + 1, 0, _, h, _ => by omega
  | n + 1, m + 1, p, hm, h => by
    simp only [goodP, Bool.and_eq_true, List.all_eq_true] at h ⊢
    exact ⟨h.1, h.2.1, fun k hk => goodP_more n m k (by omega) (h.2.2 k hk)⟩
theorem checkP_ok (p : Px) (hb : cntP 17 p < 4611686018427387904) : (checkP p = 0 ↔ goodP 16 p = true ∧ cntP 16 p ≤ 64 ∧ lpsP 16 p 0 ≤ 2) ∧ (checkP p = 0 → (examP p).loops = max 0 (lpsP 16 p 0)) := by
  have h1 := look_ok 16 (by omega) p 0 ⟨0, 0, 0, 0, false⟩
  have h2 := look_more 16 (by omega) p 0 ⟨0, 0, 0, 0, false⟩
  have h3 := fun h => cntP_good 16 17 p (by omega) h
  have h4 := fun h => lpsP_good 16 17 p 0 (by omega) h
  have h0 : (⟨0, 0, 0, 0, false⟩ : Ft).ok := ⟨rfl, rfl, by decide⟩
  unfold checkP examP
  simp only
  generalize hs : lookP 17 p 0 ⟨0, 0, 0, 0, false⟩ = s at *
  have hw : (⟨0, 0, 0, 0, false⟩ : Ft).nodes = w64 (⟨0, 0, 0, 0, false⟩ : Ft).nodes := by decide
  have key : (if s.long = true ∨ s.depth > 16 ∨ s.nodes > 64 ∨ s.loops > 2 then (⟨fl s.why 2, s.nodes, s.depth, s.loops, s.long⟩ : Ft) else s).why = 0 ↔ s.ok ∧ s.nodes ≤ 64 ∧ s.loops ≤ 2 := by
    split
    · rename_i h
      have hf : fl s.why 2 ≠ 0 := by unfold fl; split <;> omega
      refine ⟨fun hh => absurd hh hf, ?_⟩
      rintro ⟨⟨_, a, b⟩, c, d⟩
      rw [a] at h
      rcases h with h | h | h | h
      · cases h
      · omega
      · omega
      · omega
    · rename_i h
      refine ⟨fun hh => ⟨⟨hh, ?_, ?_⟩, ?_, ?_⟩, fun hh => hh.1.1⟩
      · cases hl : s.long
        · rfl
        · exact absurd (.inl hl) h
      · have : ¬ s.depth > 16 := fun x => h (.inr (.inl x))
        omega
      · have : ¬ s.nodes > 64 := fun x => h (.inr (.inr (.inl x)))
        omega
      · have : ¬ s.loops > 2 := fun x => h (.inr (.inr (.inr x)))
        omega
  have hok : s.ok → s.nodes = cntP 16 p ∧ s.loops = max 0 (lpsP 16 p 0) := fun h => by
    obtain ⟨e1, e2⟩ := h2 h hw
    have hg := (h1.1 h).2
    rw [h3 hg] at e1 hb
    rw [h4 hg] at e2
    rw [e1, e2]
    refine ⟨?_, rfl⟩
    show w64 (0 + _) = _
    rw [Int.zero_add, w64_id (by omega) (by omega)]
  constructor
  · rw [key]
    constructor
    · rintro ⟨a, b, c⟩
      obtain ⟨e1, e2⟩ := hok a
      exact ⟨(h1.1 a).2, by omega, by omega⟩
    · rintro ⟨a, b, c⟩
      have hh := h1.2 ⟨h0, a⟩
      obtain ⟨e1, e2⟩ := hok hh
      exact ⟨hh, by omega, by omega⟩
  · intro h
    obtain ⟨a, b, c⟩ := key.1 h
    have : (if s.long = true ∨ s.depth > 16 ∨ s.nodes > 64 ∨ s.loops > 2 then (⟨fl s.why 2, s.nodes, s.depth, s.loops, s.long⟩ : Ft) else s).loops = s.loops := by split <;> rfl
    rw [this]
    exact (hok a).2
end Go.Proofs.Ytjidjpmdmcleoaa
