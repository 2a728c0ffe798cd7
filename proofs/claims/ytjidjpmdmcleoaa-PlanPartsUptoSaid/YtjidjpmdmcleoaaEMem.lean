/- Expressions in memory; a block of the call's own that a callee writes into. -/
import Derived.Test.YtjidjpmdmcleoaaExp
import Derived.Test.YtjidjpmdmcleoaaLies
import Derived.Test.YtjidjpmdmcleoaaEEq
import Derived.Outline
namespace Go.Proofs.Ytjidjpmdmcleoaa
open Go Go.RowKit

/-- the numbers in an expression fit, n deep -/
def LxOk : Nat → Lx → Prop
  | 0, _ => True
  | n + 1, e => VOk e.c ∧ (0 ≤ e.op ∧ e.op ≤ 255) ∧ (-9223372036854775808 ≤ e.col ∧ e.col ≤ 9223372036854775807) ∧ e.kids.length ≤ maxLen ∧ ∀ k ∈ e.kids, LxOk n k
/-- it lies below block B, n deep -/
def LxIn (w : World) (B : Nat) : Nat → Lx → Prop
  | 0, _ => True
  | n + 1, e => Lies 6 Lx.cells w B e.A e.kids ∧ ∀ k ∈ e.kids, LxIn w B n k
theorem LxIn.past {B B' : Nat} {w w' : World} (hb : Below B' w w') (hB : B ≤ B') : ∀ {n : Nat} {e : Lx}, LxIn w B n e → LxIn w' B n e
  | 0, _, _ => trivial
  | _ + 1, _, h => ⟨h.1.past hb hB, fun k hk => LxIn.past hb hB (h.2 k hk)⟩
theorem LxIn.wide {B B' : Nat} {w : World} (hB : B ≤ B') : ∀ {n : Nat} {e : Lx}, LxIn w B n e → LxIn w B' n e
  | 0, _, _ => trivial
  | _ + 1, _, h => ⟨h.1.wide hB, fun k hk => LxIn.wide hB (h.2 k hk)⟩
theorem LxIn.less {B : Nat} {w : World} : ∀ {n m : Nat} {e : Lx}, m ≤ n → LxIn w B n e → LxIn w B m e
  | _, 0, _, _, _ => trivial
  | 0, _ + 1, _, h, _ => absurd h (by omega)
  | n + 1, m + 1, _, h, k => ⟨k.1, fun x hx => LxIn.less (by omega) (k.2 x hx)⟩
theorem LxOk.less : ∀ {n m : Nat} {e : Lx}, m ≤ n → LxOk n e → LxOk m e
  | _, 0, _, _, _ => trivial
  | 0, _ + 1, _, h, _ => absurd h (by omega)
  | n + 1, m + 1, _, h, k => ⟨k.1, k.2.1, k.2.2.1, k.2.2.2.1, fun x hx => LxOk.less (by omega) (k.2.2.2.2 x hx)⟩
theorem lxIn_keep {a b : World} {n : Nat} {e : Lx} (h : LxIn a a.heap.size n e) (hb : Below a.heap.size a b) : LxIn b b.heap.size n e := (h.past hb (Nat.le_refl _)).wide hb.size
/-- an expression's six cells lie at b, o -/
def LxAt (w : World) (b o : Nat) (e : Lx) : Prop := ∀ (j : Nat) (u : Value), e.cells[j]? = some u → w.cell? ⟨b, o + j, none⟩ = some u
theorem LxAt.past {B b o : Nat} {w w' : World} {e : Lx} (h : LxAt w b o e) (hb : Below B w w') (hB : b < B) : LxAt w' b o e :=
  fun j u hj => (hb.cell (p := ⟨b, o + j, none⟩) hB).trans (h j u hj)
theorem LxAt.six {b o : Nat} {w : World} {e : Lx} (h : LxAt w b o e) :
    w.cell? ⟨b, o, none⟩ = some (.int .u8 e.op) ∧ w.cell? ⟨b, o + 1, none⟩ = some (.int .i64 e.col) ∧ w.cell? ⟨b, o + 2, none⟩ = some (.bool e.c.t) ∧
      w.cell? ⟨b, o + 3, none⟩ = some (.int .i64 e.c.n) ∧ w.cell? ⟨b, o + 4, none⟩ = some (.string e.c.s) ∧ w.cell? ⟨b, o + 5, none⟩ = some (.slice e.A e.kids.length e.cap) :=
  ⟨h 0 _ rfl, h 1 _ rfl, h 2 _ rfl, h 3 _ rfl, h 4 _ rfl, h 5 _ rfl⟩
/-- a row of expressions: where each lies -/
theorem lies_lx {w : World} {B : Nat} {A : Option Addr} {l : List Lx} (h : Lies 6 Lx.cells w B A l) (hp : 0 < l.length) :
    ∃ b o, A = some ⟨b, o, none⟩ ∧ b < B ∧ ∀ (i : Nat) (x : Lx), l[i]? = some x → LxAt w b (o + i * 6) x := by
  obtain ⟨b, o, e, hb, hc⟩ := h hp
  exact ⟨b, o, e, hb, fun i x hi j u hj => hc i x hi j u hj⟩
/-- block g turned into l; all else that was there is as it was -/
structure Upd (w w' : World) (g : Nat) (t : TypeId) (l : List Value) : Prop where
  own : Own w' g t l
  grow : w.grownBy w' (some g)
section
variable {w w' w'' : World} {g : Nat} {t : TypeId} {l l' : List Value}
theorem Upd.below (h : Upd w w' g t l) {B : Nat} (hB : B ≤ g) (hg : g ≤ w.heap.size) : Below B w w' :=
  ⟨h.grow.os, h.grow.tape, h.grow.output, h.grow.size, fun k hk => h.grow.block k (by omega) (by simp; omega)⟩
theorem Upd.other (h : Upd w w' g t l) {k : Nat} {t' : TypeId} {m : List Value} (hk : k ≠ g) (ho : Own w k t' m) : Own w' k t' m :=
  (h.grow.block k ho.inside (by simp; exact hk)).trans ho
theorem Upd.same (h : Own w g t l) : Upd w w g t l := ⟨h, ⟨rfl, rfl, rfl, Nat.le_refl _, fun _ _ _ => rfl⟩⟩
theorem Upd.trans (h : Upd w w' g t l) (k : Upd w' w'' g t l') : Upd w w'' g t l' :=
  ⟨k.own, ⟨k.grow.os.trans h.grow.os, k.grow.tape.trans h.grow.tape, k.grow.output.trans h.grow.output, Nat.le_trans h.grow.size k.grow.size,
    fun i hi hne => (k.grow.block i (Nat.lt_of_lt_of_le hi h.grow.size) hne).trans (h.grow.block i hi hne)⟩⟩
theorem Upd.set_ (h : Upd w w' g t l) (i : Nat) (u : Value) : Upd w (w'.setCell ⟨g, i, none⟩ u) g t (l.set i u) :=
  ⟨h.own.set_ i u, ⟨h.grow.os, h.grow.tape, h.grow.output, by simpa using h.grow.size, fun k hk hne => (Below.heap_setCell w' ⟨g, i, none⟩ u k (by simpa using hne)).trans (h.grow.block k hk hne)⟩⟩
theorem Upd.quiet (h : Upd w w' g t l) (hb : Below w'.heap.size w' w'') : Upd w w'' g t l :=
  ⟨h.own.past hb h.own.inside, ⟨hb.os.trans h.grow.os, hb.tape.trans h.grow.tape, hb.output.trans h.grow.output, Nat.le_trans h.grow.size hb.size,
    fun i hi hne => (hb.block i (Nat.lt_of_lt_of_le hi h.grow.size)).trans (h.grow.block i hi hne)⟩⟩
/-- turned only beyond what stood before: all as it was -/
theorem Upd.newer (h : Below w.heap.size w w') (k : Upd w' w'' g t l) (hg : w.heap.size ≤ g) (hi : g ≤ w'.heap.size) : Below w.heap.size w w'' :=
  h.trans (k.below hg hi)
theorem Upd.as (h : Upd w w' g t l) (e : l = l') : Upd w w' g t l' := e ▸ h
/-- first only what is newer than all turned, then block g -/
theorem Upd.after (hb : Below w.heap.size w w') (k : Upd w' w'' g t l) : Upd w w'' g t l :=
  ⟨k.own, ⟨k.grow.os.trans hb.os, k.grow.tape.trans hb.tape, k.grow.output.trans hb.output, Nat.le_trans hb.size k.grow.size,
    fun i hi hne => (k.grow.block i (Nat.lt_of_lt_of_le hi hb.size) hne).trans (hb.block i hi)⟩⟩
end
theorem ret_i64' {a b : Int} (h : a = b) : Value.int .i64 a = .int .i64 b := by rw [h]

set_option maxRecDepth 100000 in
set_option maxHeartbeats 800000 in
theorem fail_any (g : Nat) (t : TypeId) (u f : Int) (l : List Value) (w : World) (h : Own w g t (.int .i64 u :: l)) :
    Calls Try.prog 30 #[.pointer (some ⟨g, 0, none⟩), .int .i64 f] w fun e w' => e = .returned (.tuple #[]) ∧ Upd w w' g t (.int .i64 (fl u f) :: l) := by
  have c0 := h.at_ 0
  have f0 := h.open_ 0
  simp only [List.getElem?_cons_zero] at c0
  have HO := Lib.hid h
  clear h
  by_cases hu : u = 0
  · have t1 : (u == 0) = true := by simpa using hu
    have HU := Lib.hid hu
    clear hu
    go_enter Try.func30, Try.ntmps30
    go_wp2_with fail
    exact bodyPost_end (results_none rfl _ _ _) rfl ⟨rfl, ((Upd.same HO.out).set_ 0 _).as (by unfold fl; rw [if_pos HU.out]; rfl)⟩
  · have t1 : (u == 0) = false := by simpa using hu
    have HU := Lib.hid hu
    clear hu
    go_enter Try.func30, Try.ntmps30
    go_wp2_with fail
    exact bodyPost_end (results_none rfl _ _ _) rfl ⟨rfl, (Upd.same HO.out).as (by unfold fl; rw [if_neg HU.out])⟩
set_option maxRecDepth 100000 in
set_option maxHeartbeats 1600000 in
theorem kids_any (op : Int) (w : World) : Calls Try.prog 43 #[.int .u8 op] w fun e w' => e = .returned (.int .i64 (kidsOf op)) ∧ w = w' := by
  by_cases h1 : op = 1
  case pos => subst h1; go_enter Try.func43, Try.ntmps43; go_wp2_with fail; go_ret; exact ⟨rfl, rfl⟩
  by_cases h2 : op = 2
  case pos => subst h2; go_enter Try.func43, Try.ntmps43; go_wp2_with fail; go_ret; exact ⟨rfl, rfl⟩
  by_cases h3 : op = 6
  case pos => subst h3; go_enter Try.func43, Try.ntmps43; go_wp2_with fail; go_ret; exact ⟨rfl, rfl⟩
  by_cases h4 : op = 11
  case pos => subst h4; go_enter Try.func43, Try.ntmps43; go_wp2_with fail; go_ret; exact ⟨rfl, rfl⟩
  by_cases h5 : op = 3
  case pos => subst h5; go_enter Try.func43, Try.ntmps43; go_wp2_with fail; go_ret; exact ⟨rfl, rfl⟩
  by_cases h6 : op = 4
  case pos => subst h6; go_enter Try.func43, Try.ntmps43; go_wp2_with fail; go_ret; exact ⟨rfl, rfl⟩
  by_cases h7 : op = 5
  case pos => subst h7; go_enter Try.func43, Try.ntmps43; go_wp2_with fail; go_ret; exact ⟨rfl, rfl⟩
  by_cases h8 : op = 7
  case pos => subst h8; go_enter Try.func43, Try.ntmps43; go_wp2_with fail; go_ret; exact ⟨rfl, rfl⟩
  by_cases h9 : op = 8
  case pos => subst h9; go_enter Try.func43, Try.ntmps43; go_wp2_with fail; go_ret; exact ⟨rfl, rfl⟩
  by_cases h10 : op = 9
  case pos => subst h10; go_enter Try.func43, Try.ntmps43; go_wp2_with fail; go_ret; exact ⟨rfl, rfl⟩
  by_cases h11 : op = 10
  case pos => subst h11; go_enter Try.func43, Try.ntmps43; go_wp2_with fail; go_ret; exact ⟨rfl, rfl⟩
  by_cases h12 : op = 12
  case pos => subst h12; go_enter Try.func43, Try.ntmps43; go_wp2_with fail; go_ret; exact ⟨rfl, rfl⟩
  have hk : kidsOf op = -1 := by unfold kidsOf; repeat' split
                                 all_goals first | rfl | (exfalso; omega)
  rw [hk]
  clear hk
  go_enter Try.func43, Try.ntmps43
  go_wp2_with fail
  go_ret
  exact ⟨rfl, rfl⟩
end Go.Proofs.Ytjidjpmdmcleoaa
