/- Part 1 of the texts on which SpineHolds rests: facts and contracts. -/
import Derived.Test.YtenjlhlighkenaaGreatRows
import Derived.WalkKit
import Derived.ProofKit
import Derived.OpenShut
import Derived.JoinedCond
import Derived.Carry
import Derived.Lib.Hide
import Derived.Laws.IdiomStrings
import Derived.Maps.AppendAt
import Derived.Deep.QuietTactic
import Derived.Laws.OwnMore
import Derived.Deep.Draws
import Derived.Test.YtenjlhlighkenaaGreatProg
import Derived.ChangeArms
import Derived.Deep.Slices
import Derived.SizedLaws
import Derived.Lib.Bytealg
import Derived.Laws.CopyRow
import Derived.Laws.CopyOwn
import Derived.OwnWalk
import Derived.Lib.AppendZerosOnto
import Derived.Lib.Overlaps
import Derived.Laws.Externs
import Derived.Test.YtenjlhlighkenaaGreatShelf
import Derived.Outline
import Derived.WalkSpells
import Derived.WalkLawsBesides
import Derived.BigQuiet
import Derived.Laws.StructEq
import Derived.Deep.RegionHeld3
import Derived.Deep.DrawnRows
import Derived.StillTailTactics
import Derived.Handy
namespace Go.Proofs.YtenjlhlighkenaaGreat
open Go.ChangeShapes Go.WideShapes Go.ChangeAt Go.RowKit

theorem own : ownKnob Tryz.prog.godebug = none := by kernel_rfl
theorem laidOut : laidOutB Tryz.prog = true := by kernel_rfl

section
variable {H : Type} {enc : TypeId × Value → H} {P : Program}
theorem trodAll_later (hl : laidOutB P = true) {W W' : World} (hb : Below W.heap.size W W') :
    ∀ {ts : List TypeId} {vs : List Value} {ds : List (DataW H)} {ps : List MemPlace}, (∀ t ∈ ts, P.readableRec t = true ∧ t < P.types.size) → (∀ x ∈ ps, x.block < W.heap.size) →
      DataW.TrodAll enc P W 0 (fun _ => true) true ts vs ds ps → DataW.TrodAll enc P W' 0 (fun b => decide (b < W.heap.size)) true ts vs ds ps
  | [], _, _, _, _, _, h => by
    obtain ⟨rfl, rfl, rfl⟩ := trodAll_nil h
    exact trodAll_mk0
  | t :: ts, _, _, _, hr, hlt, h => by
    obtain ⟨v, vs, d, ds, a, b, rfl, rfl, rfl, h1, h2⟩ := trodAll_cons h
    have h3 := hr t (List.mem_cons_self ..)
    exact trodAll_cons_mk (Below.trod hl h3.1 h3.2 h1 hb (fun x hx => hlt x (List.mem_append_left _ hx)))
      (trodAll_later hl hb (fun t ht => hr t (List.mem_cons_of_mem _ ht)) (fun x hx => hlt x (List.mem_append_right _ hx)) h2)

theorem post_law {f : Func} {s : ChangeSpec} {fresh handsOn : Bool} {W W' : World} {args : Array Value} {ds gs : List (DataW H)} {before : List MemPlace}
    (hl : laidOutB P = true) (hr : ∀ t ∈ f.params.toList, P.readableRec t = true ∧ t < P.types.size) (hB : P.underlying 4 = some .bool) (hres : f.resultTypes = #[4]) (hv : s.vars = [])
    (hW : DataW.Whole enc P f.params.toList s.vars false W args.toList ds gs before) (hs : s.fn H (ds ++ gs) = { results := [.lit (.bool true)], args := ds }) (hb : Below W.heap.size W W') :
    s.post enc P f false fresh handsOn false W args (.bool true) W' := by
  have hlt : ∀ p ∈ before, p.block < W.heap.size := fun p hp => hW.lt p hp
  have hW0 := hW
  obtain ⟨p, q, hA, hV, rfl, hz, hn⟩ := hW
  rw [hv] at hV
  obtain ⟨rfl, rfl⟩ := trodVars_none hV
  simp only [List.append_nil] at hlt hW0
  refine ⟨ds, [], p, [], p, [], by simpa using hW0, ?_, ?_, ?_, World.keptBut_mono (fun x hx => ⟨hx, .inr (.inl hx)⟩) (hb.frame (· ∈ p)), fun h => by cases h⟩
  · rw [hs, hres]; exact trodAll_cons_mk (shut_bool hB true) trodAll_mk0
  · rw [hs]; exact trodAll_later hl hb hr hlt hA
  · rw [hs, hv]; exact hV
end

section
variable {H : Type} {enc : TypeId × Value → H} {P : Program} {W : World} {base : Nat}
theorem wf_u64 {n : Int} (h : (Lit.int .u64 n).wf = true) : 0 ≤ n ∧ n ≤ 18446744073709551615 := by simpa [Lit.wf, IntKind.min, IntKind.max, IntKind.signed, IntKind.bits] using h
theorem wf_i64 {n : Int} (h : (Lit.int .i64 n).wf = true) : -9223372036854775808 ≤ n ∧ n ≤ 9223372036854775807 := by simpa [Lit.wf, IntKind.min, IntKind.max, IntKind.signed, IntKind.bits] using h
end
end Go.Proofs.YtenjlhlighkenaaGreat
namespace Go.Proofs.YtenjlhlighkenaaGreat
open Go Go.RowKit

theorem wpList_push {P : Program} (w : World) {ops : Array Oper} {rest : List Oper} {o : Oper} {a : Act} {Q : Exit → Act → World → Prop} (hgd : o.guard = none) (s x : Operand) (t : TypeId)
    (ho : o.op = .call { callee := .builtin .append, args := #[s, x], argTypes := #[t, t] })
    (base : Nat) (e : TypeId) (i : TypeInfo) (z : Value) (size bytes : Nat) (ht : P.underlying t = some (.slice e)) (hi : P.info? e = some i) (hz : i.zero = some z)
    (hsize : i.size = size) (hby : i.bytes = bytes) (hzs : z.cells.size = size) (hsz : 0 < size)
    (v : Value) (n : Nat) (xs : List Value) (hs : a.eval s = v) (hown : w.ownsRow base e size v n xs)
    (news : Array Value) (hx : a.eval x = .slice (some ⟨w.heap.size, 0, none⟩) 1 1) (hl : news.size = size) (h1 : ∀ u ∈ news.toList, u.oneCell' = true)
    (h63 : n + 1 ≤ maxLen) (hbytes : (n + 1) * bytes ≤ 140737488355328) (hbase : base ≤ w.heap.size)
    (h : ∀ v' w', w'.ownsRow base e size v' (n + 1) (xs ++ news.toList) → Below base w w' → (v'.ownBlock = v.ownBlock ∨ v'.ownBlock = some (w.heap.size + 1)) → w.grownBy w' v.ownBlock → wpList P ops Q rest (a.put o.dst v') w') :
    wpList P ops Q (o :: rest) a (w.alloc (.cells news e)) := by
  have hc : ∀ j u, news.toList[j]? = some u → (w.alloc (.cells news e)).cell? ((⟨w.heap.size, 0, none⟩ : Addr).add j) = some u := by
    intro j u hu
    have : (⟨w.heap.size, 0, none⟩ : Addr).add j = ⟨w.heap.size, j, none⟩ := by unfold Addr.add; split <;> simp_all
    rw [this, World.cell?_alloc_at _ _ _ _ rfl]
    simpa using hu
  obtain ⟨v', w', hrun, ho', hg, _, hat⟩ := run_append_own_at (P := P) (w.alloc (.cells news e)) base t o.type e i z size bytes ht hi hz hsize hby hzs hsz v n xs (hown.alloc _)
    ⟨w.heap.size, 0, none⟩ 1 1 news.toList (by simpa using hl) hc h1 h63 hbytes (by simp; omega)
  refine wpList_plain hgd fun K hK => ?_
  unfold Oper.wp execOp
  simp only [ho, resolve, invoke, builtin, Sem.run_bind, Sem.run_pure, Result.andThen_ok, List.map_toArray, List.map_cons, List.map_nil, hs, hx, hrun]
  have hg2 : w.grownBy w' v.ownBlock := ⟨hg.os, hg.tape, hg.output, Nat.le_trans (by simp) hg.size, fun k hk hne => (hg.block k (by simp; omega) hne).trans (Below.heap_alloc w _ k hk)⟩
  exact hK _ _ (h v' w' ho' ((Below.refl base w).grown hg2 hbase (fun k hk => (hown.lt k hk).1)) (by simpa using hat) hg2)

def cellB (b : UInt8) : Value := .int .u8 (b.toNat : Int)
theorem belows {a b c : World} (h : Below a.heap.size a b) (k : Below b.heap.size b c) : Below a.heap.size a c := h.trans (k.mono h.size)
theorem own_below {w w' : World} {base : Nat} {e : TypeId} {size : Nat} {v : Value} {n : Nat} {xs : List Value} (h : w.ownsRow base e size v n xs) (hb : Below w.heap.size w w') : w'.ownsRow base e size v n xs :=
  h.kept (row := none) ⟨hb.os, hb.tape, hb.output, hb.size, fun k hk _ => hb.block k hk⟩ (by cases v.ownBlock <;> simp)
theorem below_then {B : Nat} {a b c : World} (h : Below B a b) (hB : B ≤ a.heap.size) (k : Below b.heap.size b c) : Below B a c := h.trans (k.mono (Nat.le_trans hB h.size))
theorem below_draws {B : Nat} {a w : World} (h : Below B a w) (n : Nat) : Below B a (w.drewN n) := ⟨h.os, h.tape, h.output, h.size, h.block⟩
end Go.Proofs.YtenjlhlighkenaaGreat
namespace Go.Proofs.YtenjlhlighkenaaGreat
open Go Go.RowKit

structure Tm where
  e : Nat
  a : Nat
  b : Nat
  deriving DecidableEq, Inhabited

namespace Tm
def cells (t : Tm) : List Value := [.int .u64 (t.e : Int), .int .u64 (t.a : Int), .int .u64 (t.b : Int)]
def val (t : Tm) : Value := .agg #[.int .u64 (t.e : Int), .int .u64 (t.a : Int), .int .u64 (t.b : Int)]
def le (s t : Tm) : Bool := decide (s.e ≤ t.e) && (decide (s.a ≤ t.a) && decide (s.b ≤ t.b))
def cmpN (x y : Nat) : Int := if x < y then -1 else if y < x then 1 else 0
def cmp (s t : Tm) : Int := if s.e ≠ t.e then cmpN s.e t.e else if s.a ≠ t.a then cmpN s.a t.a else cmpN s.b t.b
def sup (s t : Tm) : Tm := ⟨max s.e t.e, max s.a t.a, max s.b t.b⟩
def inf (s t : Tm) : Tm := ⟨min s.e t.e, min s.a t.a, min s.b t.b⟩
theorem le_iff {s t : Tm} : s.le t = true ↔ s.e ≤ t.e ∧ s.a ≤ t.a ∧ s.b ≤ t.b := by simp [le]
end Tm
end Go.Proofs.YtenjlhlighkenaaGreat
namespace Go.Proofs.YtenjlhlighkenaaGreat
open Go Go.RowKit

theorem ret_bool {a b : Bool} (h : a = b) : Ending.returned (.bool a) = .returned (.bool b) := by rw [h]
theorem ret_i64 {a b : Int} (h : a = b) : Ending.returned (.int .i64 a) = .returned (.int .i64 b) := by rw [h]
theorem ret_u64 {a b : Int} (h : a = b) : Ending.returned (.int .u64 a) = .returned (.int .u64 b) := by rw [h]
theorem olds {W w1 : World} (h : Below W.heap.size W w1) : (∀ b o, b < W.heap.size → w1.cell? ⟨b, o, none⟩ = W.cell? ⟨b, o, none⟩) ∧ (∀ b o, b < W.heap.size → w1.frozen? ⟨b, o, none⟩ = W.frozen? ⟨b, o, none⟩) :=
  ⟨fun b o hb => h.cell (p := ⟨b, o, none⟩) hb, fun b o hb => h.frozen (p := ⟨b, o, none⟩) hb⟩
def Own (w : World) (g : Nat) (t : TypeId) (l : List Value) : Prop := w.heap[g]? = some (.cells l.toArray t (0, 0))
section
variable {w w' : World} {g : Nat} {t : TypeId} {l : List Value}
theorem Own.inside (h : Own w g t l) : g < w.heap.size := by
  unfold Own at h
  exact (Array.getElem?_eq_some_iff.1 h).1
theorem Own.at_ (h : Own w g t l) (i : Nat) : w.cell? ⟨g, i, none⟩ = l[i]? := by
  unfold Own at h
  simp [World.cell?, h]
theorem Own.open_ (h : Own w g t l) (i : Nat) : w.frozen? ⟨g, i, none⟩ = false := by
  unfold Own at h
  simp [World.frozen?, h]
theorem Own.made (w : World) (t : TypeId) (l : List Value) : Own (w.alloc (.cells l.toArray t)) w.heap.size t l := heap_alloc_new w _
theorem Own.draws (h : Own w g t l) (n : Nat) : Own (w.drewN n) g t l := h
theorem Own.more (h : Own w g t l) (o : Obj) : Own (w.alloc o) g t l := (Below.heap_alloc w o g h.inside).trans h
theorem Own.set_ (h : Own w g t l) (i : Nat) (u : Value) : Own (w.setCell ⟨g, i, none⟩ u) g t (l.set i u) := by
  unfold Own at h ⊢
  have : (l.set i u).toArray = l.toArray.setIfInBounds i u := by apply Array.ext'; simp
  rw [this]
  simp [World.setCell, Array.getElem?_modify, h]
theorem Own.other (h : Own w g t l) {p : Addr} (hp : p.block ≠ g) (u : Value) : Own (w.setCell p u) g t l := (Below.heap_setCell w p u g (Ne.symm hp)).trans h
theorem Own.past {B : Nat} (h : Own w g t l) (hb : Below B w w') (hg : g < B) : Own w' g t l := (hb.block g hg).trans h
theorem own_of {l' : List Value} (h : Own w g t l) (e : l = l') : Own w g t l' := e ▸ h
theorem Own.stored3 {a b c : Value} (h : Own w g t [a, b, c]) (x y z : Value) :
    (w.setCell ⟨g, 0, none⟩ x).cell? ⟨g, 0, none⟩ = some x ∧ ((w.setCell ⟨g, 0, none⟩ x).setCell ⟨g, 1, none⟩ y).cell? ⟨g, 1, none⟩ = some y ∧
      (((w.setCell ⟨g, 0, none⟩ x).setCell ⟨g, 1, none⟩ y).setCell ⟨g, 2, none⟩ z).cell? ⟨g, 2, none⟩ = some z :=
  ⟨(h.set_ 0 x).at_ 0, ((h.set_ 0 x).set_ 1 y).at_ 1, (((h.set_ 0 x).set_ 1 y).set_ 2 z).at_ 2⟩
theorem below_set3 {B : Nat} {u : World} (h : Below B u w) (hg : B ≤ g) (x y z : Value) : Below B u (((w.setCell ⟨g, 0, none⟩ x).setCell ⟨g, 1, none⟩ y).setCell ⟨g, 2, none⟩ z) :=
  ((h.setCell (p := ⟨g, 0, none⟩) hg _).setCell (p := ⟨g, 1, none⟩) hg _).setCell (p := ⟨g, 2, none⟩) hg _
end
end Go.Proofs.YtenjlhlighkenaaGreat
namespace Go.Proofs.YtenjlhlighkenaaGreat
open Go Go.RowKit

def TmAt (w : World) (b o : Nat) (t : Tm) : Prop :=
  w.cell? ⟨b, o, none⟩ = some (.int .u64 (t.e : Int)) ∧ w.cell? ⟨b, o + 1, none⟩ = some (.int .u64 (t.a : Int)) ∧ w.cell? ⟨b, o + 2, none⟩ = some (.int .u64 (t.b : Int))
def Times (w : World) (B : Nat) (A : Option Addr) (l : List Tm) : Prop :=
  0 < l.length → ∃ b o, A = some ⟨b, o, none⟩ ∧ b < B ∧ ∀ (i : Nat) (t : Tm), l[i]? = some t → TmAt w b (o + i * 3) t
section
variable {w w' : World} {B B' b o : Nat} {A : Option Addr} {l : List Tm} {t : Tm}
theorem TmAt.past (h : TmAt w b o t) (hb : Below B w w') (hB : b < B) : TmAt w' b o t :=
  ⟨(hb.cell (p := ⟨b, o, none⟩) hB).trans h.1, (hb.cell (p := ⟨b, o + 1, none⟩) hB).trans h.2.1, (hb.cell (p := ⟨b, o + 2, none⟩) hB).trans h.2.2⟩
theorem Times.past (h : Times w B A l) (hb : Below B' w w') (hB : B ≤ B') : Times w' B A l := fun hn => by
  obtain ⟨b, o, e, hlt, hc⟩ := h hn
  exact ⟨b, o, e, hlt, fun i t hi => (hc i t hi).past hb (by omega)⟩
theorem Times.wide (h : Times w B A l) (hB : B ≤ B') : Times w B' A l := fun hn => by
  obtain ⟨b, o, e, hlt, hc⟩ := h hn
  exact ⟨b, o, e, by omega, hc⟩
theorem Times.nil_ : Times w B A [] := fun h => absurd h (by simp)
end
end Go.Proofs.YtenjlhlighkenaaGreat
namespace Go.Proofs.YtenjlhlighkenaaGreat
open Go Go.RowKit Go.ChangeShapes Go.WideShapes Go.ChangeAt Go.Deep

set_option maxRecDepth 100000
section
variable {H : Type} {enc : TypeId × Value → H} {w : World} {base : Nat} {spare : Nat → Bool} {held : Bool}
theorem wf_nat {n : Int} (h : (Lit.int .u64 n).wf = true) : ∃ m : Nat, n = (m : Int) := by
  have h2 : 0 ≤ n := by
    have : 0 ≤ n ∧ n ≤ 18446744073709551615 := by simpa [Lit.wf, IntKind.min, IntKind.max, IntKind.signed, IntKind.bits] using h
    exact this.1
  exact ⟨n.toNat, (Int.toNat_of_nonneg h2).symm⟩
theorem trod_time {fuel : Nat} {cs : List Value} {x : DataW H × List MemPlace} (h : DataW.trod enc Tryz.prog w base spare held fuel 26 cs = some x) : ∃ t : Tm, cs = t.cells := by
  obtain ⟨xs, n, _, _, hlen, hxs, hf⟩ := DataW.trod_struct Tryz.underlying26 h
  have hc : Tryz.prog.cellsOf 26 = 3 := by kernel_rfl
  have hc1 : Tryz.prog.cellsOf 23 = 1 := by kernel_rfl
  have hc2 : Tryz.prog.cellsOf 24 = 2 := by kernel_rfl
  rw [hc] at hlen
  match cs, hlen with
  | [c0, c1, c2], _ =>
    have h0 := hf 0 _ rfl
    have h1 := hf 1 _ rfl
    match xs, hxs with
    | [y0, y1], _ =>
      simp only [hc1, hc2, List.drop_zero, List.take_succ_cons, List.take_zero, List.drop_succ_cons, List.getElem?_cons_zero, List.getElem?_cons_succ] at h0 h1
      obtain ⟨n0, e0, _, w0⟩ := DataW.trod_int Tryz.underlying23 h0
      obtain ⟨zs, m, _, _, _, hzs, hg⟩ := DataW.trod_array Tryz.underlying24 h1
      match zs, hzs with
      | [z0, z1], _ =>
        have k0 := hg 0 (by omega)
        have k1 := hg 1 (by omega)
        simp only [hc1, Nat.zero_mul, Nat.one_mul, List.drop_zero, List.take_succ_cons, List.take_zero, List.drop_succ_cons, List.getElem?_cons_zero, List.getElem?_cons_succ] at k0 k1
        obtain ⟨n1, e1, _, w1⟩ := DataW.trod_int Tryz.underlying23 k0
        obtain ⟨n2, e2, _, w2⟩ := DataW.trod_int Tryz.underlying23 k1
        obtain ⟨m0, rfl⟩ := wf_nat w0
        obtain ⟨m1, rfl⟩ := wf_nat w1
        obtain ⟨m2, rfl⟩ := wf_nat w2
        obtain rfl := (List.cons.inj e0).1
        obtain rfl := (List.cons.inj e1).1
        obtain rfl := (List.cons.inj e2).1
        exact ⟨⟨m0, m1, m2⟩, rfl⟩
theorem open_time {r : Reach} {b0 : Nat} {v : Value} {d : DataW H} {p : List MemPlace} (hv : Value.okWide Tryz.prog w r b0 26 v) (h : DataW.Trod enc Tryz.prog w base spare held 26 v d p) : ∃ t : Tm, v = t.val := by
  obtain ⟨cs, rfl, hsz⟩ := okWide_struct Tryz.underlying26 hv
  obtain ⟨fuel, hf⟩ := h
  obtain ⟨t, ht⟩ := trod_time hf
  refine ⟨t, ?_⟩
  obtain ⟨l⟩ := cs
  simp only [Value.cells] at ht
  unfold Tm.val
  rw [show l = t.cells from by simpa using ht]
  rfl
end
end Go.Proofs.YtenjlhlighkenaaGreat
namespace Go.Proofs.YtenjlhlighkenaaGreat
open Go Go.RowKit

structure Fl where
  n : ByteArray
  d : ByteArray
instance : Inhabited Fl := ⟨⟨⟨#[]⟩, ⟨#[]⟩⟩⟩
def cmpN (a b : ByteArray) : Int := Lib.compareBytes a.data.toList b.data.toList
def SortedN (ns : List ByteArray) : Prop := ns.Pairwise (fun a b => cmpN a b < 0)
def posN (ns : List ByteArray) (n : ByteArray) : Nat := ns.countP (fun x => decide (cmpN x n < 0))
def hasN (ns : List ByteArray) (n : ByteArray) : Bool := ns.any (fun x => decide (x = n))
def namesF (l : List Fl) : List ByteArray := l.map Fl.n
def SortedF (l : List Fl) : Prop := SortedN (namesF l)
def posF (l : List Fl) (n : ByteArray) : Nat := posN (namesF l) n
def hasF (l : List Fl) (n : ByteArray) : Bool := hasN (namesF l) n
def putF (l : List Fl) (f : Fl) : List Fl := l.take (posF l f.n) ++ f :: l.drop (posF l f.n)
def takeF (l : List Fl) (n : ByteArray) : List Fl := if hasF l n then l.take (posF l n) ++ l.drop (posF l n + 1) else l
def oldF (l : List Fl) (n : ByteArray) : Fl := (l[posF l n]?).getD ⟨n, ⟨#[]⟩⟩
def extF (l : List Fl) (n d : ByteArray) : List Fl := if hasF l n then l.set (posF l n) ⟨n, (oldF l n).d ++ d⟩ else putF l ⟨n, ⟨#[]⟩ ++ d⟩
def renF (l : List Fl) (n t : ByteArray) : List Fl := if hasF l n then putF (takeF (takeF l n) t) ⟨t, (oldF l n).d⟩ else l
def getF (l : List Fl) (n : ByteArray) : Option ByteArray := (l.find? (fun f => decide (f.n = n))).map Fl.d
def szF (l : List Fl) : Nat := (l.map (fun f => f.d.size)).sum
structure Wr where
  k : Int
  n : ByteArray
  t : ByteArray
  d : ByteArray
instance : Inhabited Wr := ⟨⟨0, ⟨#[]⟩, ⟨#[]⟩, ⟨#[]⟩⟩⟩
def appF (l : List Fl) (w : Wr) : List Fl := if w.k = 1 then extF l w.n w.d else if w.k = 2 then renF l w.n w.t else if w.k = 3 then takeF l w.n else l
def baseF (fs : List Fl) : List Fl := fs.foldl (fun l f => extF l f.n f.d) []
def lookF (fs : List Fl) (ws : List Wr) : List Fl := ws.foldl appF (baseF fs)
end Go.Proofs.YtenjlhlighkenaaGreat
namespace Go.Proofs.YtenjlhlighkenaaGreat
open Go Go.RowKit

def Lies {α : Type} (size : Nat) (cells : α → List Value) (w : World) (B : Nat) (A : Option Addr) (l : List α) : Prop :=
  0 < l.length → ∃ b o, A = some ⟨b, o, none⟩ ∧ b < B ∧ ∀ (i : Nat) (x : α), l[i]? = some x → ∀ (j : Nat) (u : Value), (cells x)[j]? = some u → w.cell? ⟨b, o + i * size + j, none⟩ = some u
section
variable {α : Type} {size : Nat} {cells : α → List Value} {w w' : World} {B B' : Nat} {A : Option Addr} {l : List α}
theorem Lies.past (h : Lies size cells w B A l) (hb : Below B' w w') (hB : B ≤ B') : Lies size cells w' B A l := fun hn => by
  obtain ⟨b, o, e, hlt, hc⟩ := h hn
  exact ⟨b, o, e, hlt, fun i x hi j u hj => (hb.cell (p := ⟨b, o + i * size + j, none⟩) (show b < B' by omega)).trans (hc i x hi j u hj)⟩
theorem Lies.wide (h : Lies size cells w B A l) (hB : B ≤ B') : Lies size cells w B' A l := fun hn => by
  obtain ⟨b, o, e, hlt, hc⟩ := h hn
  exact ⟨b, o, e, by omega, hc⟩
theorem Lies.nil_ : Lies size cells w B A [] := fun h => absurd h (by simp)
theorem flat_size (hcl : ∀ x, (cells x).length = size) (l : List α) : (l.flatMap cells).length = l.length * size := by
  induction l with
  | nil => simp
  | cons x l ih => rw [List.flatMap_cons, List.length_append, ih, List.length_cons, hcl, Nat.add_mul]; omega
theorem flat_of (hcl : ∀ x, (cells x).length = size) : ∀ (l : List α) (i r : Nat) (x : α) (u : Value), l[i]? = some x → (cells x)[r]? = some u → (l.flatMap cells)[i * size + r]? = some u
  | [], i, r, x, u, h, _ => by simp at h
  | y :: l, 0, r, x, u, h, hu => by
    obtain rfl : y = x := by simpa using h
    have hr : r < (cells y).length := (List.getElem?_eq_some_iff.1 hu).1
    rw [List.flatMap_cons, Nat.zero_mul, Nat.zero_add, List.getElem?_append_left hr, hu]
  | y :: l, i + 1, r, x, u, h, hu => by
    have ih := flat_of hcl l i r x u (by simpa using h) hu
    rw [List.flatMap_cons, List.getElem?_append_right (by rw [hcl, Nat.add_mul]; omega), hcl, show (i + 1) * size + r - size = i * size + r by rw [Nat.add_mul]; omega]
    exact ih
theorem flat_back (hpos : 0 < size) (hcl : ∀ x, (cells x).length = size) (l : List α) (j : Nat) (u : Value) (h : (l.flatMap cells)[j]? = some u) : ∃ i r x, j = i * size + r ∧ l[i]? = some x ∧ (cells x)[r]? = some u := by
  have hj : j < l.length * size := by have := (List.getElem?_eq_some_iff.1 h).1; rwa [flat_size hcl] at this
  have hi : j / size < l.length := (Nat.div_lt_iff_lt_mul hpos).2 hj
  have hr : j % size < size := Nat.mod_lt _ hpos
  have hd : j = j / size * size + j % size := by rw [Nat.mul_comm]; exact (Nat.div_add_mod j size).symm
  have hc : j % size < (cells l[j / size]).length := by rw [hcl]; exact hr
  refine ⟨j / size, j % size, l[j / size], hd, List.getElem?_eq_getElem hi, ?_⟩
  have := flat_of hcl l (j / size) (j % size) l[j / size] _ (List.getElem?_eq_getElem hi) (List.getElem?_eq_getElem hc)
  rw [← hd, h] at this
  rw [List.getElem?_eq_getElem hc]
  exact this.symm
theorem lies_of_own {base n : Nat} {e : TypeId} {v : Value} (hpos : 0 < size) (hcl : ∀ x, (cells x).length = size) (hn : n = l.length) (h : w.ownsRow base e size v n (l.flatMap cells)) :
    ∃ A c, v = .slice A l.length c ∧ l.length ≤ c ∧ c ≤ maxLen ∧ Lies size cells w w.heap.size A l := by
  subst hn
  rcases h.2 with ⟨rfl, h0⟩ | ⟨g, cap, cur, rfl, hb, hg, h1, h2, h3, h4⟩
  · exact ⟨none, 0, by rw [h0], by omega, by omega, fun h => by omega⟩
  · refine ⟨_, cap, rfl, h1, h2, fun _ => ⟨g, 0, rfl, (Array.getElem?_eq_some_iff.1 hg).1, fun i x hi j u hj => ?_⟩⟩
    have hf := flat_of hcl l i j x u hi hj
    have hlt : i * size + j < l.length * size := by have := (List.getElem?_eq_some_iff.1 hf).1; rwa [flat_size hcl] at this
    rw [Nat.zero_add, h.cellAt _ hlt]
    exact hf
theorem run_append_none {P : Program} (w : World) (base : Nat) (t ty e : TypeId) (i : TypeInfo) (size : Nat) (ht : P.underlying t = some (.slice e)) (hi : P.info? e = some i) (v : Value) (n : Nat) (xs : List Value) (h : w.ownsRow base e size v n xs) (c : Nat) :
    (Builtin.append_ #[t, t] ty #[v, .slice none 0 c]).run P w = .ok v w := by
  rcases h.2 with ⟨rfl, _⟩ | ⟨g, cap, cur, rfl, _, _, hnc, _⟩
  · simp [Builtin.append_, run_underlying ht, typeInfo, hi, sizeOf, Builtin.firstCells, Builtin.lenOf]
  · simp [Builtin.append_, run_underlying ht, typeInfo, hi, sizeOf, Builtin.firstCells, Builtin.lenOf, storeCells, hnc]
theorem wpList_append_lies {P : Program} (w : World) {ops : Array Oper} {rest : List Oper} {o : Oper} {a : Act} {Q : Exit → Act → World → Prop} (hgd : o.guard = none) (s x : Operand) (t e : TypeId)
    (ho : o.op = .call { callee := .builtin .append, args := #[s, x], argTypes := #[t, t] })
    (i0 : TypeInfo) (z : Value) (bytes : Nat) (ht : P.underlying t = some (.slice e)) (hi : P.info? e = some i0) (hz0 : i0.zero = some z) (hz1 : i0.size = size) (hz2 : i0.bytes = bytes) (hzs : z.cells.size = size) (hpos : 0 < size) (hcl : ∀ x, (cells x).length = size) (hone : ∀ x, ∀ u ∈ cells x, u.oneCell' = true)
    (base : Nat) (v : Value) (n : Nat) (xs : List Value) (hs : a.eval s = v) (hown : w.ownsRow base e size v n xs)
    (c : Nat) (hx : a.eval x = .slice A l.length c) (hl : Lies size cells w B A l) (h63 : n + l.length ≤ maxLen) (hn : (n + l.length) * bytes ≤ 140737488355328) (hbase : base ≤ w.heap.size)
    (h : ∀ v' w', w'.ownsRow base e size v' (n + l.length) (xs ++ l.flatMap cells) → Below base w w' → wpList P ops Q rest (a.put o.dst v') w') :
    wpList P ops Q (o :: rest) a w := by
  refine wpList_plain hgd fun K hK => ?_
  obtain ⟨v', w', hrun, ho', hb⟩ : ∃ v' w', (Builtin.append_ #[t, t] o.type #[v, .slice A l.length c]).run P w = .ok v' w' ∧ w'.ownsRow base e size v' (n + l.length) (xs ++ l.flatMap cells) ∧ Below base w w' := by
    cases A with
    | none =>
      have h0 : l = [] := by
        cases l with
        | nil => rfl
        | cons x l => obtain ⟨_, _, e, _⟩ := hl (by simp); cases e
      subst h0
      exact ⟨v, w, run_append_none w base _ _ _ i0 size ht hi v n xs hown c, by simpa using hown, Below.refl _ _⟩
    | some ad =>
      have hnews : ∀ j u, (l.flatMap cells)[j]? = some u → w.cell? (ad.add j) = some u := by
        intro j u hu
        obtain ⟨i, r, y, rfl, hi, hr⟩ := flat_back hpos hcl l j u hu
        have hp : 0 < l.length := by have := (List.getElem?_eq_some_iff.1 hi).1; omega
        obtain ⟨b, o, e, _, hc⟩ := hl hp
        obtain rfl : ad = ⟨b, o, none⟩ := by injection e
        have ea : (⟨b, o, none⟩ : Addr).add (i * size + r) = ⟨b, o + i * size + r, none⟩ := by unfold Addr.add; split <;> simp_all <;> omega
        rw [ea]
        exact hc i y hi r u hr
      obtain ⟨v', w', hr, h2, h3, _, _⟩ := run_append_own_at (P := P) w base t o.type e i0 _ size bytes ht hi hz0 hz1 hz2 hzs hpos v n xs hown ad l.length c (l.flatMap cells) (flat_size hcl l) hnews
        (fun u hu => by obtain ⟨y, _, hy⟩ := List.mem_flatMap.1 hu; exact hone y u hy) h63 hn hbase
      exact ⟨v', w', hr, h2, (Below.refl base w).grown h3 hbase (fun k hk => (hown.lt k hk).1)⟩
  unfold Oper.wp execOp
  simp only [ho, resolve, invoke, builtin, Sem.run_bind, Sem.run_pure, Result.andThen_ok, List.map_toArray, List.map_cons, List.map_nil, hs, hx, hrun]
  exact hK _ _ (h v' w' ho' hb)
theorem step_append_lies {P : Program} (w : World) {ops : Array Oper} {o : Oper} {a : Act} {K : Act → World → Prop} {Q : Exit → Act → World → Prop} {E : Prop} (hgd : o.guard = none) (s x : Operand) (t e : TypeId)
    (ho : o.op = .call { callee := .builtin .append, args := #[s, x], argTypes := #[t, t] })
    (i0 : TypeInfo) (z : Value) (bytes : Nat) (ht : P.underlying t = some (.slice e)) (hi : P.info? e = some i0) (hz0 : i0.zero = some z) (hz1 : i0.size = size) (hz2 : i0.bytes = bytes) (hzs : z.cells.size = size) (hpos : 0 < size) (hcl : ∀ x, (cells x).length = size) (hone : ∀ x, ∀ u ∈ cells x, u.oneCell' = true)
    (base : Nat) (v : Value) (n : Nat) (xs : List Value) (hs : a.eval s = v) (hown : w.ownsRow base e size v n xs)
    (c : Nat) (b off : Nat) (hx : a.eval x = .slice (some ⟨b, off, none⟩) l.length c) (hl : Lies size cells w B (some ⟨b, off, none⟩) l) (h63 : n + l.length ≤ maxLen) (hn : (n + l.length) * bytes ≤ 140737488355328) (hbase : base ≤ w.heap.size)
    (h : ∀ v' w', w'.ownsRow base e size v' (n + l.length) (xs ++ l.flatMap cells) → Below base w w' → (v'.ownBlock = v.ownBlock ∨ v'.ownBlock = some w.heap.size) → w.grownBy w' v.ownBlock → K (a.put o.dst v') w') :
    if Region.wanted o (yielded ops a.tmps) = true then Oper.wp P o a w K Q else E := by
  have hw : Region.wanted o (yielded ops a.tmps) = true := by simp [Region.wanted, hgd]
  rw [if_pos hw]
  have hnews : ∀ j u, (l.flatMap cells)[j]? = some u → w.cell? ((⟨b, off, none⟩ : Addr).add j) = some u := by
    intro j u hu
    obtain ⟨i, r, y, rfl, hi, hr⟩ := flat_back hpos hcl l j u hu
    have hp : 0 < l.length := by have := (List.getElem?_eq_some_iff.1 hi).1; omega
    obtain ⟨b', o', e, _, hc⟩ := hl hp
    simp only [Option.some.injEq, Addr.mk.injEq, and_true] at e
    obtain ⟨rfl, rfl⟩ := e
    have ea : (⟨b, off, none⟩ : Addr).add (i * size + r) = ⟨b, off + i * size + r, none⟩ := by unfold Addr.add; split <;> simp_all <;> omega
    rw [ea]
    exact hc i y hi r u hr
  obtain ⟨v', w', hrun, h2, h3, _, h5⟩ := run_append_own_at (P := P) w base t o.type e i0 _ size bytes ht hi hz0 hz1 hz2 hzs hpos v n xs hown ⟨b, off, none⟩ l.length c (l.flatMap cells) (flat_size hcl l) hnews
    (fun u hu => by obtain ⟨y, _, hy⟩ := List.mem_flatMap.1 hu; exact hone y u hy) h63 hn hbase
  unfold Oper.wp execOp
  simp only [ho, resolve, invoke, builtin, Sem.run_bind, Sem.run_pure, Result.andThen_ok, List.map_toArray, List.map_cons, List.map_nil, hs, hx, hrun]
  exact h v' w' h2 ((Below.refl base w).grown h3 hbase (fun k hk => (hown.lt k hk).1)) h5 h3
end
end Go.Proofs.YtenjlhlighkenaaGreat
namespace Go.Proofs.YtenjlhlighkenaaGreat
open Go Go.RowKit

def splice (l : List Value) (o : Nat) (vs : List Value) : List Value := l.take o ++ vs ++ l.drop (o + vs.length)
theorem splice_len {l : List Value} {o : Nat} {vs : List Value} (h : o + vs.length ≤ l.length) : (splice l o vs).length = l.length := by
  unfold splice; simp; omega
theorem own_rowK {w : World} {g : Nat} {t : TypeId} {cur cs : List Value} (h : Own w g t cur) : Own (w.setRow g cs.toArray) g t cs := by
  unfold Own at *
  simp [World.setRow, Array.getElem?_modify, h]
theorem row_other {w : World} {g k : Nat} {cs : Array Value} (h : k ≠ g) : (w.setRow g cs).heap[k]? = w.heap[k]? := setRow_other w g k cs h
structure KeptK (w w' : World) (S : Nat → Prop) : Prop where
  os : w'.os = w.os
  tape : w'.tape = w.tape
  output : w'.output = w.output
  size : w.heap.size ≤ w'.heap.size
  block : ∀ k, k < w.heap.size → ¬ S k → w'.heap[k]? = w.heap[k]?
section
variable {w w' w'' : World} {S T : Nat → Prop}
theorem KeptK.refl (w : World) (S : Nat → Prop) : KeptK w w S := ⟨rfl, rfl, rfl, Nat.le_refl _, fun _ _ _ => rfl⟩
theorem KeptK.trans (h : KeptK w w' S) (k : KeptK w' w'' T) (hs : ∀ b, b < w.heap.size → T b → S b) : KeptK w w'' S :=
  ⟨k.os.trans h.os, k.tape.trans h.tape, k.output.trans h.output, Nat.le_trans h.size k.size,
    fun b hb hn => (k.block b (Nat.lt_of_lt_of_le hb h.size) (fun ht => hn (hs b hb ht))).trans (h.block b hb hn)⟩
theorem KeptK.more (h : KeptK w w' S) (hs : ∀ b, S b → T b) : KeptK w w' T := ⟨h.os, h.tape, h.output, h.size, fun b hb hn => h.block b hb (fun x => hn (hs b x))⟩
theorem KeptK.of_below {B : Nat} (h : Below B w w') (hB : w.heap.size ≤ B) (S : Nat → Prop) : KeptK w w' S := ⟨h.os, h.tape, h.output, h.size, fun b hb _ => h.block b (by omega)⟩
theorem KeptK.of_grown {o : Option Nat} (h : w.grownBy w' o) (hs : ∀ b, o = some b → S b) : KeptK w w' S :=
  ⟨h.os, h.tape, h.output, h.size, fun b hb hn => h.block b hb (fun e => hn (hs b e.symm))⟩
theorem KeptK.below {B : Nat} (h : KeptK w w' S) (hB : ∀ b, S b → B ≤ b) (hs : B ≤ w.heap.size) : Below B w w' := ⟨h.os, h.tape, h.output, h.size, fun b hb => h.block b (by omega) (fun x => by have := hB b x; omega)⟩
theorem KeptK.row {base : Nat} {e : TypeId} {size : Nat} {v : Value} {n : Nat} {xs : List Value} (h : KeptK w w' S) (ho : w.ownsRow base e size v n xs) (hn : ∀ k, v.ownBlock = some k → ¬ S k) : w'.ownsRow base e size v n xs := by
  refine ⟨ho.1, ?_⟩
  rcases ho.2 with h0 | ⟨g, cap, cur, rfl, hb, hg, rest⟩
  · exact .inl h0
  · refine .inr ⟨g, cap, cur, rfl, hb, ?_, rest⟩
    rw [h.block g (Array.getElem?_eq_some_iff.1 hg).1 (hn g rfl)]
    exact hg
theorem KeptK.own {g : Nat} {t : TypeId} {l : List Value} (h : KeptK w w' S) (ho : Own w g t l) (hn : ¬ S g) : Own w' g t l := (h.block g ho.inside hn).trans ho
theorem KeptK.set_ (h : KeptK w w' S) {g o : Nat} (hg : S g ∨ w.heap.size ≤ g) (u : Value) : KeptK w (w'.setCell ⟨g, o, none⟩ u) S :=
  ⟨h.os, h.tape, h.output, by simpa using h.size, fun b hb hn => (Below.heap_setCell w' ⟨g, o, none⟩ u b (by intro e; dsimp only at e; subst e; rcases hg with h1 | h1; exact hn h1; omega)).trans (h.block b hb hn)⟩
theorem KeptK.alloc (h : KeptK w w' S) (o : Obj) : KeptK w (w'.alloc o) S := ⟨h.os, h.tape, h.output, Nat.le_trans h.size (by simp), fun b hb hn => (Below.heap_alloc w' o b (Nat.lt_of_lt_of_le hb h.size)).trans (h.block b hb hn)⟩
theorem KeptK.drew (h : KeptK w w' S) : KeptK w w'.drew S := ⟨h.os, h.tape, h.output, h.size, h.block⟩
end
theorem row_ownK {w : World} {base c n size : Nat} {e : TypeId} {A : Option Addr} {xs : List Value} (h : w.ownsRow base e size (.slice A n c) n xs) :
    (A = none ∧ n = 0 ∧ c = 0 ∧ xs = []) ∨ ∃ g cur, A = some ⟨g, 0, none⟩ ∧ base ≤ g ∧ Own w g e cur ∧ n ≤ c ∧ c ≤ maxLen ∧ cur.length = c * size ∧ cur.take (n * size) = xs := by
  rcases h.2 with ⟨h0, h1⟩ | ⟨g, cap, cur, hv, hb, hg, h1, h2, h3, h4⟩
  · simp only [Value.slice.injEq] at h0
    refine .inl ⟨h0.1, h1, h0.2.2, ?_⟩
    have := h.1
    rw [h1] at this
    exact List.length_eq_zero_iff.1 (by omega)
  · simp only [Value.slice.injEq] at hv
    obtain ⟨rfl, _, rfl⟩ := hv
    exact .inr ⟨g, cur.toList, rfl, hb, by unfold Own; simpa using hg, h1, h2, by simpa using h3, h4⟩
theorem own_to_row {w : World} {base g c n size : Nat} {e : TypeId} {cur : List Value} (h : Own w g e cur) (hb : base ≤ g) (hn : n ≤ c) (hm : c ≤ maxLen) (hl : cur.length = c * size) :
    w.ownsRow base e size (.slice (some ⟨g, 0, none⟩) n c) n (cur.take (n * size)) :=
  ⟨by rw [List.length_take, hl]; exact Nat.min_eq_left (Nat.mul_le_mul_right _ hn), .inr ⟨g, c, cur.toArray, rfl, hb, h, hn, hm, by simpa using hl, by simp⟩⟩
theorem run_copy_into {P : Program} (w : World) (dT sT ty elem : TypeId) (g o dLen dCap : Nat) (a : Addr) (sLen sCap k : Nat) (cur cs : List Value) (t : TypeId) (hu : P.underlying dT = some (.slice elem)) (hs : (P.info? elem).map (·.size) = some k)
    (hg : Own w g t cur) (hn : cs.length = Nat.min sLen dLen * k) (hsrc : ∀ j v, cs[j]? = some v → w.cell? (a.add j) = some v) (hfit : o + cs.length ≤ cur.length) (h1 : ∀ v ∈ cs, v.oneCell' = true) :
    (Builtin.copy_ #[dT, sT] ty #[.slice (some ⟨g, o, none⟩) dLen dCap, .slice (some a) sLen sCap]).run P w = .ok (goInt (Nat.min sLen dLen)) (w.setRow g (splice cur o cs).toArray) := by
  have hl := run_loadCells_list (P := P) w a cs hsrc
  have hst := run_storeCells_at P g o t cs 0 cur.toArray w hg (by simpa using hfit) h1
  simp only [Nat.add_zero] at hst
  cases hq : P.info? elem with
  | none => simp [hq] at hs
  | some i =>
    have hi : i.size = k := by simpa [hq] using hs
    simp [Builtin.copy_, run_underlying hu, Builtin.lenOf, Builtin.firstCells, sizeOf, typeInfo, hq, hi, ← hn, hl, hst, splice]
theorem run_clear_one {P : Program} (w : World) (t e ty tt : TypeId) (z : Value) (ht : P.underlying t = some (.slice e)) (hv : ∀ w, (zeroValue e).run P w = .ok z w) (h1 : ∀ u ∈ z.cells.toList, u.oneCell' = true) (g o c : Nat) (cur : List Value) (hg : Own w g tt cur)
    (hfit : o + z.cells.size ≤ cur.length) :
    (Builtin.clear_ #[t] ty #[.slice (some ⟨g, o, none⟩) 1 c]).run P w = .ok (.tuple #[]) (w.setRow g (splice cur o z.cells.toList).toArray) := by
  have hz : (Builtin.zeroCells z.cells 1).toList = z.cells.toList := by
    unfold Builtin.zeroCells
    apply List.ext_getElem
    · simp
    · intro i h1 h2
      simp at h1 h2 ⊢
      rw [getElem!_pos z.cells (i % z.cells.size) (by rw [Nat.mod_eq_of_lt h1]; exact h1)]
      simp [Nat.mod_eq_of_lt h1]
  have hst := run_storeCells_at P g o tt z.cells.toList 0 cur.toArray w hg (by simpa using hfit) h1
  simp only [Nat.add_zero] at hst
  simp [Builtin.clear_, run_underlying ht, hv, hz, hst, splice]
theorem step_append_known {P : Program} {ops : Array Oper} {o : Oper} {a : Act} {w : World} {K : Act → World → Prop} {Q : Exit → Act → World → Prop} {E : Prop}
    (hg : o.guard = none) (d x : Operand) (dT sT : TypeId) (hop : o.op = Op.call { callee := Callee.builtin Builtin.append, args := #[d, x], argTypes := #[dT, sT] })
    (v u : Value) (hd : a.eval d = v) (hx : a.eval x = u) {v' : Value} {w' : World} (hr : (Builtin.append_ #[dT, sT] o.type #[v, u]).run P w = .ok v' w') (hK : K (a.put o.dst v') w') :
    if Region.wanted o (yielded ops a.tmps) = true then Oper.wp P o a w K Q else E := by
  have hw : Region.wanted o (yielded ops a.tmps) = true := by simp [Region.wanted, hg]
  rw [if_pos hw]
  unfold Oper.wp
  simp [execOp, hop, resolve, invoke, builtin, hd, hx, hr, Result.andThen]
  exact hK
theorem step_copy_known {P : Program} {ops : Array Oper} {o : Oper} {a : Act} {w : World} {K : Act → World → Prop} {Q : Exit → Act → World → Prop} {E : Prop}
    (hg : o.guard = none) (d x : Operand) (dT sT : TypeId) (hop : o.op = Op.call { callee := Callee.builtin Builtin.copy, args := #[d, x], argTypes := #[dT, sT] })
    (v u : Value) (hd : a.eval d = v) (hx : a.eval x = u) {v' : Value} {w' : World} (hr : (Builtin.copy_ #[dT, sT] o.type #[v, u]).run P w = .ok v' w') (hK : K (a.put o.dst v') w') :
    if Region.wanted o (yielded ops a.tmps) = true then Oper.wp P o a w K Q else E := by
  have hw : Region.wanted o (yielded ops a.tmps) = true := by simp [Region.wanted, hg]
  rw [if_pos hw]
  unfold Oper.wp
  simp [execOp, hop, resolve, invoke, builtin, hd, hx, hr, Result.andThen]
  exact hK
theorem list_append_known {P : Program} (w : World) {ops : Array Oper} {rest : List Oper} {o : Oper} {a : Act} {Q : Exit → Act → World → Prop} (hgd : o.guard = none) (d s : Operand) (t t' : TypeId)
    (ho : o.op = .call { callee := .builtin .append, args := #[d, s], argTypes := #[t, t'] }) (v u : Value) (hd : a.eval d = v) (hs : a.eval s = u) {v' : Value} {w' : World}
    (hr : (Builtin.append_ #[t, t'] o.type #[v, u]).run P w = .ok v' w') (h : wpList P ops Q rest (a.put o.dst v') w') : wpList P ops Q (o :: rest) a w := by
  refine wpList_plain hgd fun K hK => ?_
  unfold Oper.wp execOp
  simp only [ho, resolve, invoke, builtin, Sem.run_bind, Sem.run_pure, Result.andThen_ok, List.map_toArray, List.map_cons, List.map_nil, hd, hs, hr]
  exact hK _ _ h
theorem list_copy_known {P : Program} (w : World) {ops : Array Oper} {rest : List Oper} {o : Oper} {a : Act} {Q : Exit → Act → World → Prop} (hgd : o.guard = none) (d s : Operand) (t t' : TypeId)
    (ho : o.op = .call { callee := .builtin .copy, args := #[d, s], argTypes := #[t, t'] }) (v u : Value) (hd : a.eval d = v) (hs : a.eval s = u) {v' : Value} {w' : World}
    (hr : (Builtin.copy_ #[t, t'] o.type #[v, u]).run P w = .ok v' w') (h : wpList P ops Q rest (a.put o.dst v') w') : wpList P ops Q (o :: rest) a w := by
  refine wpList_plain hgd fun K hK => ?_
  unfold Oper.wp execOp
  simp only [ho, resolve, invoke, builtin, Sem.run_bind, Sem.run_pure, Result.andThen_ok, List.map_toArray, List.map_cons, List.map_nil, hd, hs, hr]
  exact hK _ _ h
end Go.Proofs.YtenjlhlighkenaaGreat
namespace Go.Proofs.YtenjlhlighkenaaGreat
open Go Go.RowKit

theorem tm_box (w : World) (t : Tm) : ∃ V, V = w.alloc (.cells #[.int .u64 (t.e : Int), .int .u64 (t.a : Int), .int .u64 (t.b : Int)] 26) ∧ Below w.heap.size w V ∧ V.heap.size = w.heap.size + 1 ∧ Own V w.heap.size 26 t.cells :=
  ⟨_, rfl, (Below.refl _ _).alloc (Nat.le_refl _) _, by simp, Own.made w 26 t.cells⟩
theorem own3 {w : World} {P : Nat} {t : TypeId} {a0 a1 a2 : Value} (h : Own w P t [a0, a1, a2]) : w.cell? ⟨P, 0, none⟩ = some a0 ∧ w.cell? ⟨P, 1, none⟩ = some a1 ∧ w.cell? ⟨P, 2, none⟩ = some a2 := ⟨h.at_ 0, h.at_ 1, h.at_ 2⟩
end Go.Proofs.YtenjlhlighkenaaGreat
namespace Go.Proofs.YtenjlhlighkenaaGreat
open Go Go.RowKit

structure Vl where
  t : Bool
  n : Int
  s : ByteArray

namespace Vl
def cells (v : Vl) : List Value := [.bool v.t, .int .i64 v.n, .string v.s]
def val (v : Vl) : Value := .agg #[.bool v.t, .int .i64 v.n, .string v.s]
def right (v : Vl) : Bool := if v.t then v.n == 0 && decide (v.s.size ≤ 64) else v.s.data.toList.isEmpty
def cmpI (x y : Int) : Int := if x < y then -1 else if y < x then 1 else 0
def cmp (a b : Vl) : Int := if a.t then (if b.t then Lib.compareBytes a.s.data.toList b.s.data.toList else 1) else if b.t then -1 else cmpI a.n b.n
end Vl
def cmpRows : List Vl → List Vl → Int
  | [], [] => 0
  | [], _ :: _ => -1
  | _ :: _, [] => 1
  | x :: a, y :: b => if x.cmp y = 0 then cmpRows a b else x.cmp y
end Go.Proofs.YtenjlhlighkenaaGreat
namespace Go.Proofs.YtenjlhlighkenaaGreat
open Go Go.RowKit

set_option maxRecDepth 100000 in
set_option maxHeartbeats 400000 in
theorem nanI_any (x : Int) (w : World) :
    Calls Tryz.prog 130 #[.int .i64 x] w fun e w' => e = .returned (.bool false) ∧ w = w' := by
  go_enter Tryz.func130, Tryz.ntmps130
  go_wp2_with fail
  go_ret
  exact ⟨ret_bool (by simp), rfl⟩
set_option maxRecDepth 100000 in
set_option maxHeartbeats 800000 in
theorem cmpInt_any (x y : Int) (w : World) :
    Calls Tryz.prog 118 #[.int .i64 x, .int .i64 y] w fun e w' => e = .returned (.int .i64 (Vl.cmpI x y)) ∧ w = w' := by
  go_enter Tryz.func118, Tryz.ntmps118
  go_wp2_with (go_at_call 130; refine (nanI_any _ _).mono ?_; rintro e w' ⟨rfl, rfl⟩)
  all_goals
    go_ret
    refine ⟨ret_i64 ?_, rfl⟩
    unfold Vl.cmpI
    repeat' split
    all_goals first | rfl | omega
theorem cmpStr_any (a b : ByteArray) (w : World) :
    Calls Tryz.prog 117 #[.string a, .string b] w fun e w' => e = .returned (.int .i64 (Lib.compareBytes a.data.toList b.data.toList)) ∧ w = w' :=
  (Tryz.strings_Compare a b w).mono fun _ _ ⟨h, k⟩ => ⟨h, k.symm⟩

end Go.Proofs.YtenjlhlighkenaaGreat
namespace Go.Proofs.YtenjlhlighkenaaGreat
open Go Go.RowKit

set_option maxRecDepth 100000 in
set_option maxHeartbeats 800000 in
theorem right_any (a : Vl) (w : World) (hs : a.s.size ≤ maxLen) :
    Calls Tryz.prog 93 #[a.val] w fun e w' => e = .returned (.bool a.right) ∧ Below w.heap.size w w' := by
  have HB := Lib.hid (fun (o1 : Obj) => ((Below.refl w.heap.size w).alloc (Nat.le_refl _) o1))
  obtain ⟨p, n, s⟩ := a
  unfold Vl.val Vl.right
  unfold maxLen at hs
  dsimp only at hs ⊢
  cases p
  · simp only [Bool.false_eq_true, if_false]
    go_enter Tryz.func93, Tryz.ntmps93
    go_wp2_with fail
    go_ret
    exact ⟨ret_bool (by rw [ByteArray.toList_eq]), HB.out _⟩
  · simp only [if_true]
    by_cases hn : n = 0
    · subst hn
      go_enter Tryz.func93, Tryz.ntmps93
      go_wp2_with fail
      go_ret
      exact ⟨ret_bool (by simp; omega), HB.out _⟩
    · have hnb : (n == 0) = false := by simpa using hn
      go_enter Tryz.func93, Tryz.ntmps93
      go_wp2_with fail
      go_ret
      exact ⟨ret_bool (by simp [hn]), HB.out _⟩

end Go.Proofs.YtenjlhlighkenaaGreat
namespace Go.Proofs.YtenjlhlighkenaaGreat
open Go Go.RowKit

def VlAt (w : World) (b o : Nat) (v : Vl) : Prop :=
  w.cell? ⟨b, o, none⟩ = some (.bool v.t) ∧ w.cell? ⟨b, o + 1, none⟩ = some (.int .i64 v.n) ∧ w.cell? ⟨b, o + 2, none⟩ = some (.string v.s)
def Vals (w : World) (B : Nat) (A : Option Addr) (l : List Vl) : Prop :=
  0 < l.length → ∃ b o, A = some ⟨b, o, none⟩ ∧ b < B ∧ ∀ (i : Nat) (v : Vl), l[i]? = some v → VlAt w b (o + i * 3) v
def VOk (x : Vl) : Prop := x.s.size ≤ maxLen ∧ -9223372036854775808 ≤ x.n ∧ x.n ≤ 9223372036854775807
section
variable {w w' : World} {B B' b o : Nat} {A : Option Addr} {l : List Vl} {v : Vl}
theorem VlAt.past (h : VlAt w b o v) (hb : Below B w w') (hB : b < B) : VlAt w' b o v :=
  ⟨(hb.cell (p := ⟨b, o, none⟩) hB).trans h.1, (hb.cell (p := ⟨b, o + 1, none⟩) hB).trans h.2.1, (hb.cell (p := ⟨b, o + 2, none⟩) hB).trans h.2.2⟩
theorem Vals.past (h : Vals w B A l) (hb : Below B' w w') (hB : B ≤ B') : Vals w' B A l := fun hn => by
  obtain ⟨b, o, e, hlt, hc⟩ := h hn
  exact ⟨b, o, e, hlt, fun i v hi => (hc i v hi).past hb (by omega)⟩
theorem Vals.wide (h : Vals w B A l) (hB : B ≤ B') : Vals w B' A l := fun hn => by
  obtain ⟨b, o, e, hlt, hc⟩ := h hn
  exact ⟨b, o, e, by omega, hc⟩
theorem Vals.nil_ : Vals w B A [] := fun h => absurd h (by simp)
end
theorem vals_keep {a b : World} {A : Option Addr} {l : List Vl} (h : Vals a a.heap.size A l) (hb : Below a.heap.size a b) : Vals b b.heap.size A l := (h.past hb (Nat.le_refl _)).wide hb.size
end Go.Proofs.YtenjlhlighkenaaGreat
namespace Go.Proofs.YtenjlhlighkenaaGreat
open Go Go.RowKit

def chkRow (l : List Vl) : Int := if l.all Vl.right && decide (l.length ≤ 8) then 0 else 4
theorem rightV_snoc {l : List Vl} {s : Vl} {k : Nat} (h : l[k]? = some s) : (l.take (k + 1)).all Vl.right = ((l.take k).all Vl.right && s.right) := by
  rw [List.take_add_one, h]; simp
theorem chkRow_bad {l : List Vl} {s : Vl} {k : Nat} (h : l[k]? = some s) (hs : s.right = false) : chkRow l = 4 := by
  unfold chkRow
  rw [if_neg]
  intro hc
  simp only [Bool.and_eq_true] at hc
  have := (List.all_eq_true.1 hc.1) s (List.mem_of_getElem? h)
  simp [hs] at this

set_option maxRecDepth 100000 in
set_option maxHeartbeats 1600000 in
theorem vcheck_any (A : Option Addr) (c : Nat) (l : List Vl) (w : World) (hl : Vals w w.heap.size A l) (hn : l.length ≤ maxLen) (hs : ∀ v ∈ l, v.s.size ≤ maxLen) :
    Calls Tryz.prog 63 #[.slice A l.length c] w fun e w' => e = .returned (.int .i64 (chkRow l)) ∧ Below w.heap.size w w' := by
  unfold maxLen at hn
  have Hl := Lib.hid (And.intro hl hs)
  clear hl hs
  have hright := fun v W h => Lib.hid (right_any v W h)
  unfold Vl.val at hright
  by_cases h8 : 8 < l.length
  · have hr : chkRow l = 4 := by unfold chkRow; rw [if_neg]; simp; omega
    rw [hr]
    clear hr
    go_enter Tryz.func63, Tryz.ntmps63
    go_wp2_with fail
    go_ret
    exact ⟨rfl, Below.refl _ _⟩
  · go_enter Tryz.func63, Tryz.ntmps63
    go_wp2_with fail
    go_loopw [10] (fun i wr => ∃ k : Nat, i = .int .i64 (k : Int) ∧ k ≤ l.length ∧ Below w.heap.size w wr ∧ (l.take k).all Vl.right = true)
      (fun i _ => l.length - (intOf i).toNat)
    case atStart => exact ⟨0, rfl, by omega, Below.refl _ _, rfl⟩
    case round =>
      obtain ⟨k, rfl, hk, hb, he⟩ := hrel
      by_cases hlt : k < l.length
      · have hx : l[k]? = some l[k] := List.getElem?_eq_getElem hlt
        obtain ⟨b, o, rfl, hB, hl⟩ := Hl.out.1 (by omega)
        obtain ⟨c0, c1, c2⟩ := (hl k _ hx).past hb hB
        have hsn := rightV_snoc hx
        have hbad := fun h => chkRow_bad hx h
        have hsz := Hl.out.2 _ (List.mem_of_getElem? hx)
        generalize l[k] = s at *
        have hcall := fun W => hright s W hsz
        have HH := Lib.hid (And.intro hb (And.intro he (And.intro hx (And.intro hsn hbad))))
        clear hb he hx hl hsn hbad hsz hright
        by_cases hr : s.right = true
        · simp only [hr] at hcall
          have HE := Lib.hid hr
          clear hr
          go_wp2_with fail
          refine (hcall _).out.mono ?_
          rintro e w1 ⟨rfl, h1⟩
          have H1 := Lib.hid (below_then ((Below.refl wr.heap.size wr).alloc (Nat.le_refl _) _) (by simp) h1)
          clear h1
          go_wp2_with fail
          obtain ⟨hb, he, hx, hsn, hbad⟩ := HH.out
          go_roundw
          case rel => exact ⟨k + 1, by go_num, by omega, hb.trans (H1.out.mono hb.size), by rw [hsn, he, HE.out]; rfl⟩
          case measure => simp [intOf]; omega
        · have hrf : s.right = false := by simpa using hr
          simp only [hrf] at hcall
          have HE := Lib.hid hrf
          clear hr hrf
          go_wp2_with fail
          refine (hcall _).out.mono ?_
          rintro e w1 ⟨rfl, h1⟩
          have H1 := Lib.hid (below_then ((Below.refl wr.heap.size wr).alloc (Nat.le_refl _) _) (by simp) h1)
          clear h1
          go_wp2_with fail
          go_ret
          obtain ⟨hb, he, hx, hsn, hbad⟩ := HH.out
          exact ⟨ret_i64 (hbad HE.out).symm, hb.trans (H1.out.mono hb.size)⟩
      · have hk2 : k = l.length := by omega
        subst hk2
        rw [List.take_length] at he
        have HH := Lib.hid (And.intro hb he)
        clear hb he
        go_wp2_with fail
        go_ret
        obtain ⟨hb, he⟩ := HH.out
        exact ⟨ret_i64 (by unfold chkRow; rw [if_pos]; simp [he]; omega), hb⟩

end Go.Proofs.YtenjlhlighkenaaGreat
namespace Go.Proofs.YtenjlhlighkenaaGreat
open Go Go.RowKit

structure Past (V : World) where
  w : World
  h : Below V.heap.size V w
instance (V : World) : Nonempty (Past V) := ⟨⟨V, Below.refl _ _⟩⟩
instance (V : World) : Inhabited (Past V) := ⟨⟨V, Below.refl _ _⟩⟩
theorem wp_region_past {P : Program} {id : Nat} {Q : Exit → Act → World → Prop} {a : Act} {w : World} {l : List Oper} (V : World) (hm : P.follows .mixedOrders = true) (hB : Region.lexB .any l.toArray = true) (hV : Below V.heap.size V w)
    (h : wpQuiet P l.toArray (fun w' => ∃ p : Past V, w' = p.w) (fun a' => ∀ w', (∃ p : Past V, w' = p.w) → Q .normal a' w') l a) : (Code.region id l.toArray true).wp P Q a w :=
  wp_region_quiet (C := fun w' => ∃ p : Past V, w' = p.w) hm hB ⟨⟨_, hV.drew⟩, rfl⟩ (by simpa using h)
theorem calls_past {P : Program} {V : World} {f : FuncId} {args : Array Value} {p : Past V} {v : Value}
    (h : Calls P f args p.w fun e w' => e = .returned v ∧ Below p.w.heap.size p.w w') : Calls P f args p.w fun e w'' => e = .returned v ∧ ∃ q : Past V, w'' = q.w :=
  h.mono fun _ w' ⟨he, hb⟩ => ⟨he, ⟨w', belows p.h hb⟩, rfl⟩
end Go.Proofs.YtenjlhlighkenaaGreat
namespace Go.Proofs.YtenjlhlighkenaaGreat
open Go Go.RowKit
end Go.Proofs.YtenjlhlighkenaaGreat
namespace Go.Proofs.YtenjlhlighkenaaGreat
open Go Go.RowKit

theorem u8_eq {a b : UInt8} (h1 : ¬ a < b) (h2 : ¬ b < a) : a = b := by
  rw [UInt8.lt_iff_toNat_lt] at h1 h2
  exact UInt8.toNat_inj.1 (by omega)
theorem cmpB_cases : ∀ a b : List UInt8, (Lib.compareBytes a b = -1 ∧ Op.bytesLess a b = true) ∨ (Lib.compareBytes a b = 0 ∧ Op.bytesLess a b = false ∧ a = b) ∨ (Lib.compareBytes a b = 1 ∧ Op.bytesLess a b = false ∧ a ≠ b)
  | [], [] => .inr (.inl ⟨rfl, rfl, rfl⟩)
  | [], _ :: _ => .inl ⟨rfl, rfl⟩
  | _ :: _, [] => .inr (.inr ⟨rfl, rfl, by simp⟩)
  | x :: a, y :: b => by
    have ih := cmpB_cases a b
    unfold Lib.compareBytes Op.bytesLess
    by_cases h1 : x < y
    · left; simp [h1]
    · by_cases h2 : y < x
      · have hne : x ≠ y := fun e => by subst e; exact h1 h2
        right; right; simp [h1, h2, hne]
      · have he := u8_eq h1 h2
        subst he
        simpa [h1] using ih

end Go.Proofs.YtenjlhlighkenaaGreat
namespace Go.Proofs.YtenjlhlighkenaaGreat
open Go Go.RowKit

instance : DecidableEq Vl := fun a b => decidable_of_iff (a.t = b.t ∧ a.n = b.n ∧ a.s = b.s) ⟨fun ⟨h1, h2, h3⟩ => by cases a; cases b; simp_all, fun h => by subst h; exact ⟨rfl, rfl, rfl⟩⟩
theorem same_take {a b : List Vl} {k : Nat} {x y : Vl} (h : a.take k = b.take k) (hx : a[k]? = some x) (hy : b[k]? = some y) (e : x = y) : a.take (k + 1) = b.take (k + 1) := by
  rw [List.take_add_one, List.take_add_one, h, hx, hy, e]
theorem same_ne {a b : List Vl} {k : Nat} {x y : Vl} (hx : a[k]? = some x) (hy : b[k]? = some y) (e : x ≠ y) : a ≠ b := by
  rintro rfl
  rw [hx] at hy
  exact e (Option.some.inj hy)
theorem grd_val (op : BinOp) (x y : Operand) (xs ys : Array Value) (w : World) : (eqGuard op 104 x y (.agg xs) (.agg ys)).run Tryz.prog w = .ok () w := run_eqGuard_agg w op _ x y xs ys (by kernel_rfl)
def eqV (x y : Vl) : Bool := (x.t == y.t) && ((x.n == y.n) && (x.s.toList == y.s.toList))
theorem eqV_iff {x y : Vl} : eqV x y = true ↔ x = y := by
  obtain ⟨a, b, c⟩ := x
  obtain ⟨a', b', c'⟩ := y
  simp only [eqV, Bool.and_eq_true, beq_iff_eq, Vl.mk.injEq]
  refine ⟨fun ⟨h1, h2, h3⟩ => ⟨h1, h2, ?_⟩, fun ⟨h1, h2, h3⟩ => ⟨h1, h2, by rw [h3]⟩⟩
  rw [ByteArray.toList_eq, ByteArray.toList_eq] at h3
  cases c; cases c'; simp only at h3; congr 1; exact Array.toList_inj.1 h3
theorem eqIn_val (x y : Vl) (w : World) : (Op.equalIn 10000 104 x.val y.val).run Tryz.prog w = .ok (eqV x y) w := by
  have u0 := Tryz.underlying4
  have u1 := Tryz.underlying2
  have u2 := Tryz.underlying9
  have z0 := Tryz.sizeOf4
  have a0 := Tryz.isAgg4
  have z1 := Tryz.sizeOf2
  have a1 := Tryz.isAgg2
  have z2 := Tryz.sizeOf9
  have a2 := Tryz.isAgg9
  have hS : Tryz.prog.underlying 104 = some (.struct (Tryz.prog.fieldsOf 104)) := by kernel_rfl
  have hp : Tryz.prog.stoodInHeld 104 = false := by kernel_rfl
  unfold Vl.val
  rw [show (10000 : Nat) = 9998 + 1 + 1 from rfl, run_equalIn_agg w _ _ _ _ hS hp]
  simp only [Program.fieldsOf, Tryz.underlying104, eqV]
  cases h0 : (x.t == y.t) <;> cases h1 : (x.n == y.n) <;>
    simp [Op.eqFields, part, a0, a1, a2, z0, z1, z2, h0, h1, run_equalIn_bool' w _ _ _ _ u0, run_equalIn_int w _ _ _ _ _ _ u1, run_equalIn_string w _ _ _ _ u2, go_sem]
  all_goals (split <;> simp_all)
theorem neq_val (x y : Vl) (w : World) : (binOp .neq 104 x.val y.val).run Tryz.prog w = .ok (.bool (!eqV x y)) w := by
  have h := eqIn_val x y w
  unfold Vl.val at h ⊢
  rw [run_neq_struct, h]; rfl
set_option maxRecDepth 100000 in
set_option maxHeartbeats 1600000 in
theorem vsame_any (A A' : Option Addr) (c c' : Nat) (l m : List Vl) (w : World) (hl : Vals w w.heap.size A l) (hm : Vals w w.heap.size A' m) (hn : l.length ≤ maxLen) (hn' : m.length ≤ maxLen) :
    Calls Tryz.prog 39 #[.slice A l.length c, .slice A' m.length c'] w fun e w' => e = .returned (.bool (decide (l = m))) ∧ Below w.heap.size w w' := by
  unfold maxLen at hn hn'
  by_cases hlen : l.length = m.length
  · have Hl := Lib.hid (And.intro hl hm)
    have HLen := Lib.hid hlen
    have qq : ((l.length : Int) != (m.length : Int)) = false := by simp [hlen]
    clear hl hm
    have hle := Nat.le_of_eq hlen
    have hge := Nat.le_of_eq hlen.symm
    clear hlen
    go_enter Tryz.func39, Tryz.ntmps39
    go_wp2_with fail
    go_loopw [13] (fun i wr => ∃ k : Nat, i = .int .i64 (k : Int) ∧ k ≤ l.length ∧ Below w.heap.size w wr ∧ l.take k = m.take k)
      (fun i _ => l.length - (intOf i).toNat)
    case atStart => exact ⟨0, rfl, by omega, Below.refl _ _, rfl⟩
    case round =>
      obtain ⟨k, rfl, hk, hb, hs⟩ := hrel
      by_cases hlt : k < l.length
      · have hltm : k < m.length := by omega
        have hx : l[k]? = some l[k] := List.getElem?_eq_getElem hlt
        have hy : m[k]? = some m[k] := List.getElem?_eq_getElem hltm
        obtain ⟨b, o, rfl, hB, hl⟩ := Hl.out.1 (by omega)
        obtain ⟨b', o', rfl, hB', hm⟩ := Hl.out.2 (by omega)
        obtain ⟨c0, c1, c2⟩ := (hl k _ hx).past hb hB
        obtain ⟨d0, d1, d2⟩ := (hm k _ hy).past hb hB'
        have hst := fun e => same_take hs hx hy e
        have hsn := fun e => same_ne hx hy e
        generalize l[k] = x at *
        generalize m[k] = y at *
        have hne := neq_val x y
        have hgd := fun (x1 y1 : Operand) (xs ys : Array Value) (w : World) => grd_val .neq x1 y1 xs ys w
        unfold Vl.val at hne
        have q0 : (0 : Int) ≤ (k : Int) := by omega
        have q1 : (k : Int) < (l.length : Int) := by omega
        have q2 : (k : Int) < (m.length : Int) := by omega
        have HH := Lib.hid (And.intro hb (And.intro hst hsn))
        clear hb hs hx hy hl hm hst hsn
        by_cases he : x = y
        · have hv : (!eqV x y) = false := by rw [eqV_iff.2 he]; rfl
          simp only [hv] at hne
          have HE := Lib.hid he
          clear he hv
          go_wp2_with fail
          go_quiet (fail)
          go_wp2_with fail
          obtain ⟨hb, hst, hsn⟩ := HH.out
          go_roundw
          case rel => exact ⟨k + 1, by go_num, by omega, below_draws hb _, hst HE.out⟩
          case measure => simp [intOf]; omega
        · have hv : (!eqV x y) = true := by rw [Bool.not_eq_true', ← Bool.not_eq_true, eqV_iff]; exact he
          simp only [hv] at hne
          have HE := Lib.hid he
          clear he hv
          go_wp2_with fail
          go_quiet (fail)
          go_wp2_with fail
          go_ret
          obtain ⟨hb, hst, hsn⟩ := HH.out
          exact ⟨ret_bool (decide_eq_false (hsn HE.out)).symm, below_draws hb _⟩
      · have hk2 : k = l.length := by omega
        subst hk2
        rw [List.take_length, List.take_of_length_le (by omega)] at hs
        have HH := Lib.hid (And.intro hb hs)
        clear hb hs
        go_wp2_with fail
        go_ret
        exact ⟨ret_bool (decide_eq_true HH.out.2).symm, HH.out.1⟩
  · have q1 : ((l.length : Int) != (m.length : Int)) = true := by simp; omega
    have hne : decide (l = m) = false := decide_eq_false (fun e => hlen (by rw [e]))
    have HN := Lib.hid hne
    clear hlen hl hm hne
    go_enter Tryz.func39, Tryz.ntmps39
    go_wp2_with fail
    go_ret
    exact ⟨ret_bool HN.out.symm, Below.refl _ _⟩
end Go.Proofs.YtenjlhlighkenaaGreat
namespace Go.Proofs.YtenjlhlighkenaaGreat
open Go Go.RowKit
attribute [local go_sem ↓] Go.wp_at_zero Go.wp_at_succ


set_option maxRecDepth 100000 in
set_option maxHeartbeats 400000 in
theorem greater_any (x y : Nat) (w : World) :
    Calls Tryz.prog 62 #[.int .u64 (x : Int), .int .u64 (y : Int)] w fun e w' => e = .returned (.int .u64 ((max x y : Nat) : Int)) ∧ w = w' := by
  go_enter Tryz.func62, Tryz.ntmps62
  go_wp2_with fail
  all_goals
    go_ret
    exact ⟨ret_u64 (by omega), rfl⟩

set_option maxRecDepth 100000 in
set_option maxHeartbeats 800000 in
theorem each_greater (a b c d : Nat) (w : World) :
    Calls Tryz.prog 61 #[.agg #[.int .u64 (a : Int), .int .u64 (b : Int)], .agg #[.int .u64 (c : Int), .int .u64 (d : Int)], .func (.func 62) #[] #[]] w
      fun e w' => e = .returned (.agg #[.int .u64 ((max a c : Nat) : Int), .int .u64 ((max b d : Nat) : Int)]) ∧ Below w.heap.size w w' := by
  go_enter Tryz.func61, Tryz.ntmps61
  go_wp2_with fail
  go_loopw [8] (fun i wr => ∃ k : Nat, i = .int .i64 (k : Int) ∧ k ≤ 2 ∧ Below w.heap.size w wr ∧
      Own wr w.heap.size 24 [.int .u64 ((if 0 < k then max a c else a : Nat) : Int), .int .u64 ((if 1 < k then max b d else b : Nat) : Int)] ∧
      Own wr (w.heap.size + 1) 24 [.int .u64 (c : Int), .int .u64 (d : Int)] ∧ Own wr (w.heap.size + 1 + 1) 24 [.int .u64 0, .int .u64 0])
    (fun i _ => 2 - (intOf i).toNat)
  case atStart =>
    exact ⟨0, rfl, by omega, (((Below.refl _ _).alloc (Nat.le_refl _) _).alloc (by simp) _).alloc (by simp; omega) _, ((Own.made w _ _).more _).more _, by have := (Own.made (w.alloc (.cells #[.int .u64 (a : Int), .int .u64 (b : Int)] 24)) 24 [.int .u64 (c : Int), .int .u64 (d : Int)]).more (.cells #[.int .u64 0, .int .u64 0] 24); simpa using this, by
      have := Own.made ((w.alloc (.cells #[.int .u64 (a : Int), .int .u64 (b : Int)] 24)).alloc (.cells #[.int .u64 (c : Int), .int .u64 (d : Int)] 24)) 24 [.int .u64 0, .int .u64 0]; simpa using this⟩
  case round =>
    obtain ⟨k, rfl, hk, hb, h1, h2, h3⟩ := hrel
    have hs := h3.inside
    have Hs := Lib.hid (And.intro hb (And.intro h1 (And.intro h2 h3)))
    rcases (by omega : k = 0 ∨ k = 1 ∨ k = 2) with rfl | rfl | rfl
    · have c1 : wr.cell? ⟨w.heap.size, 0, none⟩ = some (.int .u64 (a : Int)) := h1.at_ 0
      have c2 : wr.cell? ⟨w.heap.size + 1, 0, none⟩ = some (.int .u64 (c : Int)) := h2.at_ 0
      have c3 : wr.frozen? ⟨w.heap.size, 0, none⟩ = false := h1.open_ 0
      clear h1 h2 h3 hb hk
      go_wp2_with fail
      go_region_with (go_at_call 62; refine (greater_any _ _ _).mono ?_; rintro e w' ⟨rfl, rfl⟩)
      all_goals
        go_wp2_with fail
        obtain ⟨hb, h1, h2, h3⟩ := Hs.out
        go_roundw
        case rel => exact ⟨1, by go_num, by omega, (hb.setCell (by simp) _).drew, (h1.set_ 0 _).draws 1, (h2.other (by simp) _).draws 1, (h3.other (by simp; omega) _).draws 1⟩
        case measure => simp [intOf]
    · have c1 : wr.cell? ⟨w.heap.size, 1, none⟩ = some (.int .u64 (b : Int)) := h1.at_ 1
      have c2 : wr.cell? ⟨w.heap.size + 1, 1, none⟩ = some (.int .u64 (d : Int)) := h2.at_ 1
      have c3 : wr.frozen? ⟨w.heap.size, 1, none⟩ = false := h1.open_ 1
      clear h1 h2 h3 hb hk
      go_wp2_with fail
      go_region_with (go_at_call 62; refine (greater_any _ _ _).mono ?_; rintro e w' ⟨rfl, rfl⟩)
      all_goals
        go_wp2_with fail
        obtain ⟨hb, h1, h2, h3⟩ := Hs.out
        go_roundw
        case rel => exact ⟨2, by go_num, by omega, (hb.setCell (by simp) _).drew, (h1.set_ 1 _).draws 1, (h2.other (by simp) _).draws 1, (h3.other (by simp; omega) _).draws 1⟩
        case measure => simp [intOf]
    · have c1 : wr.cell? ⟨w.heap.size, 0, none⟩ = some (.int .u64 ((max a c : Nat) : Int)) := h1.at_ 0
      have c2 : wr.cell? ⟨w.heap.size, 1, none⟩ = some (.int .u64 ((max b d : Nat) : Int)) := h1.at_ 1
      have c3 : wr.frozen? ⟨w.heap.size + 1 + 1, 0, none⟩ = false := h3.open_ 0
      have c4 : wr.frozen? ⟨w.heap.size + 1 + 1, 1, none⟩ = false := h3.open_ 1
      have c5 : wr.cell? ⟨w.heap.size + 1 + 1, 0, none⟩ = some (.int .u64 0) := h3.at_ 0
      have c6 : wr.cell? ⟨w.heap.size + 1 + 1, 1, none⟩ = some (.int .u64 0) := h3.at_ 1
      clear h1 h2 h3 hb hk
      go_wp2_with fail
      have h3 := Hs.out.2.2.2
      have d1 : (wr.setCell ⟨w.heap.size + 1 + 1, 0, none⟩ (.int .u64 ((max a c : Nat) : Int))).cell? ⟨w.heap.size + 1 + 1, 0, none⟩ = some (.int .u64 ((max a c : Nat) : Int)) := (h3.set_ 0 _).at_ 0
      have d2 : ((wr.setCell ⟨w.heap.size + 1 + 1, 0, none⟩ (.int .u64 ((max a c : Nat) : Int))).setCell ⟨w.heap.size + 1 + 1, 1, none⟩ (.int .u64 ((max b d : Nat) : Int))).cell? ⟨w.heap.size + 1 + 1, 1, none⟩ = some (.int .u64 ((max b d : Nat) : Int)) := ((h3.set_ 0 _).set_ 1 _).at_ 1
      refine bodyPost_ret (v := .agg #[.int .u64 ((max a c : Nat) : Int), .int .u64 ((max b d : Nat) : Int)]) (by simp [results, Tryz.results61, go_sem, d1, d2]) rfl ⟨rfl, ((Hs.out.1).setCell (by simp; omega) _).setCell (by simp; omega) _⟩

set_option maxRecDepth 100000 in
set_option maxHeartbeats 400000 in
theorem smaller_any (x y : Nat) (w : World) :
    Calls Tryz.prog 127 #[.int .u64 (x : Int), .int .u64 (y : Int)] w fun e w' => e = .returned (.int .u64 ((min x y : Nat) : Int)) ∧ w = w' := by
  go_enter Tryz.func127, Tryz.ntmps127
  go_wp2_with fail
  all_goals
    go_ret
    exact ⟨ret_u64 (by omega), rfl⟩

set_option maxRecDepth 100000 in
set_option maxHeartbeats 800000 in
theorem each_smaller (a b c d : Nat) (w : World) :
    Calls Tryz.prog 61 #[.agg #[.int .u64 (a : Int), .int .u64 (b : Int)], .agg #[.int .u64 (c : Int), .int .u64 (d : Int)], .func (.func 127) #[] #[]] w
      fun e w' => e = .returned (.agg #[.int .u64 ((min a c : Nat) : Int), .int .u64 ((min b d : Nat) : Int)]) ∧ Below w.heap.size w w' := by
  go_enter Tryz.func61, Tryz.ntmps61
  go_wp2_with fail
  go_loopw [8] (fun i wr => ∃ k : Nat, i = .int .i64 (k : Int) ∧ k ≤ 2 ∧ Below w.heap.size w wr ∧
      Own wr w.heap.size 24 [.int .u64 ((if 0 < k then min a c else a : Nat) : Int), .int .u64 ((if 1 < k then min b d else b : Nat) : Int)] ∧
      Own wr (w.heap.size + 1) 24 [.int .u64 (c : Int), .int .u64 (d : Int)] ∧ Own wr (w.heap.size + 1 + 1) 24 [.int .u64 0, .int .u64 0])
    (fun i _ => 2 - (intOf i).toNat)
  case atStart =>
    exact ⟨0, rfl, by omega, (((Below.refl _ _).alloc (Nat.le_refl _) _).alloc (by simp) _).alloc (by simp; omega) _, ((Own.made w _ _).more _).more _, by have := (Own.made (w.alloc (.cells #[.int .u64 (a : Int), .int .u64 (b : Int)] 24)) 24 [.int .u64 (c : Int), .int .u64 (d : Int)]).more (.cells #[.int .u64 0, .int .u64 0] 24); simpa using this, by
      have := Own.made ((w.alloc (.cells #[.int .u64 (a : Int), .int .u64 (b : Int)] 24)).alloc (.cells #[.int .u64 (c : Int), .int .u64 (d : Int)] 24)) 24 [.int .u64 0, .int .u64 0]; simpa using this⟩
  case round =>
    obtain ⟨k, rfl, hk, hb, h1, h2, h3⟩ := hrel
    have hs := h3.inside
    have Hs := Lib.hid (And.intro hb (And.intro h1 (And.intro h2 h3)))
    rcases (by omega : k = 0 ∨ k = 1 ∨ k = 2) with rfl | rfl | rfl
    · have c1 : wr.cell? ⟨w.heap.size, 0, none⟩ = some (.int .u64 (a : Int)) := h1.at_ 0
      have c2 : wr.cell? ⟨w.heap.size + 1, 0, none⟩ = some (.int .u64 (c : Int)) := h2.at_ 0
      have c3 : wr.frozen? ⟨w.heap.size, 0, none⟩ = false := h1.open_ 0
      clear h1 h2 h3 hb hk
      go_wp2_with fail
      go_region_with (go_at_call 127; refine (smaller_any _ _ _).mono ?_; rintro e w' ⟨rfl, rfl⟩)
      all_goals
        go_wp2_with fail
        obtain ⟨hb, h1, h2, h3⟩ := Hs.out
        go_roundw
        case rel => exact ⟨1, by go_num, by omega, (hb.setCell (by simp) _).drew, (h1.set_ 0 _).draws 1, (h2.other (by simp) _).draws 1, (h3.other (by simp; omega) _).draws 1⟩
        case measure => simp [intOf]
    · have c1 : wr.cell? ⟨w.heap.size, 1, none⟩ = some (.int .u64 (b : Int)) := h1.at_ 1
      have c2 : wr.cell? ⟨w.heap.size + 1, 1, none⟩ = some (.int .u64 (d : Int)) := h2.at_ 1
      have c3 : wr.frozen? ⟨w.heap.size, 1, none⟩ = false := h1.open_ 1
      clear h1 h2 h3 hb hk
      go_wp2_with fail
      go_region_with (go_at_call 127; refine (smaller_any _ _ _).mono ?_; rintro e w' ⟨rfl, rfl⟩)
      all_goals
        go_wp2_with fail
        obtain ⟨hb, h1, h2, h3⟩ := Hs.out
        go_roundw
        case rel => exact ⟨2, by go_num, by omega, (hb.setCell (by simp) _).drew, (h1.set_ 1 _).draws 1, (h2.other (by simp) _).draws 1, (h3.other (by simp; omega) _).draws 1⟩
        case measure => simp [intOf]
    · have c1 : wr.cell? ⟨w.heap.size, 0, none⟩ = some (.int .u64 ((min a c : Nat) : Int)) := h1.at_ 0
      have c2 : wr.cell? ⟨w.heap.size, 1, none⟩ = some (.int .u64 ((min b d : Nat) : Int)) := h1.at_ 1
      have c3 : wr.frozen? ⟨w.heap.size + 1 + 1, 0, none⟩ = false := h3.open_ 0
      have c4 : wr.frozen? ⟨w.heap.size + 1 + 1, 1, none⟩ = false := h3.open_ 1
      have c5 : wr.cell? ⟨w.heap.size + 1 + 1, 0, none⟩ = some (.int .u64 0) := h3.at_ 0
      have c6 : wr.cell? ⟨w.heap.size + 1 + 1, 1, none⟩ = some (.int .u64 0) := h3.at_ 1
      clear h1 h2 h3 hb hk
      go_wp2_with fail
      have h3 := Hs.out.2.2.2
      have d1 : (wr.setCell ⟨w.heap.size + 1 + 1, 0, none⟩ (.int .u64 ((min a c : Nat) : Int))).cell? ⟨w.heap.size + 1 + 1, 0, none⟩ = some (.int .u64 ((min a c : Nat) : Int)) := (h3.set_ 0 _).at_ 0
      have d2 : ((wr.setCell ⟨w.heap.size + 1 + 1, 0, none⟩ (.int .u64 ((min a c : Nat) : Int))).setCell ⟨w.heap.size + 1 + 1, 1, none⟩ (.int .u64 ((min b d : Nat) : Int))).cell? ⟨w.heap.size + 1 + 1, 1, none⟩ = some (.int .u64 ((min b d : Nat) : Int)) := ((h3.set_ 0 _).set_ 1 _).at_ 1
      refine bodyPost_ret (v := .agg #[.int .u64 ((min a c : Nat) : Int), .int .u64 ((min b d : Nat) : Int)]) (by simp [results, Tryz.results61, go_sem, d1, d2]) rfl ⟨rfl, ((Hs.out.1).setCell (by simp; omega) _).setCell (by simp; omega) _⟩
end Go.Proofs.YtenjlhlighkenaaGreat
namespace Go.Proofs.YtenjlhlighkenaaGreat
open Go Go.RowKit

def Tm.right (t : Tm) : Bool := decide (t.e ≤ 4611686018427387904) && decide (max t.a t.b ≤ 4611686018427387904)
def chk (l : List Tm) : Int := if l.all Tm.right then 0 else 1
theorem right_snoc {l : List Tm} {s : Tm} {k : Nat} (h : l[k]? = some s) : (l.take (k + 1)).all Tm.right = ((l.take k).all Tm.right && s.right) := by
  rw [List.take_add_one, h]
  simp
theorem chk_bad {l : List Tm} {s : Tm} {k : Nat} (h : l[k]? = some s) (hs : s.right = false) : chk l = 1 := by
  unfold chk
  rw [if_neg]
  intro hc
  have := (List.all_eq_true.1 hc) s (List.mem_of_getElem? h)
  simp [hs] at this
theorem chk_good {l : List Tm} (h : l.all Tm.right = true) : chk l = 0 := by unfold chk; rw [if_pos h]

set_option maxRecDepth 100000 in
set_option maxHeartbeats 400000 in
theorem max_any (g o : Nat) (a b : Nat) (w : World) (h0 : w.cell? ⟨g, o, none⟩ = some (.int .u64 (a : Int))) (h1 : w.cell? ⟨g, o + 1, none⟩ = some (.int .u64 (b : Int))) :
    Calls Tryz.prog 64 #[.slice (some ⟨g, o, none⟩) 2 2] w fun e w' => e = .returned (.int .u64 ((max a b : Nat) : Int)) ∧ w = w' := by
  go_enter Tryz.func64, Tryz.ntmps64
  go_wp2_with fail
  go_rounds 2
  all_goals
    go_ret
    exact ⟨ret_u64 (by omega), rfl⟩

set_option maxRecDepth 100000 in
set_option maxHeartbeats 1600000 in
theorem check_any (A : Option Addr) (c : Nat) (l : List Tm) (w : World) (hl : Times w w.heap.size A l) (hn : l.length ≤ maxLen) :
    Calls Tryz.prog 36 #[.slice A l.length c] w fun e w' => e = .returned (.int .i64 (chk l)) ∧ Below w.heap.size w w' := by
  unfold maxLen at hn
  have Hl := Lib.hid hl
  clear hl
  go_enter Tryz.func36, Tryz.ntmps36
  go_wp2_with fail
  go_loopw [7] (fun i wr => ∃ k : Nat, i = .int .i64 (k : Int) ∧ k ≤ l.length ∧ Below w.heap.size w wr ∧ (l.take k).all Tm.right = true)
    (fun i _ => l.length - (intOf i).toNat)
  case atStart => exact ⟨0, rfl, by omega, Below.refl _ _, rfl⟩
  case round =>
    obtain ⟨k, rfl, hk, hb, he⟩ := hrel
    by_cases hlt : k < l.length
    · have hx : l[k]? = some l[k] := List.getElem?_eq_getElem hlt
      obtain ⟨b, o, rfl, hB, hl⟩ := Hl.out (by omega)
      obtain ⟨c0, c1, c2⟩ := (hl k _ hx).past hb hB
      have hsn := right_snoc hx
      have hbad := fun h => chk_bad hx h
      generalize l[k] = s at *
      have hw : wr.heap.size < (wr.alloc (.cells #[.int .u64 (s.e : Int), .int .u64 (s.a : Int), .int .u64 (s.b : Int)] 26)).heap.size := by simp
      have HH := Lib.hid (And.intro hb (And.intro he (And.intro hx (And.intro hsn hbad))))
      clear hb he hx hl hsn hbad hw
      by_cases h1 : s.e ≤ 4611686018427387904
      · go_wp2_with (go_at_call 64; refine (max_any _ _ s.a s.b _ ?_ ?_).mono ?_; (simp [go_sem]); (simp [go_sem]); rintro e w1 ⟨rfl, rfl⟩)
        · go_ret
          obtain ⟨hb, he, hx, hsn, hbad⟩ := HH.out
          exact ⟨ret_i64 (hbad (by simp [Tm.right]; omega)).symm, hb.alloc hb.size _⟩
        · obtain ⟨hb, he, hx, hsn, hbad⟩ := HH.out
          go_roundw
          case rel => exact ⟨k + 1, by go_num, by omega, hb.alloc hb.size _, by rw [hsn, he]; simp [Tm.right]; omega⟩
          case measure => simp [intOf]; omega
      · go_wp2_with fail
        go_ret
        obtain ⟨hb, he, hx, hsn, hbad⟩ := HH.out
        exact ⟨ret_i64 (hbad (by simp [Tm.right]; omega)).symm, hb.alloc hb.size _⟩
    · have hk2 : k = l.length := by omega
      have HH := Lib.hid (And.intro hb (And.intro he hk2))
      clear hb he hk2
      go_wp2_with fail
      go_ret
      obtain ⟨hb, he, rfl⟩ := HH.out
      exact ⟨ret_i64 (chk_good (by simpa using he)).symm, hb⟩

end Go.Proofs.YtenjlhlighkenaaGreat
