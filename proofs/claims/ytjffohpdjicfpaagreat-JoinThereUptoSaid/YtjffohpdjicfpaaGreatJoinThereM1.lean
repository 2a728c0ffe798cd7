/- Part 1 of the texts on which JoinThere rests: facts and contracts. -/
import Derived.Test.YtjffohpdjicfpaaGreatRows
import Derived.WalkKit
import Derived.ProofKit
import Derived.OpenShut
import Derived.JoinedCond
import Derived.Carry
import Derived.Lib.Hide
import Derived.Laws.IdiomStrings
import Derived.Maps.AppendAt
import Derived.Deep.QuietTactic
import Derived.Laws.OwnMore
import Derived.Deep.Draws
import Derived.Test.YtjffohpdjicfpaaGreatProg
import Derived.ChangeArms
import Derived.Deep.Slices
import Derived.SizedLaws
import Derived.Lib.Bytealg
import Derived.Test.YtjffohpdjicfpaaGreatShelf
import Derived.Outline
import Derived.WalkSpells
import Derived.WalkLawsBesides
import Derived.BigQuiet
import Derived.Laws.StructEq
import Derived.Deep.RegionHeld3
import Derived.Deep.DrawnRows
import Derived.StillTailTactics
import Derived.Handy
import Derived.Sort.Grow
namespace Go.Proofs.YtjffohpdjicfpaaGreat
open Go.ChangeShapes Go.WideShapes Go.ChangeAt Go.RowKit
theorem own : ownKnob Tryz.prog.godebug = none := by kernel_rfl
theorem laidOut : laidOutB Tryz.prog = true := by kernel_rfl

section
variable {H : Type} {enc : TypeId × Value → H} {P : Program}
theorem trodAll_later (hl : laidOutB P = true) {W W' : World} (hb : Below W.heap.size W W') :
    ∀ {ts : List TypeId} {vs : List Value} {ds : List (DataW H)} {ps : List MemPlace}, (∀ t ∈ ts, P.readableRec t = true ∧ t < P.types.size) → (∀ x ∈ ps, x.block < W.heap.size) →
      DataW.TrodAll enc P W 0 (fun _ => true) true ts vs ds ps → DataW.TrodAll enc P W' 0 (fun b => decide (b < W.heap.size)) true ts vs ds ps
  | [], _, _, _, _, _, h => by
    obtain ⟨rfl, rfl, rfl⟩ := trodAll_nil h
    exact trodAll_mk0
  | t :: ts, _, _, _, hr, hlt, h => by
    obtain ⟨v, vs, d, ds, a, b, rfl, rfl, rfl, h1, h2⟩ := trodAll_cons h
    have h3 := hr t (List.mem_cons_self ..)
    exact trodAll_cons_mk (Below.trod hl h3.1 h3.2 h1 hb (fun x hx => hlt x (List.mem_append_left _ hx)))
      (trodAll_later hl hb (fun t ht => hr t (List.mem_cons_of_mem _ ht)) (fun x hx => hlt x (List.mem_append_right _ hx)) h2)

theorem post_law {f : Func} {s : ChangeSpec} {fresh handsOn : Bool} {W W' : World} {args : Array Value} {ds gs : List (DataW H)} {before : List MemPlace}
    (hl : laidOutB P = true) (hr : ∀ t ∈ f.params.toList, P.readableRec t = true ∧ t < P.types.size) (hB : P.underlying 4 = some .bool) (hres : f.resultTypes = #[4]) (hv : s.vars = [])
    (hW : DataW.Whole enc P f.params.toList s.vars false W args.toList ds gs before) (hs : s.fn H (ds ++ gs) = { results := [.lit (.bool true)], args := ds }) (hb : Below W.heap.size W W') :
    s.post enc P f false fresh handsOn false W args (.bool true) W' := by
  have hlt : ∀ p ∈ before, p.block < W.heap.size := fun p hp => hW.lt p hp
  have hW0 := hW
  obtain ⟨p, q, hA, hV, rfl, hz, hn⟩ := hW
  rw [hv] at hV
  obtain ⟨rfl, rfl⟩ := trodVars_none hV
  simp only [List.append_nil] at hlt hW0
  refine ⟨ds, [], p, [], p, [], by simpa using hW0, ?_, ?_, ?_, World.keptBut_mono (fun x hx => ⟨hx, .inr (.inl hx)⟩) (hb.frame (· ∈ p)), fun h => by cases h⟩
  · rw [hs, hres]; exact trodAll_cons_mk (shut_bool hB true) trodAll_mk0
  · rw [hs]; exact trodAll_later hl hb hr hlt hA
  · rw [hs, hv]; exact hV
end

section
variable {H : Type} {enc : TypeId × Value → H} {P : Program} {W : World} {base : Nat}
theorem wf_i64 {n : Int} (h : (Lit.int .i64 n).wf = true) : -9223372036854775808 ≤ n ∧ n ≤ 9223372036854775807 := by simpa [Lit.wf, IntKind.min, IntKind.max, IntKind.signed, IntKind.bits] using h
end
end Go.Proofs.YtjffohpdjicfpaaGreat
namespace Go.Proofs.YtjffohpdjicfpaaGreat
open Go Go.RowKit
theorem wpList_push {P : Program} (w : World) {ops : Array Oper} {rest : List Oper} {o : Oper} {a : Act} {Q : Exit → Act → World → Prop} (hgd : o.guard = none) (s x : Operand) (t : TypeId)
    (ho : o.op = .call { callee := .builtin .append, args := #[s, x], argTypes := #[t, t] })
    (base : Nat) (e : TypeId) (i : TypeInfo) (z : Value) (size bytes : Nat) (ht : P.underlying t = some (.slice e)) (hi : P.info? e = some i) (hz : i.zero = some z)
    (hsize : i.size = size) (hby : i.bytes = bytes) (hzs : z.cells.size = size) (hsz : 0 < size)
    (v : Value) (n : Nat) (xs : List Value) (hs : a.eval s = v) (hown : w.ownsRow base e size v n xs)
    (news : Array Value) (hx : a.eval x = .slice (some ⟨w.heap.size, 0, none⟩) 1 1) (hl : news.size = size) (h1 : ∀ u ∈ news.toList, u.oneCell' = true)
    (h63 : n + 1 ≤ maxLen) (hbytes : (n + 1) * bytes ≤ 140737488355328) (hbase : base ≤ w.heap.size)
    (h : ∀ v' w', w'.ownsRow base e size v' (n + 1) (xs ++ news.toList) → Below base w w' → (v'.ownBlock = v.ownBlock ∨ v'.ownBlock = some (w.heap.size + 1)) → w.grownBy w' v.ownBlock → wpList P ops Q rest (a.put o.dst v') w') :
    wpList P ops Q (o :: rest) a (w.alloc (.cells news e)) := by
  have hc : ∀ j u, news.toList[j]? = some u → (w.alloc (.cells news e)).cell? ((⟨w.heap.size, 0, none⟩ : Addr).add j) = some u := by
    intro j u hu
    have : (⟨w.heap.size, 0, none⟩ : Addr).add j = ⟨w.heap.size, j, none⟩ := by unfold Addr.add; split <;> simp_all
    rw [this, World.cell?_alloc_at _ _ _ _ rfl]
    simpa using hu
  obtain ⟨v', w', hrun, ho', hg, _, hat⟩ := run_append_own_at (P := P) (w.alloc (.cells news e)) base t o.type e i z size bytes ht hi hz hsize hby hzs hsz v n xs (hown.alloc _)
    ⟨w.heap.size, 0, none⟩ 1 1 news.toList (by simpa using hl) hc h1 h63 hbytes (by simp; omega)
  refine wpList_plain hgd fun K hK => ?_
  unfold Oper.wp execOp
  simp only [ho, resolve, invoke, builtin, Sem.run_bind, Sem.run_pure, Result.andThen_ok, List.map_toArray, List.map_cons, List.map_nil, hs, hx, hrun]
  have hg2 : w.grownBy w' v.ownBlock := ⟨hg.os, hg.tape, hg.output, Nat.le_trans (by simp) hg.size, fun k hk hne => (hg.block k (by simp; omega) hne).trans (Below.heap_alloc w _ k hk)⟩
  exact hK _ _ (h v' w' ho' ((Below.refl base w).grown hg2 hbase (fun k hk => (hown.lt k hk).1)) (by simpa using hat) hg2)

def cellB (b : UInt8) : Value := .int .u8 (b.toNat : Int)
theorem belows {a b c : World} (h : Below a.heap.size a b) (k : Below b.heap.size b c) : Below a.heap.size a c := h.trans (k.mono h.size)
theorem own_below {w w' : World} {base : Nat} {e : TypeId} {size : Nat} {v : Value} {n : Nat} {xs : List Value} (h : w.ownsRow base e size v n xs) (hb : Below w.heap.size w w') : w'.ownsRow base e size v n xs :=
  h.kept (row := none) ⟨hb.os, hb.tape, hb.output, hb.size, fun k hk _ => hb.block k hk⟩ (by cases v.ownBlock <;> simp)
theorem below_then {B : Nat} {a b c : World} (h : Below B a b) (hB : B ≤ a.heap.size) (k : Below b.heap.size b c) : Below B a c := h.trans (k.mono (Nat.le_trans hB h.size))
theorem below_draws {B : Nat} {a w : World} (h : Below B a w) (n : Nat) : Below B a (w.drewN n) := ⟨h.os, h.tape, h.output, h.size, h.block⟩
structure Tm where
  e : Nat
  a : Nat
  b : Nat
  deriving DecidableEq, Inhabited

namespace Tm
def cells (t : Tm) : List Value := [.int .u64 (t.e : Int), .int .u64 (t.a : Int), .int .u64 (t.b : Int)]
def val (t : Tm) : Value := .agg #[.int .u64 (t.e : Int), .int .u64 (t.a : Int), .int .u64 (t.b : Int)]
def le (s t : Tm) : Bool := decide (s.e ≤ t.e) && (decide (s.a ≤ t.a) && decide (s.b ≤ t.b))
def cmpN (x y : Nat) : Int := if x < y then -1 else if y < x then 1 else 0
def cmp (s t : Tm) : Int := if s.e ≠ t.e then cmpN s.e t.e else if s.a ≠ t.a then cmpN s.a t.a else cmpN s.b t.b
def sup (s t : Tm) : Tm := ⟨max s.e t.e, max s.a t.a, max s.b t.b⟩
def inf (s t : Tm) : Tm := ⟨min s.e t.e, min s.a t.a, min s.b t.b⟩
theorem le_iff {s t : Tm} : s.le t = true ↔ s.e ≤ t.e ∧ s.a ≤ t.a ∧ s.b ≤ t.b := by simp [le]
end Tm
end Go.Proofs.YtjffohpdjicfpaaGreat
namespace Go.Proofs.YtjffohpdjicfpaaGreat
open Go Go.RowKit
theorem ret_bool {a b : Bool} (h : a = b) : Ending.returned (.bool a) = .returned (.bool b) := by rw [h]
theorem ret_i64 {a b : Int} (h : a = b) : Ending.returned (.int .i64 a) = .returned (.int .i64 b) := by rw [h]
theorem ret_u64 {a b : Int} (h : a = b) : Ending.returned (.int .u64 a) = .returned (.int .u64 b) := by rw [h]
theorem olds {W w1 : World} (h : Below W.heap.size W w1) : (∀ b o, b < W.heap.size → w1.cell? ⟨b, o, none⟩ = W.cell? ⟨b, o, none⟩) ∧ (∀ b o, b < W.heap.size → w1.frozen? ⟨b, o, none⟩ = W.frozen? ⟨b, o, none⟩) :=
  ⟨fun b o hb => h.cell (p := ⟨b, o, none⟩) hb, fun b o hb => h.frozen (p := ⟨b, o, none⟩) hb⟩
def Own (w : World) (g : Nat) (t : TypeId) (l : List Value) : Prop := w.heap[g]? = some (.cells l.toArray t (0, 0))
section
variable {w w' : World} {g : Nat} {t : TypeId} {l : List Value}
theorem Own.inside (h : Own w g t l) : g < w.heap.size := by
  unfold Own at h
  exact (Array.getElem?_eq_some_iff.1 h).1
theorem Own.at_ (h : Own w g t l) (i : Nat) : w.cell? ⟨g, i, none⟩ = l[i]? := by
  unfold Own at h
  simp [World.cell?, h]
theorem Own.open_ (h : Own w g t l) (i : Nat) : w.frozen? ⟨g, i, none⟩ = false := by
  unfold Own at h
  simp [World.frozen?, h]
theorem Own.made (w : World) (t : TypeId) (l : List Value) : Own (w.alloc (.cells l.toArray t)) w.heap.size t l := heap_alloc_new w _
theorem Own.draws (h : Own w g t l) (n : Nat) : Own (w.drewN n) g t l := h
theorem Own.more (h : Own w g t l) (o : Obj) : Own (w.alloc o) g t l := (Below.heap_alloc w o g h.inside).trans h
theorem Own.set_ (h : Own w g t l) (i : Nat) (u : Value) : Own (w.setCell ⟨g, i, none⟩ u) g t (l.set i u) := by
  unfold Own at h ⊢
  have : (l.set i u).toArray = l.toArray.setIfInBounds i u := by apply Array.ext'; simp
  rw [this]
  simp [World.setCell, Array.getElem?_modify, h]
theorem Own.other (h : Own w g t l) {p : Addr} (hp : p.block ≠ g) (u : Value) : Own (w.setCell p u) g t l := (Below.heap_setCell w p u g (Ne.symm hp)).trans h
theorem Own.past {B : Nat} (h : Own w g t l) (hb : Below B w w') (hg : g < B) : Own w' g t l := (hb.block g hg).trans h
theorem own_of {l' : List Value} (h : Own w g t l) (e : l = l') : Own w g t l' := e ▸ h
theorem Own.stored3 {a b c : Value} (h : Own w g t [a, b, c]) (x y z : Value) :
    (w.setCell ⟨g, 0, none⟩ x).cell? ⟨g, 0, none⟩ = some x ∧ ((w.setCell ⟨g, 0, none⟩ x).setCell ⟨g, 1, none⟩ y).cell? ⟨g, 1, none⟩ = some y ∧
      (((w.setCell ⟨g, 0, none⟩ x).setCell ⟨g, 1, none⟩ y).setCell ⟨g, 2, none⟩ z).cell? ⟨g, 2, none⟩ = some z :=
  ⟨(h.set_ 0 x).at_ 0, ((h.set_ 0 x).set_ 1 y).at_ 1, (((h.set_ 0 x).set_ 1 y).set_ 2 z).at_ 2⟩
theorem below_set3 {B : Nat} {u : World} (h : Below B u w) (hg : B ≤ g) (x y z : Value) : Below B u (((w.setCell ⟨g, 0, none⟩ x).setCell ⟨g, 1, none⟩ y).setCell ⟨g, 2, none⟩ z) :=
  ((h.setCell (p := ⟨g, 0, none⟩) hg _).setCell (p := ⟨g, 1, none⟩) hg _).setCell (p := ⟨g, 2, none⟩) hg _
end
def TmAt (w : World) (b o : Nat) (t : Tm) : Prop :=
  w.cell? ⟨b, o, none⟩ = some (.int .u64 (t.e : Int)) ∧ w.cell? ⟨b, o + 1, none⟩ = some (.int .u64 (t.a : Int)) ∧ w.cell? ⟨b, o + 2, none⟩ = some (.int .u64 (t.b : Int))
def Times (w : World) (B : Nat) (A : Option Addr) (l : List Tm) : Prop :=
  0 < l.length → ∃ b o, A = some ⟨b, o, none⟩ ∧ b < B ∧ ∀ (i : Nat) (t : Tm), l[i]? = some t → TmAt w b (o + i * 3) t
section
variable {w w' : World} {B B' b o : Nat} {A : Option Addr} {l : List Tm} {t : Tm}
theorem TmAt.past (h : TmAt w b o t) (hb : Below B w w') (hB : b < B) : TmAt w' b o t :=
  ⟨(hb.cell (p := ⟨b, o, none⟩) hB).trans h.1, (hb.cell (p := ⟨b, o + 1, none⟩) hB).trans h.2.1, (hb.cell (p := ⟨b, o + 2, none⟩) hB).trans h.2.2⟩
theorem Times.past (h : Times w B A l) (hb : Below B' w w') (hB : B ≤ B') : Times w' B A l := fun hn => by
  obtain ⟨b, o, e, hlt, hc⟩ := h hn
  exact ⟨b, o, e, hlt, fun i t hi => (hc i t hi).past hb (by omega)⟩
theorem Times.wide (h : Times w B A l) (hB : B ≤ B') : Times w B' A l := fun hn => by
  obtain ⟨b, o, e, hlt, hc⟩ := h hn
  exact ⟨b, o, e, by omega, hc⟩
theorem Times.nil_ : Times w B A [] := fun h => absurd h (by simp)
end
end Go.Proofs.YtjffohpdjicfpaaGreat
namespace Go.Proofs.YtjffohpdjicfpaaGreat
open Go Go.RowKit Go.ChangeShapes Go.WideShapes Go.ChangeAt Go.Deep
set_option maxRecDepth 100000
section
variable {H : Type} {enc : TypeId × Value → H} {w : World} {base : Nat} {spare : Nat → Bool} {held : Bool}
theorem wf_nat {n : Int} (h : (Lit.int .u64 n).wf = true) : ∃ m : Nat, n = (m : Int) := by
  have h2 : 0 ≤ n := by
    have : 0 ≤ n ∧ n ≤ 18446744073709551615 := by simpa [Lit.wf, IntKind.min, IntKind.max, IntKind.signed, IntKind.bits] using h
    exact this.1
  exact ⟨n.toNat, (Int.toNat_of_nonneg h2).symm⟩
theorem trod_time {fuel : Nat} {cs : List Value} {x : DataW H × List MemPlace} (h : DataW.trod enc Tryz.prog w base spare held fuel 26 cs = some x) : ∃ t : Tm, cs = t.cells := by
  obtain ⟨xs, n, _, _, hlen, hxs, hf⟩ := DataW.trod_struct Tryz.underlying26 h
  have hc : Tryz.prog.cellsOf 26 = 3 := by kernel_rfl
  have hc1 : Tryz.prog.cellsOf 23 = 1 := by kernel_rfl
  have hc2 : Tryz.prog.cellsOf 24 = 2 := by kernel_rfl
  rw [hc] at hlen
  match cs, hlen with
  | [c0, c1, c2], _ =>
    have h0 := hf 0 _ rfl
    have h1 := hf 1 _ rfl
    match xs, hxs with
    | [y0, y1], _ =>
      simp only [hc1, hc2, List.drop_zero, List.take_succ_cons, List.take_zero, List.drop_succ_cons, List.getElem?_cons_zero, List.getElem?_cons_succ] at h0 h1
      obtain ⟨n0, e0, _, w0⟩ := DataW.trod_int Tryz.underlying23 h0
      obtain ⟨zs, m, _, _, _, hzs, hg⟩ := DataW.trod_array Tryz.underlying24 h1
      match zs, hzs with
      | [z0, z1], _ =>
        have k0 := hg 0 (by omega)
        have k1 := hg 1 (by omega)
        simp only [hc1, Nat.zero_mul, Nat.one_mul, List.drop_zero, List.take_succ_cons, List.take_zero, List.drop_succ_cons, List.getElem?_cons_zero, List.getElem?_cons_succ] at k0 k1
        obtain ⟨n1, e1, _, w1⟩ := DataW.trod_int Tryz.underlying23 k0
        obtain ⟨n2, e2, _, w2⟩ := DataW.trod_int Tryz.underlying23 k1
        obtain ⟨m0, rfl⟩ := wf_nat w0
        obtain ⟨m1, rfl⟩ := wf_nat w1
        obtain ⟨m2, rfl⟩ := wf_nat w2
        obtain rfl := (List.cons.inj e0).1
        obtain rfl := (List.cons.inj e1).1
        obtain rfl := (List.cons.inj e2).1
        exact ⟨⟨m0, m1, m2⟩, rfl⟩
theorem open_time {r : Reach} {b0 : Nat} {v : Value} {d : DataW H} {p : List MemPlace} (hv : Value.okWide Tryz.prog w r b0 26 v) (h : DataW.Trod enc Tryz.prog w base spare held 26 v d p) : ∃ t : Tm, v = t.val := by
  obtain ⟨cs, rfl, hsz⟩ := okWide_struct Tryz.underlying26 hv
  obtain ⟨fuel, hf⟩ := h
  obtain ⟨t, ht⟩ := trod_time hf
  refine ⟨t, ?_⟩
  obtain ⟨l⟩ := cs
  simp only [Value.cells] at ht
  unfold Tm.val
  rw [show l = t.cells from by simpa using ht]
  rfl
end
end Go.Proofs.YtjffohpdjicfpaaGreat
namespace Go.Proofs.YtjffohpdjicfpaaGreat
open Go Go.RowKit
structure Vl where
  t : Bool
  n : Int
  s : ByteArray

namespace Vl
def cells (v : Vl) : List Value := [.bool v.t, .int .i64 v.n, .string v.s]
def val (v : Vl) : Value := .agg #[.bool v.t, .int .i64 v.n, .string v.s]
def right (v : Vl) : Bool := if v.t then v.n == 0 && decide (v.s.size ≤ 64) else v.s.data.toList.isEmpty
def cmpI (x y : Int) : Int := if x < y then -1 else if y < x then 1 else 0
def cmp (a b : Vl) : Int := if a.t then (if b.t then Lib.compareBytes a.s.data.toList b.s.data.toList else 1) else if b.t then -1 else cmpI a.n b.n
end Vl
def cmpRows : List Vl → List Vl → Int
  | [], [] => 0
  | [], _ :: _ => -1
  | _ :: _, [] => 1
  | x :: a, y :: b => if x.cmp y = 0 then cmpRows a b else x.cmp y
end Go.Proofs.YtjffohpdjicfpaaGreat
namespace Go.Proofs.YtjffohpdjicfpaaGreat
open Go Go.RowKit
set_option maxRecDepth 100000 in
set_option maxHeartbeats 400000 in
theorem nanI_any (x : Int) (w : World) :
    Calls Tryz.prog 198 #[.int .i64 x] w fun e w' => e = .returned (.bool false) ∧ w = w' := by
  go_enter Tryz.func198, Tryz.ntmps198
  go_wp2_with fail
  go_ret
  exact ⟨ret_bool (by simp), rfl⟩
set_option maxRecDepth 100000 in
set_option maxHeartbeats 800000 in
theorem cmpInt_any (x y : Int) (w : World) :
    Calls Tryz.prog 167 #[.int .i64 x, .int .i64 y] w fun e w' => e = .returned (.int .i64 (Vl.cmpI x y)) ∧ w = w' := by
  go_enter Tryz.func167, Tryz.ntmps167
  go_wp2_with (go_at_call 198; refine (nanI_any _ _).mono ?_; rintro e w' ⟨rfl, rfl⟩)
  all_goals
    go_ret
    refine ⟨ret_i64 ?_, rfl⟩
    unfold Vl.cmpI
    repeat' split
    all_goals first | rfl | omega
theorem cmpStr_any (a b : ByteArray) (w : World) :
    Calls Tryz.prog 166 #[.string a, .string b] w fun e w' => e = .returned (.int .i64 (Lib.compareBytes a.data.toList b.data.toList)) ∧ w = w' :=
  (Tryz.strings_Compare a b w).mono fun _ _ ⟨h, k⟩ => ⟨h, k.symm⟩

set_option maxRecDepth 100000 in
set_option maxHeartbeats 1600000 in
theorem vcompare_any (a b : Vl) (w : World) :
    Calls Tryz.prog 117 #[a.val, b.val] w fun e w' => e = .returned (.int .i64 (a.cmp b)) ∧ Below w.heap.size w w' := by
  have HB := Lib.hid (fun (o1 o2 : Obj) => (((Below.refl w.heap.size w).alloc (Nat.le_refl _) o1).alloc (by simp) o2))
  obtain ⟨p, n, s⟩ := a
  obtain ⟨q, m, t⟩ := b
  unfold Vl.val Vl.cmp
  dsimp only
  cases p <;> cases q
  all_goals
    simp only [Bool.false_eq_true, if_false, if_true]
    go_enter Tryz.func117, Tryz.ntmps117
    go_wp2_with (first | (go_at_call 167; refine (cmpInt_any _ _ _).mono ?_; rintro e w' ⟨rfl, rfl⟩) | (go_at_call 166; refine (cmpStr_any _ _ _).mono ?_; rintro e w' ⟨rfl, rfl⟩))
    go_ret
    exact ⟨rfl, HB.out _ _⟩
set_option maxRecDepth 100000 in
set_option maxHeartbeats 800000 in
theorem right_any (a : Vl) (w : World) (hs : a.s.size ≤ maxLen) :
    Calls Tryz.prog 86 #[a.val] w fun e w' => e = .returned (.bool a.right) ∧ Below w.heap.size w w' := by
  have HB := Lib.hid (fun (o1 : Obj) => ((Below.refl w.heap.size w).alloc (Nat.le_refl _) o1))
  obtain ⟨p, n, s⟩ := a
  unfold Vl.val Vl.right
  unfold maxLen at hs
  dsimp only at hs ⊢
  cases p
  · simp only [Bool.false_eq_true, if_false]
    go_enter Tryz.func86, Tryz.ntmps86
    go_wp2_with fail
    go_ret
    exact ⟨ret_bool (by rw [ByteArray.toList_eq]), HB.out _⟩
  · simp only [if_true]
    by_cases hn : n = 0
    · subst hn
      go_enter Tryz.func86, Tryz.ntmps86
      go_wp2_with fail
      go_ret
      exact ⟨ret_bool (by simp; omega), HB.out _⟩
    · have hnb : (n == 0) = false := by simpa using hn
      go_enter Tryz.func86, Tryz.ntmps86
      go_wp2_with fail
      go_ret
      exact ⟨ret_bool (by simp [hn]), HB.out _⟩

def VlAt (w : World) (b o : Nat) (v : Vl) : Prop :=
  w.cell? ⟨b, o, none⟩ = some (.bool v.t) ∧ w.cell? ⟨b, o + 1, none⟩ = some (.int .i64 v.n) ∧ w.cell? ⟨b, o + 2, none⟩ = some (.string v.s)
def Vals (w : World) (B : Nat) (A : Option Addr) (l : List Vl) : Prop :=
  0 < l.length → ∃ b o, A = some ⟨b, o, none⟩ ∧ b < B ∧ ∀ (i : Nat) (v : Vl), l[i]? = some v → VlAt w b (o + i * 3) v
def VOk (x : Vl) : Prop := x.s.size ≤ maxLen ∧ -9223372036854775808 ≤ x.n ∧ x.n ≤ 9223372036854775807
section
variable {w w' : World} {B B' b o : Nat} {A : Option Addr} {l : List Vl} {v : Vl}
theorem VlAt.past (h : VlAt w b o v) (hb : Below B w w') (hB : b < B) : VlAt w' b o v :=
  ⟨(hb.cell (p := ⟨b, o, none⟩) hB).trans h.1, (hb.cell (p := ⟨b, o + 1, none⟩) hB).trans h.2.1, (hb.cell (p := ⟨b, o + 2, none⟩) hB).trans h.2.2⟩
theorem Vals.past (h : Vals w B A l) (hb : Below B' w w') (hB : B ≤ B') : Vals w' B A l := fun hn => by
  obtain ⟨b, o, e, hlt, hc⟩ := h hn
  exact ⟨b, o, e, hlt, fun i v hi => (hc i v hi).past hb (by omega)⟩
theorem Vals.wide (h : Vals w B A l) (hB : B ≤ B') : Vals w B' A l := fun hn => by
  obtain ⟨b, o, e, hlt, hc⟩ := h hn
  exact ⟨b, o, e, by omega, hc⟩
theorem Vals.nil_ : Vals w B A [] := fun h => absurd h (by simp)
end
theorem vals_keep {a b : World} {A : Option Addr} {l : List Vl} (h : Vals a a.heap.size A l) (hb : Below a.heap.size a b) : Vals b b.heap.size A l := (h.past hb (Nat.le_refl _)).wide hb.size
def chkRow (l : List Vl) : Int := if l.all Vl.right && decide (l.length ≤ 8) then 0 else 4
theorem rightV_snoc {l : List Vl} {s : Vl} {k : Nat} (h : l[k]? = some s) : (l.take (k + 1)).all Vl.right = ((l.take k).all Vl.right && s.right) := by
  rw [List.take_add_one, h]; simp
theorem chkRow_bad {l : List Vl} {s : Vl} {k : Nat} (h : l[k]? = some s) (hs : s.right = false) : chkRow l = 4 := by
  unfold chkRow
  rw [if_neg]
  intro hc
  simp only [Bool.and_eq_true] at hc
  have := (List.all_eq_true.1 hc.1) s (List.mem_of_getElem? h)
  simp [hs] at this

set_option maxRecDepth 100000 in
set_option maxHeartbeats 1600000 in
theorem vcheck_any (A : Option Addr) (c : Nat) (l : List Vl) (w : World) (hl : Vals w w.heap.size A l) (hn : l.length ≤ maxLen) (hs : ∀ v ∈ l, v.s.size ≤ maxLen) :
    Calls Tryz.prog 45 #[.slice A l.length c] w fun e w' => e = .returned (.int .i64 (chkRow l)) ∧ Below w.heap.size w w' := by
  unfold maxLen at hn
  have Hl := Lib.hid (And.intro hl hs)
  clear hl hs
  have hright := fun v W h => Lib.hid (right_any v W h)
  unfold Vl.val at hright
  by_cases h8 : 8 < l.length
  · have hr : chkRow l = 4 := by unfold chkRow; rw [if_neg]; simp; omega
    rw [hr]
    clear hr
    go_enter Tryz.func45, Tryz.ntmps45
    go_wp2_with fail
    go_ret
    exact ⟨rfl, Below.refl _ _⟩
  · go_enter Tryz.func45, Tryz.ntmps45
    go_wp2_with fail
    go_loopw [10] (fun i wr => ∃ k : Nat, i = .int .i64 (k : Int) ∧ k ≤ l.length ∧ Below w.heap.size w wr ∧ (l.take k).all Vl.right = true)
      (fun i _ => l.length - (intOf i).toNat)
    case atStart => exact ⟨0, rfl, by omega, Below.refl _ _, rfl⟩
    case round =>
      obtain ⟨k, rfl, hk, hb, he⟩ := hrel
      by_cases hlt : k < l.length
      · have hx : l[k]? = some l[k] := List.getElem?_eq_getElem hlt
        obtain ⟨b, o, rfl, hB, hl⟩ := Hl.out.1 (by omega)
        obtain ⟨c0, c1, c2⟩ := (hl k _ hx).past hb hB
        have hsn := rightV_snoc hx
        have hbad := fun h => chkRow_bad hx h
        have hsz := Hl.out.2 _ (List.mem_of_getElem? hx)
        generalize l[k] = s at *
        have hcall := fun W => hright s W hsz
        have HH := Lib.hid (And.intro hb (And.intro he (And.intro hx (And.intro hsn hbad))))
        clear hb he hx hl hsn hbad hsz hright
        by_cases hr : s.right = true
        · simp only [hr] at hcall
          have HE := Lib.hid hr
          clear hr
          go_wp2_with fail
          refine (hcall _).out.mono ?_
          rintro e w1 ⟨rfl, h1⟩
          have H1 := Lib.hid (below_then ((Below.refl wr.heap.size wr).alloc (Nat.le_refl _) _) (by simp) h1)
          clear h1
          go_wp2_with fail
          obtain ⟨hb, he, hx, hsn, hbad⟩ := HH.out
          go_roundw
          case rel => exact ⟨k + 1, by go_num, by omega, hb.trans (H1.out.mono hb.size), by rw [hsn, he, HE.out]; rfl⟩
          case measure => simp [intOf]; omega
        · have hrf : s.right = false := by simpa using hr
          simp only [hrf] at hcall
          have HE := Lib.hid hrf
          clear hr hrf
          go_wp2_with fail
          refine (hcall _).out.mono ?_
          rintro e w1 ⟨rfl, h1⟩
          have H1 := Lib.hid (below_then ((Below.refl wr.heap.size wr).alloc (Nat.le_refl _) _) (by simp) h1)
          clear h1
          go_wp2_with fail
          go_ret
          obtain ⟨hb, he, hx, hsn, hbad⟩ := HH.out
          exact ⟨ret_i64 (hbad HE.out).symm, hb.trans (H1.out.mono hb.size)⟩
      · have hk2 : k = l.length := by omega
        subst hk2
        rw [List.take_length] at he
        have HH := Lib.hid (And.intro hb he)
        clear hb he
        go_wp2_with fail
        go_ret
        obtain ⟨hb, he⟩ := HH.out
        exact ⟨ret_i64 (by unfold chkRow; rw [if_pos]; simp [he]; omega), hb⟩

structure Past (V : World) where
  w : World
  h : Below V.heap.size V w
instance (V : World) : Nonempty (Past V) := ⟨⟨V, Below.refl _ _⟩⟩
instance (V : World) : Inhabited (Past V) := ⟨⟨V, Below.refl _ _⟩⟩
theorem wp_region_past {P : Program} {id : Nat} {Q : Exit → Act → World → Prop} {a : Act} {w : World} {l : List Oper} (V : World) (hm : P.follows .mixedOrders = true) (hB : Region.lexB .any l.toArray = true) (hV : Below V.heap.size V w)
    (h : wpQuiet P l.toArray (fun w' => ∃ p : Past V, w' = p.w) (fun a' => ∀ w', (∃ p : Past V, w' = p.w) → Q .normal a' w') l a) : (Code.region id l.toArray true).wp P Q a w :=
  wp_region_quiet (C := fun w' => ∃ p : Past V, w' = p.w) hm hB ⟨⟨_, hV.drew⟩, rfl⟩ (by simpa using h)
theorem calls_past {P : Program} {V : World} {f : FuncId} {args : Array Value} {p : Past V} {v : Value}
    (h : Calls P f args p.w fun e w' => e = .returned v ∧ Below p.w.heap.size p.w w') : Calls P f args p.w fun e w'' => e = .returned v ∧ ∃ q : Past V, w'' = q.w :=
  h.mono fun _ w' ⟨he, hb⟩ => ⟨he, ⟨w', belows p.h hb⟩, rfl⟩
theorem u8_eq {a b : UInt8} (h1 : ¬ a < b) (h2 : ¬ b < a) : a = b := by
  rw [UInt8.lt_iff_toNat_lt] at h1 h2
  exact UInt8.toNat_inj.1 (by omega)
theorem cmpB_cases : ∀ a b : List UInt8, (Lib.compareBytes a b = -1 ∧ Op.bytesLess a b = true) ∨ (Lib.compareBytes a b = 0 ∧ Op.bytesLess a b = false ∧ a = b) ∨ (Lib.compareBytes a b = 1 ∧ Op.bytesLess a b = false ∧ a ≠ b)
  | [], [] => .inr (.inl ⟨rfl, rfl, rfl⟩)
  | [], _ :: _ => .inl ⟨rfl, rfl⟩
  | _ :: _, [] => .inr (.inr ⟨rfl, rfl, by simp⟩)
  | x :: a, y :: b => by
    have ih := cmpB_cases a b
    unfold Lib.compareBytes Op.bytesLess
    by_cases h1 : x < y
    · left; simp [h1]
    · by_cases h2 : y < x
      · have hne : x ≠ y := fun e => by subst e; exact h1 h2
        right; right; simp [h1, h2, hne]
      · have he := u8_eq h1 h2
        subst he
        simpa [h1] using ih

instance : DecidableEq Vl := fun a b => decidable_of_iff (a.t = b.t ∧ a.n = b.n ∧ a.s = b.s) ⟨fun ⟨h1, h2, h3⟩ => by cases a; cases b; simp_all, fun h => by subst h; exact ⟨rfl, rfl, rfl⟩⟩
theorem same_take {a b : List Vl} {k : Nat} {x y : Vl} (h : a.take k = b.take k) (hx : a[k]? = some x) (hy : b[k]? = some y) (e : x = y) : a.take (k + 1) = b.take (k + 1) := by
  rw [List.take_add_one, List.take_add_one, h, hx, hy, e]
theorem same_ne {a b : List Vl} {k : Nat} {x y : Vl} (hx : a[k]? = some x) (hy : b[k]? = some y) (e : x ≠ y) : a ≠ b := by
  rintro rfl
  rw [hx] at hy
  exact e (Option.some.inj hy)
theorem grd_val (op : BinOp) (x y : Operand) (xs ys : Array Value) (w : World) : (eqGuard op 122 x y (.agg xs) (.agg ys)).run Tryz.prog w = .ok () w := run_eqGuard_agg w op _ x y xs ys (by kernel_rfl)
def eqV (x y : Vl) : Bool := (x.t == y.t) && ((x.n == y.n) && (x.s.toList == y.s.toList))
theorem eqV_iff {x y : Vl} : eqV x y = true ↔ x = y := by
  obtain ⟨a, b, c⟩ := x
  obtain ⟨a', b', c'⟩ := y
  simp only [eqV, Bool.and_eq_true, beq_iff_eq, Vl.mk.injEq]
  refine ⟨fun ⟨h1, h2, h3⟩ => ⟨h1, h2, ?_⟩, fun ⟨h1, h2, h3⟩ => ⟨h1, h2, by rw [h3]⟩⟩
  rw [ByteArray.toList_eq, ByteArray.toList_eq] at h3
  cases c; cases c'; simp only at h3; congr 1; exact Array.toList_inj.1 h3
theorem eqIn_val (x y : Vl) (w : World) : (Op.equalIn 10000 122 x.val y.val).run Tryz.prog w = .ok (eqV x y) w := by
  have u0 := Tryz.underlying4
  have u1 := Tryz.underlying2
  have u2 := Tryz.underlying9
  have z0 := Tryz.sizeOf4
  have a0 := Tryz.isAgg4
  have z1 := Tryz.sizeOf2
  have a1 := Tryz.isAgg2
  have z2 := Tryz.sizeOf9
  have a2 := Tryz.isAgg9
  have hS : Tryz.prog.underlying 122 = some (.struct (Tryz.prog.fieldsOf 122)) := by kernel_rfl
  have hp : Tryz.prog.stoodInHeld 122 = false := by kernel_rfl
  unfold Vl.val
  rw [show (10000 : Nat) = 9998 + 1 + 1 from rfl, run_equalIn_agg w _ _ _ _ hS hp]
  simp only [Program.fieldsOf, Tryz.underlying122, eqV]
  cases h0 : (x.t == y.t) <;> cases h1 : (x.n == y.n) <;>
    simp [Op.eqFields, part, a0, a1, a2, z0, z1, z2, h0, h1, run_equalIn_bool' w _ _ _ _ u0, run_equalIn_int w _ _ _ _ _ _ u1, run_equalIn_string w _ _ _ _ u2, go_sem]
  all_goals (split <;> simp_all)
theorem neq_val (x y : Vl) (w : World) : (binOp .neq 122 x.val y.val).run Tryz.prog w = .ok (.bool (!eqV x y)) w := by
  have h := eqIn_val x y w
  unfold Vl.val at h ⊢
  rw [run_neq_struct, h]; rfl
set_option maxRecDepth 100000 in
set_option maxHeartbeats 1600000 in
theorem vsame_any (A A' : Option Addr) (c c' : Nat) (l m : List Vl) (w : World) (hl : Vals w w.heap.size A l) (hm : Vals w w.heap.size A' m) (hn : l.length ≤ maxLen) (hn' : m.length ≤ maxLen) :
    Calls Tryz.prog 26 #[.slice A l.length c, .slice A' m.length c'] w fun e w' => e = .returned (.bool (decide (l = m))) ∧ Below w.heap.size w w' := by
  unfold maxLen at hn hn'
  by_cases hlen : l.length = m.length
  · have Hl := Lib.hid (And.intro hl hm)
    have HLen := Lib.hid hlen
    have qq : ((l.length : Int) != (m.length : Int)) = false := by simp [hlen]
    clear hl hm
    have hle := Nat.le_of_eq hlen
    have hge := Nat.le_of_eq hlen.symm
    clear hlen
    go_enter Tryz.func26, Tryz.ntmps26
    go_wp2_with fail
    go_loopw [13] (fun i wr => ∃ k : Nat, i = .int .i64 (k : Int) ∧ k ≤ l.length ∧ Below w.heap.size w wr ∧ l.take k = m.take k)
      (fun i _ => l.length - (intOf i).toNat)
    case atStart => exact ⟨0, rfl, by omega, Below.refl _ _, rfl⟩
    case round =>
      obtain ⟨k, rfl, hk, hb, hs⟩ := hrel
      by_cases hlt : k < l.length
      · have hltm : k < m.length := by omega
        have hx : l[k]? = some l[k] := List.getElem?_eq_getElem hlt
        have hy : m[k]? = some m[k] := List.getElem?_eq_getElem hltm
        obtain ⟨b, o, rfl, hB, hl⟩ := Hl.out.1 (by omega)
        obtain ⟨b', o', rfl, hB', hm⟩ := Hl.out.2 (by omega)
        obtain ⟨c0, c1, c2⟩ := (hl k _ hx).past hb hB
        obtain ⟨d0, d1, d2⟩ := (hm k _ hy).past hb hB'
        have hst := fun e => same_take hs hx hy e
        have hsn := fun e => same_ne hx hy e
        generalize l[k] = x at *
        generalize m[k] = y at *
        have hne := neq_val x y
        have hgd := fun (x1 y1 : Operand) (xs ys : Array Value) (w : World) => grd_val .neq x1 y1 xs ys w
        unfold Vl.val at hne
        have q0 : (0 : Int) ≤ (k : Int) := by omega
        have q1 : (k : Int) < (l.length : Int) := by omega
        have q2 : (k : Int) < (m.length : Int) := by omega
        have HH := Lib.hid (And.intro hb (And.intro hst hsn))
        clear hb hs hx hy hl hm hst hsn
        by_cases he : x = y
        · have hv : (!eqV x y) = false := by rw [eqV_iff.2 he]; rfl
          simp only [hv] at hne
          have HE := Lib.hid he
          clear he hv
          go_wp2_with fail
          go_quiet (fail)
          go_wp2_with fail
          obtain ⟨hb, hst, hsn⟩ := HH.out
          go_roundw
          case rel => exact ⟨k + 1, by go_num, by omega, below_draws hb _, hst HE.out⟩
          case measure => simp [intOf]; omega
        · have hv : (!eqV x y) = true := by rw [Bool.not_eq_true', ← Bool.not_eq_true, eqV_iff]; exact he
          simp only [hv] at hne
          have HE := Lib.hid he
          clear he hv
          go_wp2_with fail
          go_quiet (fail)
          go_wp2_with fail
          go_ret
          obtain ⟨hb, hst, hsn⟩ := HH.out
          exact ⟨ret_bool (decide_eq_false (hsn HE.out)).symm, below_draws hb _⟩
      · have hk2 : k = l.length := by omega
        subst hk2
        rw [List.take_length, List.take_of_length_le (by omega)] at hs
        have HH := Lib.hid (And.intro hb hs)
        clear hb hs
        go_wp2_with fail
        go_ret
        exact ⟨ret_bool (decide_eq_true HH.out.2).symm, HH.out.1⟩
  · have q1 : ((l.length : Int) != (m.length : Int)) = true := by simp; omega
    have hne : decide (l = m) = false := decide_eq_false (fun e => hlen (by rw [e]))
    have HN := Lib.hid hne
    clear hlen hl hm hne
    go_enter Tryz.func26, Tryz.ntmps26
    go_wp2_with fail
    go_ret
    exact ⟨ret_bool HN.out.symm, Below.refl _ _⟩
attribute [local go_sem ↓] Go.wp_at_zero Go.wp_at_succ


set_option maxRecDepth 100000 in
set_option maxHeartbeats 400000 in
theorem greater_any (x y : Nat) (w : World) :
    Calls Tryz.prog 81 #[.int .u64 (x : Int), .int .u64 (y : Int)] w fun e w' => e = .returned (.int .u64 ((max x y : Nat) : Int)) ∧ w = w' := by
  go_enter Tryz.func81, Tryz.ntmps81
  go_wp2_with fail
  all_goals
    go_ret
    exact ⟨ret_u64 (by omega), rfl⟩

set_option maxRecDepth 100000 in
set_option maxHeartbeats 800000 in
theorem each_greater (a b c d : Nat) (w : World) :
    Calls Tryz.prog 80 #[.agg #[.int .u64 (a : Int), .int .u64 (b : Int)], .agg #[.int .u64 (c : Int), .int .u64 (d : Int)], .func (.func 81) #[] #[]] w
      fun e w' => e = .returned (.agg #[.int .u64 ((max a c : Nat) : Int), .int .u64 ((max b d : Nat) : Int)]) ∧ Below w.heap.size w w' := by
  go_enter Tryz.func80, Tryz.ntmps80
  go_wp2_with fail
  go_loopw [8] (fun i wr => ∃ k : Nat, i = .int .i64 (k : Int) ∧ k ≤ 2 ∧ Below w.heap.size w wr ∧
      Own wr w.heap.size 24 [.int .u64 ((if 0 < k then max a c else a : Nat) : Int), .int .u64 ((if 1 < k then max b d else b : Nat) : Int)] ∧
      Own wr (w.heap.size + 1) 24 [.int .u64 (c : Int), .int .u64 (d : Int)] ∧ Own wr (w.heap.size + 1 + 1) 24 [.int .u64 0, .int .u64 0])
    (fun i _ => 2 - (intOf i).toNat)
  case atStart =>
    exact ⟨0, rfl, by omega, (((Below.refl _ _).alloc (Nat.le_refl _) _).alloc (by simp) _).alloc (by simp; omega) _, ((Own.made w _ _).more _).more _, by have := (Own.made (w.alloc (.cells #[.int .u64 (a : Int), .int .u64 (b : Int)] 24)) 24 [.int .u64 (c : Int), .int .u64 (d : Int)]).more (.cells #[.int .u64 0, .int .u64 0] 24); simpa using this, by
      have := Own.made ((w.alloc (.cells #[.int .u64 (a : Int), .int .u64 (b : Int)] 24)).alloc (.cells #[.int .u64 (c : Int), .int .u64 (d : Int)] 24)) 24 [.int .u64 0, .int .u64 0]; simpa using this⟩
  case round =>
    obtain ⟨k, rfl, hk, hb, h1, h2, h3⟩ := hrel
    have hs := h3.inside
    have Hs := Lib.hid (And.intro hb (And.intro h1 (And.intro h2 h3)))
    rcases (by omega : k = 0 ∨ k = 1 ∨ k = 2) with rfl | rfl | rfl
    · have c1 : wr.cell? ⟨w.heap.size, 0, none⟩ = some (.int .u64 (a : Int)) := h1.at_ 0
      have c2 : wr.cell? ⟨w.heap.size + 1, 0, none⟩ = some (.int .u64 (c : Int)) := h2.at_ 0
      have c3 : wr.frozen? ⟨w.heap.size, 0, none⟩ = false := h1.open_ 0
      clear h1 h2 h3 hb hk
      go_wp2_with fail
      go_region_with (go_at_call 81; refine (greater_any _ _ _).mono ?_; rintro e w' ⟨rfl, rfl⟩)
      all_goals
        go_wp2_with fail
        obtain ⟨hb, h1, h2, h3⟩ := Hs.out
        go_roundw
        case rel => exact ⟨1, by go_num, by omega, (hb.setCell (by simp) _).drew, (h1.set_ 0 _).draws 1, (h2.other (by simp) _).draws 1, (h3.other (by simp; omega) _).draws 1⟩
        case measure => simp [intOf]
    · have c1 : wr.cell? ⟨w.heap.size, 1, none⟩ = some (.int .u64 (b : Int)) := h1.at_ 1
      have c2 : wr.cell? ⟨w.heap.size + 1, 1, none⟩ = some (.int .u64 (d : Int)) := h2.at_ 1
      have c3 : wr.frozen? ⟨w.heap.size, 1, none⟩ = false := h1.open_ 1
      clear h1 h2 h3 hb hk
      go_wp2_with fail
      go_region_with (go_at_call 81; refine (greater_any _ _ _).mono ?_; rintro e w' ⟨rfl, rfl⟩)
      all_goals
        go_wp2_with fail
        obtain ⟨hb, h1, h2, h3⟩ := Hs.out
        go_roundw
        case rel => exact ⟨2, by go_num, by omega, (hb.setCell (by simp) _).drew, (h1.set_ 1 _).draws 1, (h2.other (by simp) _).draws 1, (h3.other (by simp; omega) _).draws 1⟩
        case measure => simp [intOf]
    · have c1 : wr.cell? ⟨w.heap.size, 0, none⟩ = some (.int .u64 ((max a c : Nat) : Int)) := h1.at_ 0
      have c2 : wr.cell? ⟨w.heap.size, 1, none⟩ = some (.int .u64 ((max b d : Nat) : Int)) := h1.at_ 1
      have c3 : wr.frozen? ⟨w.heap.size + 1 + 1, 0, none⟩ = false := h3.open_ 0
      have c4 : wr.frozen? ⟨w.heap.size + 1 + 1, 1, none⟩ = false := h3.open_ 1
      have c5 : wr.cell? ⟨w.heap.size + 1 + 1, 0, none⟩ = some (.int .u64 0) := h3.at_ 0
      have c6 : wr.cell? ⟨w.heap.size + 1 + 1, 1, none⟩ = some (.int .u64 0) := h3.at_ 1
      clear h1 h2 h3 hb hk
      go_wp2_with fail
      have h3 := Hs.out.2.2.2
      have d1 : (wr.setCell ⟨w.heap.size + 1 + 1, 0, none⟩ (.int .u64 ((max a c : Nat) : Int))).cell? ⟨w.heap.size + 1 + 1, 0, none⟩ = some (.int .u64 ((max a c : Nat) : Int)) := (h3.set_ 0 _).at_ 0
      have d2 : ((wr.setCell ⟨w.heap.size + 1 + 1, 0, none⟩ (.int .u64 ((max a c : Nat) : Int))).setCell ⟨w.heap.size + 1 + 1, 1, none⟩ (.int .u64 ((max b d : Nat) : Int))).cell? ⟨w.heap.size + 1 + 1, 1, none⟩ = some (.int .u64 ((max b d : Nat) : Int)) := ((h3.set_ 0 _).set_ 1 _).at_ 1
      refine bodyPost_ret (v := .agg #[.int .u64 ((max a c : Nat) : Int), .int .u64 ((max b d : Nat) : Int)]) (by simp [results, Tryz.results80, go_sem, d1, d2]) rfl ⟨rfl, ((Hs.out.1).setCell (by simp; omega) _).setCell (by simp; omega) _⟩

set_option maxRecDepth 100000 in
set_option maxHeartbeats 400000 in
theorem smaller_any (x y : Nat) (w : World) :
    Calls Tryz.prog 212 #[.int .u64 (x : Int), .int .u64 (y : Int)] w fun e w' => e = .returned (.int .u64 ((min x y : Nat) : Int)) ∧ w = w' := by
  go_enter Tryz.func212, Tryz.ntmps212
  go_wp2_with fail
  all_goals
    go_ret
    exact ⟨ret_u64 (by omega), rfl⟩

set_option maxRecDepth 100000 in
set_option maxHeartbeats 800000 in
theorem each_smaller (a b c d : Nat) (w : World) :
    Calls Tryz.prog 80 #[.agg #[.int .u64 (a : Int), .int .u64 (b : Int)], .agg #[.int .u64 (c : Int), .int .u64 (d : Int)], .func (.func 212) #[] #[]] w
      fun e w' => e = .returned (.agg #[.int .u64 ((min a c : Nat) : Int), .int .u64 ((min b d : Nat) : Int)]) ∧ Below w.heap.size w w' := by
  go_enter Tryz.func80, Tryz.ntmps80
  go_wp2_with fail
  go_loopw [8] (fun i wr => ∃ k : Nat, i = .int .i64 (k : Int) ∧ k ≤ 2 ∧ Below w.heap.size w wr ∧
      Own wr w.heap.size 24 [.int .u64 ((if 0 < k then min a c else a : Nat) : Int), .int .u64 ((if 1 < k then min b d else b : Nat) : Int)] ∧
      Own wr (w.heap.size + 1) 24 [.int .u64 (c : Int), .int .u64 (d : Int)] ∧ Own wr (w.heap.size + 1 + 1) 24 [.int .u64 0, .int .u64 0])
    (fun i _ => 2 - (intOf i).toNat)
  case atStart =>
    exact ⟨0, rfl, by omega, (((Below.refl _ _).alloc (Nat.le_refl _) _).alloc (by simp) _).alloc (by simp; omega) _, ((Own.made w _ _).more _).more _, by have := (Own.made (w.alloc (.cells #[.int .u64 (a : Int), .int .u64 (b : Int)] 24)) 24 [.int .u64 (c : Int), .int .u64 (d : Int)]).more (.cells #[.int .u64 0, .int .u64 0] 24); simpa using this, by
      have := Own.made ((w.alloc (.cells #[.int .u64 (a : Int), .int .u64 (b : Int)] 24)).alloc (.cells #[.int .u64 (c : Int), .int .u64 (d : Int)] 24)) 24 [.int .u64 0, .int .u64 0]; simpa using this⟩
  case round =>
    obtain ⟨k, rfl, hk, hb, h1, h2, h3⟩ := hrel
    have hs := h3.inside
    have Hs := Lib.hid (And.intro hb (And.intro h1 (And.intro h2 h3)))
    rcases (by omega : k = 0 ∨ k = 1 ∨ k = 2) with rfl | rfl | rfl
    · have c1 : wr.cell? ⟨w.heap.size, 0, none⟩ = some (.int .u64 (a : Int)) := h1.at_ 0
      have c2 : wr.cell? ⟨w.heap.size + 1, 0, none⟩ = some (.int .u64 (c : Int)) := h2.at_ 0
      have c3 : wr.frozen? ⟨w.heap.size, 0, none⟩ = false := h1.open_ 0
      clear h1 h2 h3 hb hk
      go_wp2_with fail
      go_region_with (go_at_call 212; refine (smaller_any _ _ _).mono ?_; rintro e w' ⟨rfl, rfl⟩)
      all_goals
        go_wp2_with fail
        obtain ⟨hb, h1, h2, h3⟩ := Hs.out
        go_roundw
        case rel => exact ⟨1, by go_num, by omega, (hb.setCell (by simp) _).drew, (h1.set_ 0 _).draws 1, (h2.other (by simp) _).draws 1, (h3.other (by simp; omega) _).draws 1⟩
        case measure => simp [intOf]
    · have c1 : wr.cell? ⟨w.heap.size, 1, none⟩ = some (.int .u64 (b : Int)) := h1.at_ 1
      have c2 : wr.cell? ⟨w.heap.size + 1, 1, none⟩ = some (.int .u64 (d : Int)) := h2.at_ 1
      have c3 : wr.frozen? ⟨w.heap.size, 1, none⟩ = false := h1.open_ 1
      clear h1 h2 h3 hb hk
      go_wp2_with fail
      go_region_with (go_at_call 212; refine (smaller_any _ _ _).mono ?_; rintro e w' ⟨rfl, rfl⟩)
      all_goals
        go_wp2_with fail
        obtain ⟨hb, h1, h2, h3⟩ := Hs.out
        go_roundw
        case rel => exact ⟨2, by go_num, by omega, (hb.setCell (by simp) _).drew, (h1.set_ 1 _).draws 1, (h2.other (by simp) _).draws 1, (h3.other (by simp; omega) _).draws 1⟩
        case measure => simp [intOf]
    · have c1 : wr.cell? ⟨w.heap.size, 0, none⟩ = some (.int .u64 ((min a c : Nat) : Int)) := h1.at_ 0
      have c2 : wr.cell? ⟨w.heap.size, 1, none⟩ = some (.int .u64 ((min b d : Nat) : Int)) := h1.at_ 1
      have c3 : wr.frozen? ⟨w.heap.size + 1 + 1, 0, none⟩ = false := h3.open_ 0
      have c4 : wr.frozen? ⟨w.heap.size + 1 + 1, 1, none⟩ = false := h3.open_ 1
      have c5 : wr.cell? ⟨w.heap.size + 1 + 1, 0, none⟩ = some (.int .u64 0) := h3.at_ 0
      have c6 : wr.cell? ⟨w.heap.size + 1 + 1, 1, none⟩ = some (.int .u64 0) := h3.at_ 1
      clear h1 h2 h3 hb hk
      go_wp2_with fail
      have h3 := Hs.out.2.2.2
      have d1 : (wr.setCell ⟨w.heap.size + 1 + 1, 0, none⟩ (.int .u64 ((min a c : Nat) : Int))).cell? ⟨w.heap.size + 1 + 1, 0, none⟩ = some (.int .u64 ((min a c : Nat) : Int)) := (h3.set_ 0 _).at_ 0
      have d2 : ((wr.setCell ⟨w.heap.size + 1 + 1, 0, none⟩ (.int .u64 ((min a c : Nat) : Int))).setCell ⟨w.heap.size + 1 + 1, 1, none⟩ (.int .u64 ((min b d : Nat) : Int))).cell? ⟨w.heap.size + 1 + 1, 1, none⟩ = some (.int .u64 ((min b d : Nat) : Int)) := ((h3.set_ 0 _).set_ 1 _).at_ 1
      refine bodyPost_ret (v := .agg #[.int .u64 ((min a c : Nat) : Int), .int .u64 ((min b d : Nat) : Int)]) (by simp [results, Tryz.results80, go_sem, d1, d2]) rfl ⟨rfl, ((Hs.out.1).setCell (by simp; omega) _).setCell (by simp; omega) _⟩
def Tm.right (t : Tm) : Bool := decide (t.e ≤ 4611686018427387904) && decide (max t.a t.b ≤ 4611686018427387904)
def chk (l : List Tm) : Int := if l.all Tm.right then 0 else 1
theorem right_snoc {l : List Tm} {s : Tm} {k : Nat} (h : l[k]? = some s) : (l.take (k + 1)).all Tm.right = ((l.take k).all Tm.right && s.right) := by
  rw [List.take_add_one, h]
  simp
theorem chk_bad {l : List Tm} {s : Tm} {k : Nat} (h : l[k]? = some s) (hs : s.right = false) : chk l = 1 := by
  unfold chk
  rw [if_neg]
  intro hc
  have := (List.all_eq_true.1 hc) s (List.mem_of_getElem? h)
  simp [hs] at this
theorem chk_good {l : List Tm} (h : l.all Tm.right = true) : chk l = 0 := by unfold chk; rw [if_pos h]

set_option maxRecDepth 100000 in
set_option maxHeartbeats 400000 in
theorem max_any (g o : Nat) (a b : Nat) (w : World) (h0 : w.cell? ⟨g, o, none⟩ = some (.int .u64 (a : Int))) (h1 : w.cell? ⟨g, o + 1, none⟩ = some (.int .u64 (b : Int))) :
    Calls Tryz.prog 82 #[.slice (some ⟨g, o, none⟩) 2 2] w fun e w' => e = .returned (.int .u64 ((max a b : Nat) : Int)) ∧ w = w' := by
  go_enter Tryz.func82, Tryz.ntmps82
  go_wp2_with fail
  go_rounds 2
  all_goals
    go_ret
    exact ⟨ret_u64 (by omega), rfl⟩

set_option maxRecDepth 100000 in
set_option maxHeartbeats 1600000 in
theorem check_any (A : Option Addr) (c : Nat) (l : List Tm) (w : World) (hl : Times w w.heap.size A l) (hn : l.length ≤ maxLen) :
    Calls Tryz.prog 41 #[.slice A l.length c] w fun e w' => e = .returned (.int .i64 (chk l)) ∧ Below w.heap.size w w' := by
  unfold maxLen at hn
  have Hl := Lib.hid hl
  clear hl
  go_enter Tryz.func41, Tryz.ntmps41
  go_wp2_with fail
  go_loopw [7] (fun i wr => ∃ k : Nat, i = .int .i64 (k : Int) ∧ k ≤ l.length ∧ Below w.heap.size w wr ∧ (l.take k).all Tm.right = true)
    (fun i _ => l.length - (intOf i).toNat)
  case atStart => exact ⟨0, rfl, by omega, Below.refl _ _, rfl⟩
  case round =>
    obtain ⟨k, rfl, hk, hb, he⟩ := hrel
    by_cases hlt : k < l.length
    · have hx : l[k]? = some l[k] := List.getElem?_eq_getElem hlt
      obtain ⟨b, o, rfl, hB, hl⟩ := Hl.out (by omega)
      obtain ⟨c0, c1, c2⟩ := (hl k _ hx).past hb hB
      have hsn := right_snoc hx
      have hbad := fun h => chk_bad hx h
      generalize l[k] = s at *
      have hw : wr.heap.size < (wr.alloc (.cells #[.int .u64 (s.e : Int), .int .u64 (s.a : Int), .int .u64 (s.b : Int)] 26)).heap.size := by simp
      have HH := Lib.hid (And.intro hb (And.intro he (And.intro hx (And.intro hsn hbad))))
      clear hb he hx hl hsn hbad hw
      by_cases h1 : s.e ≤ 4611686018427387904
      · go_wp2_with (go_at_call 82; refine (max_any _ _ s.a s.b _ ?_ ?_).mono ?_; (simp [go_sem]); (simp [go_sem]); rintro e w1 ⟨rfl, rfl⟩)
        · go_ret
          obtain ⟨hb, he, hx, hsn, hbad⟩ := HH.out
          exact ⟨ret_i64 (hbad (by simp [Tm.right]; omega)).symm, hb.alloc hb.size _⟩
        · obtain ⟨hb, he, hx, hsn, hbad⟩ := HH.out
          go_roundw
          case rel => exact ⟨k + 1, by go_num, by omega, hb.alloc hb.size _, by rw [hsn, he]; simp [Tm.right]; omega⟩
          case measure => simp [intOf]; omega
      · go_wp2_with fail
        go_ret
        obtain ⟨hb, he, hx, hsn, hbad⟩ := HH.out
        exact ⟨ret_i64 (hbad (by simp [Tm.right]; omega)).symm, hb.alloc hb.size _⟩
    · have hk2 : k = l.length := by omega
      have HH := Lib.hid (And.intro hb (And.intro he hk2))
      clear hb he hk2
      go_wp2_with fail
      go_ret
      obtain ⟨hb, he, rfl⟩ := HH.out
      exact ⟨ret_i64 (chk_good (by simpa using he)).symm, hb⟩

theorem cmpRows_same : ∀ (k : Nat) (a b : List Vl) , k ≤ a.length → k ≤ b.length → (∀ (j : Nat) (x y : Vl), j < k → a[j]? = some x → b[j]? = some y → x.cmp y = 0) → cmpRows a b = cmpRows (a.drop k) (b.drop k)
  | 0, a, b, _, _, _ => by simp
  | k + 1, [], b, h, _, _ => by simp at h
  | k + 1, x :: a, [], _, h, _ => by simp at h
  | k + 1, x :: a, y :: b, h, h', hs => by
    have h0 := hs 0 x y (by omega) rfl rfl
    rw [cmpRows, if_pos h0, List.drop_succ_cons, List.drop_succ_cons]
    exact cmpRows_same k a b (by simpa using h) (by simpa using h') fun j z u hj hz hu => hs (j + 1) z u (by omega) (by simpa using hz) (by simpa using hu)
theorem cmpRows_at {a b : List Vl} {k : Nat} {x y : Vl} (hs : ∀ (j : Nat) (x y : Vl), j < k → a[j]? = some x → b[j]? = some y → x.cmp y = 0) (hx : a[k]? = some x) (hy : b[k]? = some y) (h : x.cmp y ≠ 0) : cmpRows a b = x.cmp y := by
  obtain ⟨h1, e1⟩ := List.getElem?_eq_some_iff.1 hx
  obtain ⟨h2, e2⟩ := List.getElem?_eq_some_iff.1 hy
  rw [cmpRows_same k a b (by omega) (by omega) hs, List.drop_eq_getElem_cons h1, List.drop_eq_getElem_cons h2, cmpRows, e1, e2, if_neg h]
theorem cmpRows_end {a b : List Vl} {k : Nat} (hs : ∀ (j : Nat) (x y : Vl), j < k → a[j]? = some x → b[j]? = some y → x.cmp y = 0) (h1 : k ≤ a.length) (h2 : k ≤ b.length) (h : k = a.length ∨ k = b.length) :
    cmpRows a b = if a.length < b.length then -1 else if b.length < a.length then 1 else 0 := by
  rw [cmpRows_same k a b h1 h2 hs]
  rcases h with rfl | rfl
  · rw [List.drop_length]
    by_cases h3 : a.length < b.length
    · rw [if_pos h3, List.drop_eq_getElem_cons h3]; rfl
    · rw [if_neg h3, if_neg (by omega), List.drop_of_length_le (by omega)]; rfl
  · rw [List.drop_length]
    by_cases h3 : b.length < a.length
    · rw [if_neg (by omega), if_pos h3, List.drop_eq_getElem_cons h3]; rfl
    · rw [if_neg (by omega), if_neg h3, List.drop_of_length_le (by omega)]; rfl

set_option maxRecDepth 100000 in
set_option maxHeartbeats 1600000 in
theorem cmpFunc_any (A A' : Option Addr) (c c' : Nat) (l m : List Vl) (w : World) (hl : Vals w w.heap.size A l) (hm : Vals w w.heap.size A' m) (hn : l.length ≤ maxLen) (hn' : m.length ≤ maxLen) :
    Calls Tryz.prog 116 #[.slice A l.length c, .slice A' m.length c', .func (.func 117) #[] #[]] w fun e w' => e = .returned (.int .i64 (cmpRows l m)) ∧ Below w.heap.size w w' := by
  unfold maxLen at hn hn'
  have Hl := Lib.hid (And.intro hl hm)
  clear hl hm
  have hcmp := fun x y W => Lib.hid (vcompare_any x y W)
  unfold Vl.val at hcmp
  go_enter Tryz.func116, Tryz.ntmps116
  go_wp2_with fail
  go_loopw [13] (fun i wr => ∃ k : Nat, i = .int .i64 (k : Int) ∧ k ≤ l.length ∧ k ≤ m.length ∧ Below w.heap.size w wr ∧ ∀ (j : Nat) (x y : Vl), j < k → l[j]? = some x → m[j]? = some y → x.cmp y = 0)
    (fun i _ => l.length - (intOf i).toNat)
  case atStart => exact ⟨0, rfl, by omega, by omega, Below.refl _ _, fun j x y hj => absurd hj (by omega)⟩
  case round =>
    obtain ⟨k, rfl, hk, hk', hb, hs⟩ := hrel
    by_cases hlt : k < l.length
    · have hx : l[k]? = some l[k] := List.getElem?_eq_getElem hlt
      obtain ⟨b, o, rfl, hB, hl⟩ := Hl.out.1 (by omega)
      obtain ⟨c0, c1, c2⟩ := (hl k _ hx).past hb hB
      have hB2 : b < wr.heap.size := by have := hb.size; omega
      by_cases hltm : k < m.length
      · have hy : m[k]? = some m[k] := List.getElem?_eq_getElem hltm
        obtain ⟨b', o', rfl, hB', hm⟩ := Hl.out.2 (by omega)
        obtain ⟨d0, d1, d2⟩ := (hm k _ hy).past hb hB'
        have hB3 : b' < wr.heap.size := by have := hb.size; omega
        have hB4 : b' < wr.heap.size + 1 := by omega
        have hat := fun h => cmpRows_at hs hx hy h
        generalize l[k] = x at *
        generalize m[k] = y at *
        have hcall := fun W => hcmp x y W
        have HH := Lib.hid (And.intro hb (And.intro hs (And.intro hx (And.intro hy hat))))
        clear hb hs hx hy hl hm hat hcmp
        have q0 : decide (m.length ≤ k) = false := by simp; omega
        by_cases hz : x.cmp y = 0
        · simp only [hz] at hcall
          have HZ := Lib.hid hz
          clear hz
          go_wp2_with fail
          refine (hcall _).out.mono ?_
          rintro e w1 ⟨rfl, h1⟩
          have H1 := Lib.hid (below_then (((Below.refl wr.heap.size wr).alloc (Nat.le_refl _) _).alloc (by simp) _) (by simp) h1)
          clear h1
          go_wp2_with fail
          obtain ⟨hb, hs, hx, hy, hat⟩ := HH.out
          go_roundw
          case rel =>
            refine ⟨k + 1, by go_num, by omega, by omega, hb.trans (H1.out.mono hb.size), fun j u v hj hu hv => ?_⟩
            by_cases hjk : j = k
            · subst hjk
              rw [hx] at hu; rw [hy] at hv
              injection hu with hu; injection hv with hv
              subst hu hv
              exact HZ.out
            · exact hs j u v (by omega) hu hv
          case measure => simp [intOf]; omega
        · have hzb : (x.cmp y != 0) = true := by simpa using hz
          have hrr := HH.out.2.2.2.2 hz
          generalize x.cmp y = r at hcall hzb hrr
          have HZ := Lib.hid hrr
          clear hz hrr
          go_wp2_with fail
          refine (hcall _).out.mono ?_
          rintro e w1 ⟨rfl, h1⟩
          have H1 := Lib.hid (below_then (((Below.refl wr.heap.size wr).alloc (Nat.le_refl _) _).alloc (by simp) _) (by simp) h1)
          clear h1
          go_wp2_with fail
          go_ret
          obtain ⟨hb, hs, hx, hy, hat⟩ := HH.out
          exact ⟨ret_i64 HZ.out.symm, hb.trans (H1.out.mono hb.size)⟩
      · have hkm : k = m.length := by omega
        have hend := cmpRows_end hs (by omega) (by omega) (.inr hkm)
        rw [if_neg (by omega), if_pos (by omega)] at hend
        have HH := Lib.hid (And.intro hb hend)
        have q0 : decide (m.length ≤ k) = true := by simp; omega
        generalize l[k] = x at *
        clear hb hs hx hl hend hkm
        go_wp2_with fail
        go_ret
        exact ⟨ret_i64 HH.out.2.symm, HH.out.1.trans ((Below.refl _ _).alloc HH.out.1.size _)⟩
    · have hkl : k = l.length := by omega
      have hend := cmpRows_end hs (by omega) (by omega) (.inl hkl)
      rw [if_neg (show ¬ m.length < l.length by omega)] at hend
      have HH := Lib.hid (And.intro hb (And.intro hend hkl))
      clear hb hs hend
      by_cases hlm : l.length < m.length
      · have q1 : decide (l.length < m.length) = true := by simpa using hlm
        have HE := Lib.hid hlm
        clear hlm hkl
        go_wp2_with fail
        go_ret
        exact ⟨ret_i64 (by rw [HH.out.2.1, if_pos HE.out]), HH.out.1⟩
      · have q1 : decide (l.length < m.length) = false := by simpa using hlm
        have HE := Lib.hid hlm
        clear hlm hkl
        go_wp2_with fail
        go_ret
        exact ⟨ret_i64 (by rw [HH.out.2.1, if_neg HE.out]), HH.out.1⟩
end Go.Proofs.YtjffohpdjicfpaaGreat
namespace Go.Proofs.YtjffohpdjicfpaaGreat
open Go Go.RowKit Go.Sort Go.Lib
attribute [local go_sem ↓] Go.wp_at_zero Go.wp_at_succ

set_option maxRecDepth 100000 in
set_option maxHeartbeats 400000 in
theorem nan_any (x : Nat) (w : World) :
    Calls Tryz.prog 168 #[.int .u64 (x : Int)] w fun e w' => e = .returned (.bool false) ∧ w = w' := by
  go_enter Tryz.func168, Tryz.ntmps168
  go_wp2_with fail
  go_ret
  exact ⟨ret_bool (by simp), rfl⟩

set_option maxRecDepth 100000 in
set_option maxHeartbeats 800000 in
theorem cmpNat_any (x y : Nat) (w : World) :
    Calls Tryz.prog 119 #[.int .u64 (x : Int), .int .u64 (y : Int)] w fun e w' => e = .returned (.int .i64 (Tm.cmpN x y)) ∧ w = w' := by
  go_enter Tryz.func119, Tryz.ntmps119
  go_wp2_with (go_at_call 168; refine (nan_any _ _).mono ?_; rintro e w' ⟨rfl, rfl⟩)
  all_goals
    go_ret
    refine ⟨ret_i64 ?_, rfl⟩
    unfold Tm.cmpN
    repeat' split
    all_goals first | rfl | omega

def orI (x y : Int) : Int := if x = 0 then y else x

set_option maxRecDepth 100000 in
set_option maxHeartbeats 800000 in
theorem or_any (g : Nat) (x y : Int) (w : World) (h0 : w.cell? ⟨g, 0, none⟩ = some (.int .i64 x)) (h1 : w.cell? ⟨g, 1, none⟩ = some (.int .i64 y)) :
    Calls Tryz.prog 118 #[.slice (some ⟨g, 0, none⟩) 2 2] w fun e w' => e = .returned (.int .i64 (orI x y)) ∧ w = w' := by
  go_enter Tryz.func118, Tryz.ntmps118
  go_wp2_with fail
  go_rounds 3
  all_goals
    go_ret
    refine ⟨ret_i64 ?_, rfl⟩
    unfold orI
    simp_all

set_option maxRecDepth 100000 in
set_option maxHeartbeats 800000 in
theorem cmpRounds_any (g o h p : Nat) (a b x y : Nat) (w : World) (h0 : w.cell? ⟨g, o, none⟩ = some (.int .u64 (a : Int))) (h1 : w.cell? ⟨g, o + 1, none⟩ = some (.int .u64 (b : Int)))
    (k0 : w.cell? ⟨h, p, none⟩ = some (.int .u64 (x : Int))) (k1 : w.cell? ⟨h, p + 1, none⟩ = some (.int .u64 (y : Int))) :
    Calls Tryz.prog 120 #[.slice (some ⟨g, o, none⟩) 2 2, .slice (some ⟨h, p, none⟩) 2 2] w fun e w' => e = .returned (.int .i64 (orI (Tm.cmpN a x) (Tm.cmpN b y))) ∧ w = w' := by
  go_enter Tryz.func120, Tryz.ntmps120
  go_wp2_with fail
  refine wp_loop_rounds 3 ?_
  rw [rounds_succ]
  go_wp2_with (go_at_call 119; refine (cmpNat_any _ _ _).mono ?_; rintro e w' ⟨rfl, rfl⟩)
  · go_ret
    exact ⟨ret_i64 (by unfold orI; simp_all), rfl⟩
  · rw [rounds_succ]
    go_wp2_with (go_at_call 119; refine (cmpNat_any _ _ _).mono ?_; rintro e w' ⟨rfl, rfl⟩)
    · go_ret
      exact ⟨ret_i64 (by unfold orI; simp_all), rfl⟩
    · rw [rounds_succ]
      go_wp2_with fail
      go_ret
      exact ⟨ret_i64 (by unfold orI; simp_all), rfl⟩

theorem cmp_or (s t : Tm) : orI (Tm.cmpN s.e t.e) (orI (Tm.cmpN s.a t.a) (Tm.cmpN s.b t.b)) = s.cmp t := by
  have h : ∀ x y, Tm.cmpN x y = 0 ↔ x = y := fun x y => by unfold Tm.cmpN; repeat' split
                                                           all_goals omega
  unfold orI Tm.cmp
  simp only [h]
  repeat' split
  all_goals first | rfl | omega

set_option maxRecDepth 100000 in
set_option maxHeartbeats 1600000 in
theorem compare_grows (s t : Tm) (w : World) :
    Calls Tryz.prog 74 #[s.val, t.val] w fun e w' => e = .returned (.int .i64 (s.cmp t)) ∧ ∃ q os, w' = grow (w.drewN q) os := by
  have hor := Lib.hid (cmp_or s t)
  obtain ⟨a, b, c⟩ := s
  obtain ⟨x, y, z⟩ := t
  unfold Tm.val
  dsimp only at hor ⊢
  generalize Tm.cmp _ _ = r at hor ⊢
  go_enter Tryz.func74, Tryz.ntmps74
  go_wp2_with fail
  go_region_held3 (fun w' => w'.cell? ⟨w.heap.size, 0, none⟩ = some (.int .u64 (a : Int)) ∧ w'.cell? ⟨w.heap.size, 1, none⟩ = some (.int .u64 (b : Int)) ∧ w'.cell? ⟨w.heap.size, 2, none⟩ = some (.int .u64 (c : Int)) ∧
      w'.cell? ⟨w.heap.size + 1, 0, none⟩ = some (.int .u64 (x : Int)) ∧ w'.cell? ⟨w.heap.size + 1, 1, none⟩ = some (.int .u64 (y : Int)) ∧ w'.cell? ⟨w.heap.size + 1, 2, none⟩ = some (.int .u64 (z : Int)))
    (go_keep)
    (first | (go_at_call 119; refine (cmpNat_any _ _ _).mono ?_; rintro e w1 ⟨rfl, rfl⟩)
           | (go_at_call 120; refine (cmpRounds_any _ _ _ _ b c y z _ ?_ ?_ ?_ ?_).mono ?_; (simp [*]); (simp [*]); (simp [*]); (simp [*]); rintro e w1 ⟨rfl, rfl⟩)
           | (go_at_call 118; refine (or_any _ (Tm.cmpN a x) (orI (Tm.cmpN b y) (Tm.cmpN c z)) _ ?_ ?_).mono ?_; (simp [go_sem]); (simp [go_sem]); rintro e w1 ⟨rfl, rfl⟩))
  all_goals
    go_wp2_with fail
    go_ret
    exact ⟨ret_i64 hor.out, 1, _, by rw [alloc_eq_grow, alloc_eq_grow, alloc_eq_grow, grow_grow, grow_grow]; rfl⟩
theorem below_grow (w : World) (q : Nat) (os : Array Obj) : Below w.heap.size w (grow (w.drewN q) os) :=
  ⟨rfl, rfl, rfl, by simp, fun k hk => heap_grow_old (w.drewN q) os hk⟩
theorem compare_any (s t : Tm) (w : World) :
    Calls Tryz.prog 74 #[s.val, t.val] w fun e w' => e = .returned (.int .i64 (s.cmp t)) ∧ Below w.heap.size w w' :=
  (compare_grows s t w).mono fun e w' ⟨he, q, os, hw⟩ => ⟨he, hw ▸ below_grow w q os⟩
end Go.Proofs.YtjffohpdjicfpaaGreat
namespace Go.Proofs.YtjffohpdjicfpaaGreat
open Go Go.RowKit Go.Sort
def Gr (w w' : World) : Prop := ∃ q os, w' = grow (w.drewN q) os
theorem Gr.refl (w : World) : Gr w w := ⟨0, #[], by simp [grow, World.drewN]⟩
theorem Gr.trans {a b c : World} (h : Gr a b) (k : Gr b c) : Gr a c := by
  obtain ⟨q, os, rfl⟩ := h
  obtain ⟨q', os', rfl⟩ := k
  exact ⟨q + q', os ++ os', by simp [grow, World.drewN, Array.append_assoc, Nat.add_assoc]⟩
theorem Gr.alloc {a b : World} (h : Gr a b) (o : Obj) : Gr a (b.alloc o) := by
  obtain ⟨q, os, rfl⟩ := h
  exact ⟨q, os ++ #[o], by rw [alloc_eq_grow, grow_grow]⟩
theorem Gr.below {a b : World} (h : Gr a b) : Below a.heap.size a b := by
  obtain ⟨q, os, rfl⟩ := h
  exact below_grow a q os
theorem Gr.two (w : World) (o1 o2 : Obj) : Gr w ((w.alloc o1).alloc o2) := ((Gr.refl w).alloc o1).alloc o2
set_option maxRecDepth 100000 in
set_option maxHeartbeats 1600000 in
theorem vcompare_gr (a b : Vl) (w : World) :
    Calls Tryz.prog 117 #[a.val, b.val] w fun e w' => e = .returned (.int .i64 (a.cmp b)) ∧ Gr w w' := by
  have HB := Lib.hid (Gr.two w)
  obtain ⟨p, n, s⟩ := a
  obtain ⟨q, m, t⟩ := b
  unfold Vl.val Vl.cmp
  dsimp only
  cases p <;> cases q
  all_goals
    simp only [Bool.false_eq_true, if_false, if_true]
    go_enter Tryz.func117, Tryz.ntmps117
    go_wp2_with (first | (go_at_call 167; refine (cmpInt_any _ _ _).mono ?_; rintro e w' ⟨rfl, rfl⟩) | (go_at_call 166; refine (cmpStr_any _ _ _).mono ?_; rintro e w' ⟨rfl, rfl⟩))
    go_ret
    exact ⟨rfl, HB.out _ _⟩
set_option maxRecDepth 100000 in
set_option maxHeartbeats 1600000 in
theorem cmpFunc_gr (A A' : Option Addr) (c c' : Nat) (l m : List Vl) (w : World) (hl : Vals w w.heap.size A l) (hm : Vals w w.heap.size A' m) (hn : l.length ≤ maxLen) (hn' : m.length ≤ maxLen) :
    Calls Tryz.prog 116 #[.slice A l.length c, .slice A' m.length c', .func (.func 117) #[] #[]] w fun e w' => e = .returned (.int .i64 (cmpRows l m)) ∧ Gr w w' := by
  unfold maxLen at hn hn'
  have Hl := Lib.hid (And.intro hl hm)
  clear hl hm
  have hcmp := fun x y W => Lib.hid (vcompare_gr x y W)
  unfold Vl.val at hcmp
  go_enter Tryz.func116, Tryz.ntmps116
  go_wp2_with fail
  go_loopw [13] (fun i wr => ∃ k : Nat, i = .int .i64 (k : Int) ∧ k ≤ l.length ∧ k ≤ m.length ∧ Gr w wr ∧ ∀ (j : Nat) (x y : Vl), j < k → l[j]? = some x → m[j]? = some y → x.cmp y = 0)
    (fun i _ => l.length - (intOf i).toNat)
  case atStart => exact ⟨0, rfl, by omega, by omega, Gr.refl _, fun j x y hj => absurd hj (by omega)⟩
  case round =>
    obtain ⟨k, rfl, hk, hk', hg, hs⟩ := hrel
    have hb := hg.below
    by_cases hlt : k < l.length
    · have hx : l[k]? = some l[k] := List.getElem?_eq_getElem hlt
      obtain ⟨b, o, rfl, hB, hl⟩ := Hl.out.1 (by omega)
      obtain ⟨c0, c1, c2⟩ := (hl k _ hx).past hb hB
      have hB2 : b < wr.heap.size := by have := hb.size; omega
      by_cases hltm : k < m.length
      · have hy : m[k]? = some m[k] := List.getElem?_eq_getElem hltm
        obtain ⟨b', o', rfl, hB', hm⟩ := Hl.out.2 (by omega)
        obtain ⟨d0, d1, d2⟩ := (hm k _ hy).past hb hB'
        have hB3 : b' < wr.heap.size := by have := hb.size; omega
        have hB4 : b' < wr.heap.size + 1 := by omega
        have hat := fun h => cmpRows_at hs hx hy h
        generalize l[k] = x at *
        generalize m[k] = y at *
        have hcall := fun W => hcmp x y W
        have HH := Lib.hid (And.intro hg (And.intro hs (And.intro hx (And.intro hy hat))))
        clear hg hb hs hx hy hl hm hat hcmp
        have q0 : decide (m.length ≤ k) = false := by simp; omega
        by_cases hz : x.cmp y = 0
        · simp only [hz] at hcall
          have HZ := Lib.hid hz
          clear hz
          go_wp2_with fail
          refine (hcall _).out.mono ?_
          rintro e w1 ⟨rfl, h1⟩
          have H1 := Lib.hid ((Gr.two wr _ _).trans h1)
          clear h1
          go_wp2_with fail
          obtain ⟨hb, hs, hx, hy, hat⟩ := HH.out
          go_roundw
          case rel =>
            refine ⟨k + 1, by go_num, by omega, by omega, hb.trans H1.out, fun j u v hj hu hv => ?_⟩
            by_cases hjk : j = k
            · subst hjk
              rw [hx] at hu; rw [hy] at hv
              injection hu with hu; injection hv with hv
              subst hu hv
              exact HZ.out
            · exact hs j u v (by omega) hu hv
          case measure => simp [intOf]; omega
        · have hzb : (x.cmp y != 0) = true := by simpa using hz
          have hrr := HH.out.2.2.2.2 hz
          generalize x.cmp y = r at hcall hzb hrr
          have HZ := Lib.hid hrr
          clear hz hrr
          go_wp2_with fail
          refine (hcall _).out.mono ?_
          rintro e w1 ⟨rfl, h1⟩
          have H1 := Lib.hid ((Gr.two wr _ _).trans h1)
          clear h1
          go_wp2_with fail
          go_ret
          obtain ⟨hb, hs, hx, hy, hat⟩ := HH.out
          exact ⟨ret_i64 HZ.out.symm, hb.trans H1.out⟩
      · have hkm : k = m.length := by omega
        have hend := cmpRows_end hs (by omega) (by omega) (.inr hkm)
        rw [if_neg (by omega), if_pos (by omega)] at hend
        have HH := Lib.hid (And.intro hg hend)
        have q0 : decide (m.length ≤ k) = true := by simp; omega
        generalize l[k] = x at *
        clear hg hb hs hx hl hend hkm
        go_wp2_with fail
        go_ret
        exact ⟨ret_i64 HH.out.2.symm, HH.out.1.alloc _⟩
    · have hkl : k = l.length := by omega
      have hend := cmpRows_end hs (by omega) (by omega) (.inl hkl)
      rw [if_neg (show ¬ m.length < l.length by omega)] at hend
      have HH := Lib.hid (And.intro hg (And.intro hend hkl))
      clear hg hb hs hend
      by_cases hlm : l.length < m.length
      · have q1 : decide (l.length < m.length) = true := by simpa using hlm
        have HE := Lib.hid hlm
        clear hlm hkl
        go_wp2_with fail
        go_ret
        exact ⟨ret_i64 (by rw [HH.out.2.1, if_pos HE.out]), HH.out.1⟩
      · have q1 : decide (l.length < m.length) = false := by simpa using hlm
        have HE := Lib.hid hlm
        clear hlm hkl
        go_wp2_with fail
        go_ret
        exact ⟨ret_i64 (by rw [HH.out.2.1, if_neg HE.out]), HH.out.1⟩
set_option maxRecDepth 100000 in
set_option maxHeartbeats 400000 in
theorem rows_gr (A A' : Option Addr) (c c' : Nat) (l m : List Vl) (w : World) (hl : Vals w w.heap.size A l) (hm : Vals w w.heap.size A' m) (hn : l.length ≤ maxLen) (hn' : m.length ≤ maxLen) :
    Calls Tryz.prog 73 #[.slice A l.length c, .slice A' m.length c'] w fun e w' => e = .returned (.int .i64 (cmpRows l m)) ∧ Gr w w' := by
  have hcall := Lib.hid (cmpFunc_gr A A' c c' l m w hl hm hn hn')
  clear hl hm
  generalize cmpRows l m = r at *
  go_enter Tryz.func73, Tryz.ntmps73
  go_wp2_with fail
  refine hcall.out.mono ?_
  rintro e w1 ⟨rfl, h1⟩
  go_wp2_with fail
  go_ret
  exact ⟨rfl, h1⟩
end Go.Proofs.YtjffohpdjicfpaaGreat
namespace Go.Proofs.YtjffohpdjicfpaaGreat
open Go Go.RowKit
theorem cmpB_swap : ∀ a b : List UInt8, Lib.compareBytes b a = - Lib.compareBytes a b
  | [], [] => rfl
  | [], _ :: _ => rfl
  | _ :: _, [] => rfl
  | x :: a, y :: b => by
    have ih := cmpB_swap a b
    unfold Lib.compareBytes
    by_cases h1 : x < y
    · have h2 : ¬ y < x := by rw [UInt8.lt_iff_toNat_lt] at *; omega
      simp [h1, h2]
    · by_cases h2 : y < x
      · simp [h1, h2]
      · simp [h1, h2, ih]
theorem cmpB_zero {a b : List UInt8} : Lib.compareBytes a b = 0 ↔ a = b := by
  rcases cmpB_cases a b with ⟨h, _⟩ | ⟨h, _, rfl⟩ | ⟨h, _, hn⟩
  · rw [h]; refine ⟨fun h => by omega, fun e => ?_⟩
    subst e
    have := cmpB_swap a a
    omega
  · simp [h]
  · rw [h]; exact ⟨fun h => by omega, fun e => absurd e hn⟩
theorem cmpB_le : ∀ a b c : List UInt8, Lib.compareBytes a b ≤ 0 → Lib.compareBytes b c ≤ 0 → Lib.compareBytes a c ≤ 0 ∧ (Lib.compareBytes a b < 0 ∨ Lib.compareBytes b c < 0 → Lib.compareBytes a c < 0)
  | [], _, [], _, h => by
    rename_i b _
    cases b with
    | nil => exact ⟨by decide, by decide⟩
    | cons x b => simp [Lib.compareBytes] at h
  | [], [], _ :: _, _, _ => ⟨by simp [Lib.compareBytes], fun _ => by simp [Lib.compareBytes]⟩
  | [], _ :: _, _ :: _, _, _ => ⟨by simp [Lib.compareBytes], fun _ => by simp [Lib.compareBytes]⟩
  | _ :: _, [], _, h, _ => by simp [Lib.compareBytes] at h
  | _ :: _, _ :: _, [], _, h => by simp [Lib.compareBytes] at h
  | x :: a, y :: b, z :: c, h, k => by
    have ih := cmpB_le a b c
    unfold Lib.compareBytes at h k ⊢
    simp only [UInt8.lt_iff_toNat_lt] at *
    by_cases h1 : x.toNat < y.toNat
    · by_cases h2 : y.toNat < z.toNat
      · have h3 : x.toNat < z.toNat := by omega
        simp [h1, h2, h3]
      · by_cases h4 : z.toNat < y.toNat
        · simp [h2, h4] at k
        · have h3 : x.toNat < z.toNat := by omega
          simp [h1, h2, h4, h3]
    · by_cases h5 : y.toNat < x.toNat
      · simp [h1, h5] at h
      · by_cases h2 : y.toNat < z.toNat
        · have h3 : x.toNat < z.toNat := by omega
          simp [h1, h5, h2, h3]
        · by_cases h4 : z.toNat < y.toNat
          · simp [h2, h4] at k
          · have h3 : ¬ x.toNat < z.toNat := by omega
            have h6 : ¬ z.toNat < x.toNat := by omega
            simp only [h1, h5, h2, h4, h3, h6, if_false] at h k ⊢
            exact ih h k
namespace Vl
theorem cmp_swap (a b : Vl) : b.cmp a = - a.cmp b := by
  unfold cmp cmpI
  cases a.t <;> cases b.t
  · simp only [Bool.false_eq_true, if_false]; repeat' split
    all_goals omega
  · simp
  · simp
  · simp only [if_true]; exact cmpB_swap _ _
theorem cmp_self (a : Vl) : a.cmp a = 0 := by have := cmp_swap a a; omega
theorem cmp_le (a b c : Vl) (h : a.cmp b ≤ 0) (k : b.cmp c ≤ 0) : a.cmp c ≤ 0 ∧ (a.cmp b < 0 ∨ b.cmp c < 0 → a.cmp c < 0) := by
  obtain ⟨p, n, s⟩ := a
  obtain ⟨q, m, t⟩ := b
  obtain ⟨r, o, u⟩ := c
  unfold cmp cmpI at *
  cases p <;> cases q <;> cases r
  case true.true.true => simp only [if_true] at *; exact cmpB_le _ _ _ h k
  case false.false.false =>
    simp only [Bool.false_eq_true, if_false] at *
    by_cases h1 : n < m <;> by_cases h2 : m < n <;> by_cases h3 : m < o <;> by_cases h4 : o < m <;> by_cases h5 : n < o <;> by_cases h6 : o < n <;> simp only [h1, h2, h3, h4, h5, h6, if_true, if_false] at h k ⊢ <;> omega
  all_goals simp at h k ⊢
theorem cmp_right {a b : Vl} (ha : a.right = true) (hb : b.right = true) : a.cmp b = 0 ↔ a = b := by
  refine ⟨fun h => ?_, fun e => by subst e; exact cmp_self a⟩
  obtain ⟨p, n, s⟩ := a
  obtain ⟨q, m, t⟩ := b
  have se : ∀ s t : ByteArray, s.data.toList = t.data.toList → s = t := fun s t h => by cases s; cases t; simp only at h; congr 1; exact Array.toList_inj.1 h
  cases p <;> cases q
  · simp only [cmp, cmpI, right, Bool.false_eq_true, if_false, List.isEmpty_iff] at *
    rw [se s t (by rw [ha, hb])]
    have : n = m := by
      by_cases h1 : n < m
      · simp [h1] at h
      · by_cases h2 : m < n
        · simp [h1, h2] at h
        · omega
    rw [this]
  · simp [cmp] at h
  · simp [cmp] at h
  · simp only [cmp, right, if_true, Bool.and_eq_true, beq_iff_eq] at *
    rw [se s t (cmpB_zero.1 h), ha.1, hb.1]
end Vl
theorem cmpRows_swap : ∀ a b : List Vl, cmpRows b a = - cmpRows a b
  | [], [] => rfl
  | [], _ :: _ => rfl
  | _ :: _, [] => rfl
  | x :: a, y :: b => by
    have h := Vl.cmp_swap x y
    unfold cmpRows
    by_cases h0 : x.cmp y = 0
    · rw [if_pos h0, if_pos (by omega)]; exact cmpRows_swap a b
    · rw [if_neg h0, if_neg (by omega)]; exact h
theorem cmpRows_le : ∀ a b c : List Vl, cmpRows a b ≤ 0 → cmpRows b c ≤ 0 → cmpRows a c ≤ 0 ∧ (cmpRows a b < 0 ∨ cmpRows b c < 0 → cmpRows a c < 0)
  | [], [], [], _, _ => ⟨by decide, by decide⟩
  | [], _ :: _, [], _, h => by simp [cmpRows] at h
  | [], [], _ :: _, _, _ => ⟨by simp [cmpRows], fun _ => by simp [cmpRows]⟩
  | [], _ :: _, _ :: _, _, _ => ⟨by simp [cmpRows], fun _ => by simp [cmpRows]⟩
  | _ :: _, [], _, h, _ => by simp [cmpRows] at h
  | _ :: _, _ :: _, [], _, h => by simp [cmpRows] at h
  | x :: a, y :: b, z :: c, h, k => by
    have ih := cmpRows_le a b c
    have hv := Vl.cmp_le x y z
    have s1 := Vl.cmp_swap x y
    have s2 := Vl.cmp_swap y z
    have s3 := Vl.cmp_swap x z
    have w1 := Vl.cmp_le y x z
    have w2 := Vl.cmp_le z y x
    unfold cmpRows at h k ⊢
    by_cases h1 : x.cmp y = 0
    · rw [if_pos h1] at h ⊢
      by_cases h2 : y.cmp z = 0
      · rw [if_pos h2] at k ⊢
        have h3 : x.cmp z = 0 := by
          have e1 := (hv (by omega) (by omega)).1
          have e2 := (w2 (by omega) (by omega)).1
          omega
        rw [if_pos h3]
        exact ih h k
      · rw [if_neg h2] at k ⊢
        have h3 : x.cmp z < 0 := (hv (by omega) (by omega)).2 (by omega)
        rw [if_neg (by omega)]
        exact ⟨by omega, fun _ => h3⟩
    · rw [if_neg h1] at h ⊢
      have h3 : x.cmp z < 0 := by
        by_cases h2 : y.cmp z = 0
        · exact (hv (by omega) (by omega)).2 (by omega)
        · rw [if_neg h2] at k
          exact (hv (by omega) (by omega)).2 (by omega)
      rw [if_neg (show ¬ x.cmp z = 0 by omega)]
      exact ⟨by omega, fun _ => h3⟩
theorem cmpRows_right : ∀ {a b : List Vl}, a.all Vl.right = true → b.all Vl.right = true → (cmpRows a b = 0 ↔ a = b)
  | [], [], _, _ => by simp [cmpRows]
  | [], _ :: _, _, _ => by simp [cmpRows]
  | _ :: _, [], _, _ => by simp [cmpRows]
  | x :: a, y :: b, ha, hb => by
    rw [List.all_cons, Bool.and_eq_true] at ha hb
    have ih := cmpRows_right ha.2 hb.2
    have hv := Vl.cmp_right ha.1 hb.1
    unfold cmpRows
    by_cases h : x.cmp y = 0
    · rw [if_pos h, ih, hv.1 h]; simp
    · rw [if_neg h]
      refine ⟨fun e => absurd e h, fun e => ?_⟩
      exact absurd (hv.2 (List.cons.inj e).1) h
end Go.Proofs.YtjffohpdjicfpaaGreat
namespace Go.Proofs.YtjffohpdjicfpaaGreat
open Go Go.RowKit
def hiW (S : Int) : Int := (S / 18446744073709551616) % 18446744073709551616
def loW (S : Int) : Int := S % 18446744073709551616
def fits (S : Int) : Bool := decide (-9223372036854775808 ≤ S) && decide (S ≤ 9223372036854775807)
def fitN (S : Int) : Int := if fits S then S else 0
def fitE (S : Int) : Int := if fits S then 0 else 10
theorem hiW_bound (S : Int) : 0 ≤ hiW S ∧ hiW S < 18446744073709551616 := by unfold hiW; omega
theorem loW_bound (S : Int) : 0 ≤ loW S ∧ loW S < 18446744073709551616 := by unfold loW; omega
theorem fits_iff (S : Int) : fits S = true ↔ -9223372036854775808 ≤ S ∧ S ≤ 9223372036854775807 := by unfold fits; simp
theorem lo_add (S T : Int) : (loW S + loW T) % 18446744073709551616 = loW (S + T) := by unfold loW; omega
theorem hi_add (S T : Int) : (hiW S + hiW T + (loW S + loW T) / 18446744073709551616) % 18446744073709551616 = hiW (S + T) := by unfold hiW loW; omega
def sg (x : Int) : Int := if x < 9223372036854775808 then x else x - 18446744073709551616
theorem sg_lo (S : Int) (h : fits S = true) : sg (loW S) = S := by
  rw [fits_iff] at h; unfold sg loW; split <;> omega
theorem hi_fits (S : Int) (h1 : -170141183460469231731687303715884105728 ≤ S) (h2 : S < 170141183460469231731687303715884105728) :
    (hiW S == hiW (sg (loW S))) = fits S := by
  rw [Bool.eq_iff_iff, fits_iff, beq_iff_eq]
  unfold hiW sg loW
  split <;> omega
theorem sum_bound : ∀ (l : List Int), (∀ n ∈ l, -9223372036854775808 ≤ n ∧ n ≤ 9223372036854775807) → -9223372036854775808 * (l.length : Int) ≤ l.sum ∧ l.sum ≤ 9223372036854775808 * (l.length : Int)
  | [], _ => by simp
  | x :: l, h => by
    have h1 := h x (by simp)
    have h2 := sum_bound l fun n hn => h n (by simp [hn])
    simp only [List.sum_cons, List.length_cons]
    omega
end Go.Proofs.YtjffohpdjicfpaaGreat
