/- Part 1 of the texts on which TopStamped rests: facts and contracts. -/
import Derived.Test.YtammngncmkhokaaRows
import Derived.WalkKit
import Derived.ProofKit
import Derived.OpenShut
import Derived.JoinedCond
import Derived.Carry
import Derived.Lib.Hide
import Derived.Laws.IdiomStrings
import Derived.Maps.AppendAt
import Derived.Deep.QuietTactic
import Derived.Laws.OwnMore
import Derived.Deep.Draws
import Derived.Test.YtammngncmkhokaaProg
import Derived.ChangeArms
import Derived.Deep.Slices
import Derived.SizedLaws
import Derived.Lib.Bytealg
import Derived.Handy
import Derived.Test.YtammngncmkhokaaShelf
import Derived.Shelf.Strings.Builder1
import Derived.Outline
import Derived.WalkSpells
import Derived.WalkLawsBesides
import Derived.BigQuiet
import Derived.Lib.Strings
import Derived.Lib.IndexBytes
namespace Go.Proofs.Ytammngncmkhokaa
open Go.ChangeShapes Go.WideShapes Go.ChangeAt Go.RowKit

theorem own : ownKnob Try.prog.godebug = none := by kernel_rfl
theorem laidOut : laidOutB Try.prog = true := by kernel_rfl

section
variable {H : Type} {enc : TypeId × Value → H} {P : Program}
/-- what was read before the call reads so behind it -/
theorem trodAll_later (hl : laidOutB P = true) {W W' : World} (hb : Below W.heap.size W W') :
    ∀ {ts : List TypeId} {vs : List Value} {ds : List (DataW H)} {ps : List MemPlace}, (∀ t ∈ ts, P.readableRec t = true ∧ t < P.types.size) → (∀ x ∈ ps, x.block < W.heap.size) →
      DataW.TrodAll enc P W 0 (fun _ => true) true ts vs ds ps → DataW.TrodAll enc P W' 0 (fun b => decide (b < W.heap.size)) true ts vs ds ps
  | [], _, _, _, _, _, h => by
    obtain ⟨rfl, rfl, rfl⟩ := trodAll_nil h
    exact trodAll_mk0
  | t :: ts, _, _, _, hr, hlt, h => by
    obtain ⟨v, vs, d, ds, a, b, rfl, rfl, rfl, h1, h2⟩ := trodAll_cons h
    have h3 := hr t (List.mem_cons_self ..)
    exact trodAll_cons_mk (Below.trod hl h3.1 h3.2 h1 hb (fun x hx => hlt x (List.mem_append_left _ hx)))
      (trodAll_later hl hb (fun t ht => hr t (List.mem_cons_of_mem _ ht)) (fun x hx => hlt x (List.mem_append_right _ hx)) h2)

/-- what a law's statement asks behind the call -/
theorem post_law {f : Func} {s : ChangeSpec} {fresh handsOn : Bool} {W W' : World} {args : Array Value} {ds gs : List (DataW H)} {before : List MemPlace}
    (hl : laidOutB P = true) (hr : ∀ t ∈ f.params.toList, P.readableRec t = true ∧ t < P.types.size) (hB : P.underlying 4 = some .bool) (hres : f.resultTypes = #[4]) (hv : s.vars = [])
    (hW : DataW.Whole enc P f.params.toList s.vars false W args.toList ds gs before) (hs : s.fn H (ds ++ gs) = { results := [.lit (.bool true)], args := ds }) (hb : Below W.heap.size W W') :
    s.post enc P f false fresh handsOn false W args (.bool true) W' := by
  have hlt : ∀ p ∈ before, p.block < W.heap.size := fun p hp => hW.lt p hp
  have hW0 := hW
  obtain ⟨p, q, hA, hV, rfl, hz, hn⟩ := hW
  rw [hv] at hV
  obtain ⟨rfl, rfl⟩ := trodVars_none hV
  simp only [List.append_nil] at hlt hW0
  refine ⟨ds, [], p, [], p, [], by simpa using hW0, ?_, ?_, ?_, World.keptBut_mono (fun x hx => ⟨hx, .inr (.inl hx)⟩) (hb.frame (· ∈ p)), fun h => by cases h⟩
  · rw [hs, hres]; exact trodAll_cons_mk (shut_bool hB true) trodAll_mk0
  · rw [hs]; exact trodAll_later hl hb hr hlt hA
  · rw [hs, hv]; exact hV
end

section
variable {H : Type} {enc : TypeId × Value → H} {P : Program} {W : World} {base : Nat}
/-- an integer argument, with its kind's range behind 'wf' -/
theorem arg_int {t : TypeId} {k : IntKind} {v : Value} {d : DataW H} {ps : List MemPlace} (ht : P.underlying t = some (.int k)) (hval : Value.okWide P W .any base t v) (hd : DataW.Trod enc P W 0 (fun _ => true) true t v d ps) :
    ∃ n, v = .int k n ∧ d = .lit (.int k n) ∧ ps = [] ∧ (Lit.int k n).wf = true := open_int ht hval hd
theorem wf_u64 {n : Int} (h : (Lit.int .u64 n).wf = true) : 0 ≤ n ∧ n ≤ 18446744073709551615 := by simpa [Lit.wf, IntKind.min, IntKind.max, IntKind.signed, IntKind.bits] using h
theorem wf_i64 {n : Int} (h : (Lit.int .i64 n).wf = true) : -9223372036854775808 ≤ n ∧ n ≤ 9223372036854775807 := by simpa [Lit.wf, IntKind.min, IntKind.max, IntKind.signed, IntKind.bits] using h
theorem wf_u8 {n : Int} (h : (Lit.int .u8 n).wf = true) : 0 ≤ n ∧ n ≤ 255 := by simpa [Lit.wf, IntKind.min, IntKind.max, IntKind.signed, IntKind.bits] using h
theorem wf_u16 {n : Int} (h : (Lit.int .u16 n).wf = true) : 0 ≤ n ∧ n ≤ 65535 := by simpa [Lit.wf, IntKind.min, IntKind.max, IntKind.signed, IntKind.bits] using h
end
end Go.Proofs.Ytammngncmkhokaa
namespace Go.Proofs.Ytammngncmkhokaa
open Go Go.RowKit

/-- 'append(s, x)' onto a row of the call's own: the new element lies in a block of its own. -/
theorem wpList_push {P : Program} (w : World) {ops : Array Oper} {rest : List Oper} {o : Oper} {a : Act} {Q : Exit → Act → World → Prop} (hgd : o.guard = none) (s x : Operand) (t : TypeId)
    (ho : o.op = .call { callee := .builtin .append, args := #[s, x], argTypes := #[t, t] })
    (base : Nat) (e : TypeId) (i : TypeInfo) (z : Value) (size bytes : Nat) (ht : P.underlying t = some (.slice e)) (hi : P.info? e = some i) (hz : i.zero = some z)
    (hsize : i.size = size) (hby : i.bytes = bytes) (hzs : z.cells.size = size) (hsz : 0 < size)
    (v : Value) (n : Nat) (xs : List Value) (hs : a.eval s = v) (hown : w.ownsRow base e size v n xs)
    (news : Array Value) (hx : a.eval x = .slice (some ⟨w.heap.size, 0, none⟩) 1 1) (hl : news.size = size) (h1 : ∀ u ∈ news.toList, u.oneCell' = true)
    (h63 : n + 1 ≤ maxLen) (hbytes : (n + 1) * bytes ≤ 140737488355328) (hbase : base ≤ w.heap.size)
    (h : ∀ v' w', w'.ownsRow base e size v' (n + 1) (xs ++ news.toList) → Below base w w' → (v'.ownBlock = v.ownBlock ∨ v'.ownBlock = some (w.heap.size + 1)) → w.grownBy w' v.ownBlock → wpList P ops Q rest (a.put o.dst v') w') :
    wpList P ops Q (o :: rest) a (w.alloc (.cells news e)) := by
  have hc : ∀ j u, news.toList[j]? = some u → (w.alloc (.cells news e)).cell? ((⟨w.heap.size, 0, none⟩ : Addr).add j) = some u := by
    intro j u hu
    have : (⟨w.heap.size, 0, none⟩ : Addr).add j = ⟨w.heap.size, j, none⟩ := by unfold Addr.add; split <;> simp_all
    rw [this, World.cell?_alloc_at _ _ _ _ rfl]
    simpa using hu
  obtain ⟨v', w', hrun, ho', hg, _, hat⟩ := run_append_own_at (P := P) (w.alloc (.cells news e)) base t o.type e i z size bytes ht hi hz hsize hby hzs hsz v n xs (hown.alloc _)
    ⟨w.heap.size, 0, none⟩ 1 1 news.toList (by simpa using hl) hc h1 h63 hbytes (by simp; omega)
  refine wpList_plain hgd fun K hK => ?_
  unfold Oper.wp execOp
  simp only [ho, resolve, invoke, builtin, Sem.run_bind, Sem.run_pure, Result.andThen_ok, List.map_toArray, List.map_cons, List.map_nil, hs, hx, hrun]
  have hg2 : w.grownBy w' v.ownBlock := ⟨hg.os, hg.tape, hg.output, Nat.le_trans (by simp) hg.size, fun k hk hne => (hg.block k (by simp; omega) hne).trans (Below.heap_alloc w _ k hk)⟩
  exact hK _ _ (h v' w' ho' ((Below.refl base w).grown hg2 hbase (fun k hk => (hown.lt k hk).1)) (by simpa using hat) hg2)

/-- a byte in its cell -/
def cellB (b : UInt8) : Value := .int .u8 (b.toNat : Int)
theorem cellB_one (l : List UInt8) : ∀ u ∈ l.map cellB, u.oneCell' = true := by
  intro u hu; obtain ⟨b, _, rfl⟩ := List.mem_map.1 hu; rfl

/-- 'string(b)' of a row of bytes of the call's own -/
theorem run_string_own {P : Program} (w : World) (src dst e : TypeId) (base : Nat) (v : Value) (l : List UInt8) (n : Nat) (hs : P.underlying src = some (.slice e)) (he : P.underlying e = some (.int .u8))
    (hd : P.underlying dst = some .string) (hn : l.length = n) (hn0 : 0 < n) (h : w.ownsRow base e 1 v n (l.map cellB)) : (convert src dst v).run P w = .ok (.string ⟨l.toArray⟩) w := by
  rcases h.2 with ⟨_, h0⟩ | ⟨g, cap, cur, rfl, hb, hg, hr⟩
  · omega
  · subst hn
    refine run_convert_bytes_back w src dst e ⟨g, 0, none⟩ cap l hs he hd fun j hj => ?_
    refine h.cells (g := g) rfl j _ ?_
    simp [List.getElem?_eq_getElem hj, cellB]
theorem belows {a b c : World} (h : Below a.heap.size a b) (k : Below b.heap.size b c) : Below a.heap.size a c := h.trans (k.mono h.size)
/-- what the call owns stays owned behind a call that turns nothing older -/
theorem own_below {w w' : World} {base : Nat} {e : TypeId} {size : Nat} {v : Value} {n : Nat} {xs : List Value} (h : w.ownsRow base e size v n xs) (hb : Below w.heap.size w w') : w'.ownsRow base e size v n xs :=
  h.kept (row := none) ⟨hb.os, hb.tape, hb.output, hb.size, fun k hk _ => hb.block k hk⟩ (by cases v.ownBlock <;> simp)
/-- a frame that is older than both -/
theorem below_then {B : Nat} {a b c : World} (h : Below B a b) (hB : B ≤ a.heap.size) (k : Below b.heap.size b c) : Below B a c := h.trans (k.mono (Nat.le_trans hB h.size))
/-- draws turn no block -/
theorem below_draws {B : Nat} {a w : World} (h : Below B a w) (n : Nat) : Below B a (w.drewN n) := ⟨h.os, h.tape, h.output, h.size, h.block⟩
theorem str_ext {a b : ByteArray} (h : a.data.toList = b.data.toList) : a = b := by
  cases a; cases b; simp only at h; congr 1; exact Array.toList_inj.1 h
theorem str_app (a b : List UInt8) : (⟨a.toArray⟩ : ByteArray) ++ ⟨b.toArray⟩ = ⟨(a ++ b).toArray⟩ := by
  apply str_ext; simp
theorem str_app1 (a : List UInt8) (b : UInt8) : (⟨a.toArray⟩ : ByteArray) ++ ⟨#[b]⟩ = ⟨(a ++ [b]).toArray⟩ := str_app a [b]
theorem str_of (s : ByteArray) : s = ⟨s.data.toList.toArray⟩ := by apply str_ext; simp
theorem str_app_of (a : List UInt8) (s : ByteArray) : (⟨a.toArray⟩ : ByteArray) ++ s = ⟨(a ++ s.data.toList).toArray⟩ := by apply str_ext; simp
theorem sizeL (l : List UInt8) : (⟨l.toArray⟩ : ByteArray).size = l.length := by simp [ByteArray.size]
theorem len_of (s : ByteArray) : s.data.toList.length = s.size := by rw [Array.length_toList]; rfl
theorem extract_from (s : ByteArray) (k : Nat) : s.extract k s.size = ⟨(s.data.toList.drop k).toArray⟩ := by
  apply str_ext
  simp [ByteArray.data_extract, Array.toList_extract, List.extract_eq_take_drop]
  exact List.take_of_length_le (by simp)
theorem extract_upto (s : ByteArray) (k : Nat) : s.extract 0 k = ⟨(s.data.toList.take k).toArray⟩ := by
  apply str_ext
  simp [ByteArray.data_extract, Array.toList_extract, List.extract_eq_take_drop]
end Go.Proofs.Ytammngncmkhokaa
namespace Go.Proofs.Ytammngncmkhokaa
open Go Go.RowKit

/-- a time -/
structure Tm where
  e : Nat
  a : Nat
  b : Nat
  deriving DecidableEq, Inhabited

namespace Tm
def cells (t : Tm) : List Value := [.int .u64 (t.e : Int), .int .u64 (t.a : Int), .int .u64 (t.b : Int)]
def val (t : Tm) : Value := .agg #[.int .u64 (t.e : Int), .int .u64 (t.a : Int), .int .u64 (t.b : Int)]
def le (s t : Tm) : Bool := decide (s.e ≤ t.e) && (decide (s.a ≤ t.a) && decide (s.b ≤ t.b))
def cmpN (x y : Nat) : Int := if x < y then -1 else if y < x then 1 else 0
def cmp (s t : Tm) : Int := if s.e ≠ t.e then cmpN s.e t.e else if s.a ≠ t.a then cmpN s.a t.a else cmpN s.b t.b
def sup (s t : Tm) : Tm := ⟨max s.e t.e, max s.a t.a, max s.b t.b⟩
def inf (s t : Tm) : Tm := ⟨min s.e t.e, min s.a t.a, min s.b t.b⟩
theorem le_iff {s t : Tm} : s.le t = true ↔ s.e ≤ t.e ∧ s.a ≤ t.a ∧ s.b ≤ t.b := by simp [le]
end Tm
end Go.Proofs.Ytammngncmkhokaa
namespace Go.Proofs.Ytammngncmkhokaa
open Go Go.RowKit

theorem ret_bool {a b : Bool} (h : a = b) : Ending.returned (.bool a) = .returned (.bool b) := by rw [h]
theorem ret_i64 {a b : Int} (h : a = b) : Ending.returned (.int .i64 a) = .returned (.int .i64 b) := by rw [h]
theorem ret_u64 {a b : Int} (h : a = b) : Ending.returned (.int .u64 a) = .returned (.int .u64 b) := by rw [h]
/-- behind a call that turns nothing older, every older cell and mark reads as before -/
theorem olds {W w1 : World} (h : Below W.heap.size W w1) : (∀ b o, b < W.heap.size → w1.cell? ⟨b, o, none⟩ = W.cell? ⟨b, o, none⟩) ∧ (∀ b o, b < W.heap.size → w1.frozen? ⟨b, o, none⟩ = W.frozen? ⟨b, o, none⟩) :=
  ⟨fun b o hb => h.cell (p := ⟨b, o, none⟩) hb, fun b o hb => h.frozen (p := ⟨b, o, none⟩) hb⟩
/-- block g holds just these cells, all of them open -/
def Own (w : World) (g : Nat) (t : TypeId) (l : List Value) : Prop := w.heap[g]? = some (.cells l.toArray t (0, 0))
section
variable {w w' : World} {g : Nat} {t : TypeId} {l : List Value}
theorem Own.inside (h : Own w g t l) : g < w.heap.size := by
  unfold Own at h
  exact (Array.getElem?_eq_some_iff.1 h).1
theorem Own.at_ (h : Own w g t l) (i : Nat) : w.cell? ⟨g, i, none⟩ = l[i]? := by
  unfold Own at h
  simp [World.cell?, h]
theorem Own.open_ (h : Own w g t l) (i : Nat) : w.frozen? ⟨g, i, none⟩ = false := by
  unfold Own at h
  simp [World.frozen?, h]
theorem Own.made (w : World) (t : TypeId) (l : List Value) : Own (w.alloc (.cells l.toArray t)) w.heap.size t l := heap_alloc_new w _
theorem Own.draws (h : Own w g t l) (n : Nat) : Own (w.drewN n) g t l := h
theorem Own.more (h : Own w g t l) (o : Obj) : Own (w.alloc o) g t l := (Below.heap_alloc w o g h.inside).trans h
theorem Own.set_ (h : Own w g t l) (i : Nat) (u : Value) : Own (w.setCell ⟨g, i, none⟩ u) g t (l.set i u) := by
  unfold Own at h ⊢
  have : (l.set i u).toArray = l.toArray.setIfInBounds i u := by apply Array.ext'; simp
  rw [this]
  simp [World.setCell, Array.getElem?_modify, h]
theorem Own.other (h : Own w g t l) {p : Addr} (hp : p.block ≠ g) (u : Value) : Own (w.setCell p u) g t l := (Below.heap_setCell w p u g (Ne.symm hp)).trans h
theorem Own.past {B : Nat} (h : Own w g t l) (hb : Below B w w') (hg : g < B) : Own w' g t l := (hb.block g hg).trans h
theorem own_of {l' : List Value} (h : Own w g t l) (e : l = l') : Own w g t l' := e ▸ h
theorem Own.stored3 {a b c : Value} (h : Own w g t [a, b, c]) (x y z : Value) :
    (w.setCell ⟨g, 0, none⟩ x).cell? ⟨g, 0, none⟩ = some x ∧ ((w.setCell ⟨g, 0, none⟩ x).setCell ⟨g, 1, none⟩ y).cell? ⟨g, 1, none⟩ = some y ∧
      (((w.setCell ⟨g, 0, none⟩ x).setCell ⟨g, 1, none⟩ y).setCell ⟨g, 2, none⟩ z).cell? ⟨g, 2, none⟩ = some z :=
  ⟨(h.set_ 0 x).at_ 0, ((h.set_ 0 x).set_ 1 y).at_ 1, (((h.set_ 0 x).set_ 1 y).set_ 2 z).at_ 2⟩
theorem below_set3 {B : Nat} {u : World} (h : Below B u w) (hg : B ≤ g) (x y z : Value) : Below B u (((w.setCell ⟨g, 0, none⟩ x).setCell ⟨g, 1, none⟩ y).setCell ⟨g, 2, none⟩ z) :=
  ((h.setCell (p := ⟨g, 0, none⟩) hg _).setCell (p := ⟨g, 1, none⟩) hg _).setCell (p := ⟨g, 2, none⟩) hg _
end
end Go.Proofs.Ytammngncmkhokaa
namespace Go.Proofs.Ytammngncmkhokaa
open Go Go.RowKit

/-- a time's three cells lie at b, o -/
def TmAt (w : World) (b o : Nat) (t : Tm) : Prop :=
  w.cell? ⟨b, o, none⟩ = some (.int .u64 (t.e : Int)) ∧ w.cell? ⟨b, o + 1, none⟩ = some (.int .u64 (t.a : Int)) ∧ w.cell? ⟨b, o + 2, none⟩ = some (.int .u64 (t.b : Int))
/-- a slice at A of as many elements as l has reads as l; it lies below block B -/
def Times (w : World) (B : Nat) (A : Option Addr) (l : List Tm) : Prop :=
  0 < l.length → ∃ b o, A = some ⟨b, o, none⟩ ∧ b < B ∧ ∀ (i : Nat) (t : Tm), l[i]? = some t → TmAt w b (o + i * 3) t
section
variable {w w' : World} {B B' b o : Nat} {A : Option Addr} {l : List Tm} {t : Tm}
theorem TmAt.past (h : TmAt w b o t) (hb : Below B w w') (hB : b < B) : TmAt w' b o t :=
  ⟨(hb.cell (p := ⟨b, o, none⟩) hB).trans h.1, (hb.cell (p := ⟨b, o + 1, none⟩) hB).trans h.2.1, (hb.cell (p := ⟨b, o + 2, none⟩) hB).trans h.2.2⟩
theorem Times.past (h : Times w B A l) (hb : Below B' w w') (hB : B ≤ B') : Times w' B A l := fun hn => by
  obtain ⟨b, o, e, hlt, hc⟩ := h hn
  exact ⟨b, o, e, hlt, fun i t hi => (hc i t hi).past hb (by omega)⟩
theorem Times.wide (h : Times w B A l) (hB : B ≤ B') : Times w B' A l := fun hn => by
  obtain ⟨b, o, e, hlt, hc⟩ := h hn
  exact ⟨b, o, e, by omega, hc⟩
theorem Times.nil_ : Times w B A [] := fun h => absurd h (by simp)
end
end Go.Proofs.Ytammngncmkhokaa
namespace Go.Proofs.Ytammngncmkhokaa
open Go Go.RowKit Go.ChangeShapes Go.WideShapes Go.ChangeAt Go.Deep

set_option maxRecDepth 100000
section
variable {H : Type} {enc : TypeId × Value → H} {w : World} {base : Nat} {spare : Nat → Bool} {held : Bool}
theorem wf_nat {n : Int} (h : (Lit.int .u64 n).wf = true) : ∃ m : Nat, n = (m : Int) := by
  have h2 : 0 ≤ n := by
    have : 0 ≤ n ∧ n ≤ 18446744073709551615 := by simpa [Lit.wf, IntKind.min, IntKind.max, IntKind.signed, IntKind.bits] using h
    exact this.1
  exact ⟨n.toNat, (Int.toNat_of_nonneg h2).symm⟩
theorem trod_time {fuel : Nat} {cs : List Value} {x : DataW H × List MemPlace} (h : DataW.trod enc Try.prog w base spare held fuel 32 cs = some x) : ∃ t : Tm, cs = t.cells := by
  obtain ⟨xs, n, _, _, hlen, hxs, hf⟩ := DataW.trod_struct Try.underlying32 h
  have hc : Try.prog.cellsOf 32 = 3 := by kernel_rfl
  have hc1 : Try.prog.cellsOf 29 = 1 := by kernel_rfl
  have hc2 : Try.prog.cellsOf 30 = 2 := by kernel_rfl
  rw [hc] at hlen
  match cs, hlen with
  | [c0, c1, c2], _ =>
    have h0 := hf 0 _ rfl
    have h1 := hf 1 _ rfl
    match xs, hxs with
    | [y0, y1], _ =>
      simp only [hc1, hc2, List.drop_zero, List.take_succ_cons, List.take_zero, List.drop_succ_cons, List.getElem?_cons_zero, List.getElem?_cons_succ] at h0 h1
      obtain ⟨n0, e0, _, w0⟩ := DataW.trod_int Try.underlying29 h0
      obtain ⟨zs, m, _, _, _, hzs, hg⟩ := DataW.trod_array Try.underlying30 h1
      match zs, hzs with
      | [z0, z1], _ =>
        have k0 := hg 0 (by omega)
        have k1 := hg 1 (by omega)
        simp only [hc1, Nat.zero_mul, Nat.one_mul, List.drop_zero, List.take_succ_cons, List.take_zero, List.drop_succ_cons, List.getElem?_cons_zero, List.getElem?_cons_succ] at k0 k1
        obtain ⟨n1, e1, _, w1⟩ := DataW.trod_int Try.underlying29 k0
        obtain ⟨n2, e2, _, w2⟩ := DataW.trod_int Try.underlying29 k1
        obtain ⟨m0, rfl⟩ := wf_nat w0
        obtain ⟨m1, rfl⟩ := wf_nat w1
        obtain ⟨m2, rfl⟩ := wf_nat w2
        obtain rfl := (List.cons.inj e0).1
        obtain rfl := (List.cons.inj e1).1
        obtain rfl := (List.cons.inj e2).1
        exact ⟨⟨m0, m1, m2⟩, rfl⟩
theorem open_time {r : Reach} {b0 : Nat} {v : Value} {d : DataW H} {p : List MemPlace} (hv : Value.okWide Try.prog w r b0 32 v) (h : DataW.Trod enc Try.prog w base spare held 32 v d p) : ∃ t : Tm, v = t.val := by
  obtain ⟨cs, rfl, hsz⟩ := okWide_struct Try.underlying32 hv
  obtain ⟨fuel, hf⟩ := h
  obtain ⟨t, ht⟩ := trod_time hf
  refine ⟨t, ?_⟩
  obtain ⟨l⟩ := cs
  simp only [Value.cells] at ht
  unfold Tm.val
  rw [show l = t.cells from by simpa using ht]
  rfl
/-- the slice, its list; and what its reading tells of its length -/
theorem open_times {v : Value} {d : DataW H} {p : List MemPlace} {r : Reach} {b0 : Nat} (hv : Value.okWide Try.prog w r b0 23 v) (h : DataW.Trod enc Try.prog w base spare held 23 v d p) :
    ∃ (A : Option Addr) (c : Nat) (l : List Tm), v = .slice A l.length c ∧ l.length ≤ c ∧ c ≤ maxLen ∧ Times w w.heap.size A l ∧ (d = .nil ∧ l = [] ∧ c = 0 ∨ ∃ es sp, d = .slice es sp ∧ es.length = l.length) := by
  obtain ⟨a0, n0, c0, rfl⟩ := okWide_slice Try.underlying23 hv
  obtain ⟨fuel, hf⟩ := h
  simp only [Value.cells] at hf
  rcases open_slice Try.underlying23 hf with ⟨e, hx⟩ | ⟨a, len, cap, m, n, D, Pl, e, hb, hl, hm, hmm, hx, hi⟩
  · simp only [List.cons.injEq, and_true, Value.slice.injEq] at e
    obtain ⟨rfl, rfl, rfl⟩ := e
    obtain ⟨rfl, _⟩ := Prod.mk.inj hx
    exact ⟨none, 0, [], rfl, by simp, by unfold maxLen; omega, Times.nil_, .inl ⟨rfl, rfl, rfl⟩⟩
  · simp only [List.cons.injEq, and_true, Value.slice.injEq] at e
    obtain ⟨rfl, rfl, rfl⟩ := e
    obtain ⟨rfl, rfl⟩ := Prod.mk.inj hx
    have hlm : n0 ≤ m := by rw [hmm]; split <;> omega
    have hc3 : Try.prog.cellsOf 32 = 3 := by kernel_rfl
    rw [hc3] at hi
    have hT : ∀ i, ∃ t : Tm, i < n0 → (w.cell? ((a.add (i * 3)).add 0) = some (.int .u64 (t.e : Int)) ∧ w.cell? ((a.add (i * 3)).add 1) = some (.int .u64 (t.a : Int)) ∧ w.cell? ((a.add (i * 3)).add 2) = some (.int .u64 (t.b : Int))) := by
      intro i
      by_cases hil : i < n0
      · obtain ⟨cs', hcs, htr⟩ := hi i (by omega)
        obtain ⟨t, rfl⟩ := trod_time htr
        obtain ⟨_, _, hat⟩ := World.cells?_some hcs
        exact ⟨t, fun _ => ⟨hat 0 (by omega), hat 1 (by omega), hat 2 (by omega)⟩⟩
      · exact ⟨default, fun h => absurd h hil⟩
    obtain ⟨f, hf'⟩ : ∃ f : Nat → Tm, ∀ i, i < n0 → (w.cell? ((a.add (i * 3)).add 0) = some (.int .u64 ((f i).e : Int)) ∧ w.cell? ((a.add (i * 3)).add 1) = some (.int .u64 ((f i).a : Int)) ∧ w.cell? ((a.add (i * 3)).add 2) = some (.int .u64 ((f i).b : Int))) :=
      ⟨fun i => Classical.choose (hT i), fun i => Classical.choose_spec (hT i)⟩
    clear hT
    have hlen : ((List.range n0).map f).length = n0 := by simp
    refine ⟨some a, c0, (List.range n0).map f, by rw [hlen], by rw [hlen]; exact hl, hm, fun hpos => ?_, .inr ⟨_, _, rfl, by simp⟩⟩
    rw [hlen] at hpos
    have haa : ∀ k, (a.add k).add 0 = a.add k := fun k => by unfold Addr.add; simp
    have hspot : a.spot = none := by
      have hz : ((a.add (0 * 3)).add 0) = a := by rw [haa]; unfold Addr.add; simp
      obtain ⟨v0, h0⟩ : ∃ v0, w.cell? a = some v0 := ⟨_, by have := (hf' 0 hpos).1; rwa [hz] at this⟩
      cases hs : a.spot with
      | none => rfl
      | some s =>
        unfold World.cell? at h0
        rw [hs] at h0
        split at h0 <;> simp at h0
    obtain ⟨b, o, sp⟩ := a
    simp only at hspot
    subst hspot
    have hblk : b < w.heap.size := by
      have hz : (((⟨b, o, none⟩ : Addr).add (0 * 3)).add 0).block = b := by unfold Addr.add; simp
      have := World.block_lt_of_cell? w _ (hf' 0 hpos).1
      rwa [hz] at this
    have hadd : ∀ k j, ((⟨b, o, none⟩ : Addr).add k).add j = ⟨b, o + k + j, none⟩ := fun k j => by unfold Addr.add; split <;> split <;> simp_all
    refine ⟨b, o, rfl, hblk, fun i t hit => ?_⟩
    have hil : i < n0 := by have := (List.getElem?_eq_some_iff.1 hit).1; omega
    have hti : f i = t := by simpa [hil] using hit
    obtain ⟨q0, q1, q2⟩ := hf' i hil
    rw [hadd] at q0 q1 q2
    rw [← hti]
    exact ⟨q0, q1, q2⟩
end
end Go.Proofs.Ytammngncmkhokaa
namespace Go.Proofs.Ytammngncmkhokaa
open Go Go.RowKit

/-- a slice at A of as many elements as l has, 'size' cells each, reads as l; it lies below block B -/
def Lies {α : Type} (size : Nat) (cells : α → List Value) (w : World) (B : Nat) (A : Option Addr) (l : List α) : Prop :=
  0 < l.length → ∃ b o, A = some ⟨b, o, none⟩ ∧ b < B ∧ ∀ (i : Nat) (x : α), l[i]? = some x → ∀ (j : Nat) (u : Value), (cells x)[j]? = some u → w.cell? ⟨b, o + i * size + j, none⟩ = some u
section
variable {α : Type} {size : Nat} {cells : α → List Value} {w w' : World} {B B' : Nat} {A : Option Addr} {l : List α}
theorem Lies.past (h : Lies size cells w B A l) (hb : Below B' w w') (hB : B ≤ B') : Lies size cells w' B A l := fun hn => by
  obtain ⟨b, o, e, hlt, hc⟩ := h hn
  exact ⟨b, o, e, hlt, fun i x hi j u hj => (hb.cell (p := ⟨b, o + i * size + j, none⟩) (show b < B' by omega)).trans (hc i x hi j u hj)⟩
theorem Lies.wide (h : Lies size cells w B A l) (hB : B ≤ B') : Lies size cells w B' A l := fun hn => by
  obtain ⟨b, o, e, hlt, hc⟩ := h hn
  exact ⟨b, o, e, by omega, hc⟩
theorem Lies.nil_ : Lies size cells w B A [] := fun h => absurd h (by simp)
theorem lies_keep {a b : World} (h : Lies size cells a a.heap.size A l) (hb : Below a.heap.size a b) : Lies size cells b b.heap.size A l := (h.past hb (Nat.le_refl _)).wide hb.size
theorem flat_size (hcl : ∀ x, (cells x).length = size) (l : List α) : (l.flatMap cells).length = l.length * size := by
  induction l with
  | nil => simp
  | cons x l ih => rw [List.flatMap_cons, List.length_append, ih, List.length_cons, hcl, Nat.add_mul]; omega
theorem flat_of (hcl : ∀ x, (cells x).length = size) : ∀ (l : List α) (i r : Nat) (x : α) (u : Value), l[i]? = some x → (cells x)[r]? = some u → (l.flatMap cells)[i * size + r]? = some u
  | [], i, r, x, u, h, _ => by simp at h
  | y :: l, 0, r, x, u, h, hu => by
    obtain rfl : y = x := by simpa using h
    have hr : r < (cells y).length := (List.getElem?_eq_some_iff.1 hu).1
    rw [List.flatMap_cons, Nat.zero_mul, Nat.zero_add, List.getElem?_append_left hr, hu]
  | y :: l, i + 1, r, x, u, h, hu => by
    have ih := flat_of hcl l i r x u (by simpa using h) hu
    rw [List.flatMap_cons, List.getElem?_append_right (by rw [hcl, Nat.add_mul]; omega), hcl, show (i + 1) * size + r - size = i * size + r by rw [Nat.add_mul]; omega]
    exact ih
theorem flat_back (hpos : 0 < size) (hcl : ∀ x, (cells x).length = size) (l : List α) (j : Nat) (u : Value) (h : (l.flatMap cells)[j]? = some u) : ∃ i r x, j = i * size + r ∧ l[i]? = some x ∧ (cells x)[r]? = some u := by
  have hj : j < l.length * size := by have := (List.getElem?_eq_some_iff.1 h).1; rwa [flat_size hcl] at this
  have hi : j / size < l.length := (Nat.div_lt_iff_lt_mul hpos).2 hj
  have hr : j % size < size := Nat.mod_lt _ hpos
  have hd : j = j / size * size + j % size := by rw [Nat.mul_comm]; exact (Nat.div_add_mod j size).symm
  have hc : j % size < (cells l[j / size]).length := by rw [hcl]; exact hr
  refine ⟨j / size, j % size, l[j / size], hd, List.getElem?_eq_getElem hi, ?_⟩
  have := flat_of hcl l (j / size) (j % size) l[j / size] _ (List.getElem?_eq_getElem hi) (List.getElem?_eq_getElem hc)
  rw [← hd, h] at this
  rw [List.getElem?_eq_getElem hc]
  exact this.symm
/-- a row of the call's own reads as its list -/
theorem lies_of_own {base n : Nat} {e : TypeId} {v : Value} (hpos : 0 < size) (hcl : ∀ x, (cells x).length = size) (hn : n = l.length) (h : w.ownsRow base e size v n (l.flatMap cells)) :
    ∃ A c, v = .slice A l.length c ∧ l.length ≤ c ∧ c ≤ maxLen ∧ Lies size cells w w.heap.size A l := by
  subst hn
  rcases h.2 with ⟨rfl, h0⟩ | ⟨g, cap, cur, rfl, hb, hg, h1, h2, h3, h4⟩
  · exact ⟨none, 0, by rw [h0], by omega, by omega, fun h => by omega⟩
  · refine ⟨_, cap, rfl, h1, h2, fun _ => ⟨g, 0, rfl, (Array.getElem?_eq_some_iff.1 hg).1, fun i x hi j u hj => ?_⟩⟩
    have hf := flat_of hcl l i j x u hi hj
    have hlt : i * size + j < l.length * size := by have := (List.getElem?_eq_some_iff.1 hf).1; rwa [flat_size hcl] at this
    rw [Nat.zero_add, h.cellAt _ hlt]
    exact hf
theorem run_append_none {P : Program} (w : World) (base : Nat) (t ty e : TypeId) (i : TypeInfo) (size : Nat) (ht : P.underlying t = some (.slice e)) (hi : P.info? e = some i) (v : Value) (n : Nat) (xs : List Value) (h : w.ownsRow base e size v n xs) (c : Nat) :
    (Builtin.append_ #[t, t] ty #[v, .slice none 0 c]).run P w = .ok v w := by
  rcases h.2 with ⟨rfl, _⟩ | ⟨g, cap, cur, rfl, _, _, hnc, _⟩
  · simp [Builtin.append_, run_underlying ht, typeInfo, hi, sizeOf, Builtin.firstCells, Builtin.lenOf]
  · simp [Builtin.append_, run_underlying ht, typeInfo, hi, sizeOf, Builtin.firstCells, Builtin.lenOf, storeCells, hnc]
/-- 'append(v, s...)', s a slice that reads as a list, nil or not -/
theorem wpList_append_lies {P : Program} (w : World) {ops : Array Oper} {rest : List Oper} {o : Oper} {a : Act} {Q : Exit → Act → World → Prop} (hgd : o.guard = none) (s x : Operand) (t e : TypeId)
    (ho : o.op = .call { callee := .builtin .append, args := #[s, x], argTypes := #[t, t] })
    (i0 : TypeInfo) (z : Value) (bytes : Nat) (ht : P.underlying t = some (.slice e)) (hi : P.info? e = some i0) (hz0 : i0.zero = some z) (hz1 : i0.size = size) (hz2 : i0.bytes = bytes) (hzs : z.cells.size = size) (hpos : 0 < size) (hcl : ∀ x, (cells x).length = size) (hone : ∀ x, ∀ u ∈ cells x, u.oneCell' = true)
    (base : Nat) (v : Value) (n : Nat) (xs : List Value) (hs : a.eval s = v) (hown : w.ownsRow base e size v n xs)
    (c : Nat) (hx : a.eval x = .slice A l.length c) (hl : Lies size cells w B A l) (h63 : n + l.length ≤ maxLen) (hn : (n + l.length) * bytes ≤ 140737488355328) (hbase : base ≤ w.heap.size)
    (h : ∀ v' w', w'.ownsRow base e size v' (n + l.length) (xs ++ l.flatMap cells) → Below base w w' → wpList P ops Q rest (a.put o.dst v') w') :
    wpList P ops Q (o :: rest) a w := by
  refine wpList_plain hgd fun K hK => ?_
  obtain ⟨v', w', hrun, ho', hb⟩ : ∃ v' w', (Builtin.append_ #[t, t] o.type #[v, .slice A l.length c]).run P w = .ok v' w' ∧ w'.ownsRow base e size v' (n + l.length) (xs ++ l.flatMap cells) ∧ Below base w w' := by
    cases A with
    | none =>
      have h0 : l = [] := by
        cases l with
        | nil => rfl
        | cons x l => obtain ⟨_, _, e, _⟩ := hl (by simp); cases e
      subst h0
      exact ⟨v, w, run_append_none w base _ _ _ i0 size ht hi v n xs hown c, by simpa using hown, Below.refl _ _⟩
    | some ad =>
      have hnews : ∀ j u, (l.flatMap cells)[j]? = some u → w.cell? (ad.add j) = some u := by
        intro j u hu
        obtain ⟨i, r, y, rfl, hi, hr⟩ := flat_back hpos hcl l j u hu
        have hp : 0 < l.length := by have := (List.getElem?_eq_some_iff.1 hi).1; omega
        obtain ⟨b, o, e, _, hc⟩ := hl hp
        obtain rfl : ad = ⟨b, o, none⟩ := by injection e
        have ea : (⟨b, o, none⟩ : Addr).add (i * size + r) = ⟨b, o + i * size + r, none⟩ := by unfold Addr.add; split <;> simp_all <;> omega
        rw [ea]
        exact hc i y hi r u hr
      obtain ⟨v', w', hr, h2, h3, _, _⟩ := run_append_own_at (P := P) w base t o.type e i0 _ size bytes ht hi hz0 hz1 hz2 hzs hpos v n xs hown ad l.length c (l.flatMap cells) (flat_size hcl l) hnews
        (fun u hu => by obtain ⟨y, _, hy⟩ := List.mem_flatMap.1 hu; exact hone y u hy) h63 hn hbase
      exact ⟨v', w', hr, h2, (Below.refl base w).grown h3 hbase (fun k hk => (hown.lt k hk).1)⟩
  unfold Oper.wp execOp
  simp only [ho, resolve, invoke, builtin, Sem.run_bind, Sem.run_pure, Result.andThen_ok, List.map_toArray, List.map_cons, List.map_nil, hs, hx, hrun]
  exact hK _ _ (h v' w' ho' hb)
/-- the same as a step of a region that draws its order; and where the row lies behind it -/
theorem step_append_lies {P : Program} (w : World) {ops : Array Oper} {o : Oper} {a : Act} {K : Act → World → Prop} {Q : Exit → Act → World → Prop} {E : Prop} (hgd : o.guard = none) (s x : Operand) (t e : TypeId)
    (ho : o.op = .call { callee := .builtin .append, args := #[s, x], argTypes := #[t, t] })
    (i0 : TypeInfo) (z : Value) (bytes : Nat) (ht : P.underlying t = some (.slice e)) (hi : P.info? e = some i0) (hz0 : i0.zero = some z) (hz1 : i0.size = size) (hz2 : i0.bytes = bytes) (hzs : z.cells.size = size) (hpos : 0 < size) (hcl : ∀ x, (cells x).length = size) (hone : ∀ x, ∀ u ∈ cells x, u.oneCell' = true)
    (base : Nat) (v : Value) (n : Nat) (xs : List Value) (hs : a.eval s = v) (hown : w.ownsRow base e size v n xs)
    (c : Nat) (b off : Nat) (hx : a.eval x = .slice (some ⟨b, off, none⟩) l.length c) (hl : Lies size cells w B (some ⟨b, off, none⟩) l) (h63 : n + l.length ≤ maxLen) (hn : (n + l.length) * bytes ≤ 140737488355328) (hbase : base ≤ w.heap.size)
    (h : ∀ v' w', w'.ownsRow base e size v' (n + l.length) (xs ++ l.flatMap cells) → Below base w w' → (v'.ownBlock = v.ownBlock ∨ v'.ownBlock = some w.heap.size) → w.grownBy w' v.ownBlock → K (a.put o.dst v') w') :
    if Region.wanted o (yielded ops a.tmps) = true then Oper.wp P o a w K Q else E := by
  have hw : Region.wanted o (yielded ops a.tmps) = true := by simp [Region.wanted, hgd]
  rw [if_pos hw]
  have hnews : ∀ j u, (l.flatMap cells)[j]? = some u → w.cell? ((⟨b, off, none⟩ : Addr).add j) = some u := by
    intro j u hu
    obtain ⟨i, r, y, rfl, hi, hr⟩ := flat_back hpos hcl l j u hu
    have hp : 0 < l.length := by have := (List.getElem?_eq_some_iff.1 hi).1; omega
    obtain ⟨b', o', e, _, hc⟩ := hl hp
    simp only [Option.some.injEq, Addr.mk.injEq, and_true] at e
    obtain ⟨rfl, rfl⟩ := e
    have ea : (⟨b, off, none⟩ : Addr).add (i * size + r) = ⟨b, off + i * size + r, none⟩ := by unfold Addr.add; split <;> simp_all <;> omega
    rw [ea]
    exact hc i y hi r u hr
  obtain ⟨v', w', hrun, h2, h3, _, h5⟩ := run_append_own_at (P := P) w base t o.type e i0 _ size bytes ht hi hz0 hz1 hz2 hzs hpos v n xs hown ⟨b, off, none⟩ l.length c (l.flatMap cells) (flat_size hcl l) hnews
    (fun u hu => by obtain ⟨y, _, hy⟩ := List.mem_flatMap.1 hu; exact hone y u hy) h63 hn hbase
  unfold Oper.wp execOp
  simp only [ho, resolve, invoke, builtin, Sem.run_bind, Sem.run_pure, Result.andThen_ok, List.map_toArray, List.map_cons, List.map_nil, hs, hx, hrun]
  exact h v' w' h2 ((Below.refl base w).grown h3 hbase (fun k hk => (hown.lt k hk).1)) h5 h3
end
end Go.Proofs.Ytammngncmkhokaa
namespace Go.Proofs.Ytammngncmkhokaa
open Go Go.RowKit Go.ChangeShapes Go.WideShapes Go.ChangeAt Go.Deep

section
variable {H : Type} {enc : TypeId × Value → H} {P : Program} {w : World} {base : Nat} {spare : Nat → Bool} {held : Bool}
/-- the slice, its list; and what its reading tells of its length -/
theorem open_list_at {α : Type} [Inhabited α] {size : Nat} {cells : α → List Value} {OK : α → Prop} {t e : TypeId} (ht : P.underlying t = some (.slice e)) (hc : P.cellsOf e = size) (hpos : 0 < size) (hcl : ∀ x, (cells x).length = size)
    (dec : ∀ {n : Nat} {cs : List Value} {x : DataW H × List MemPlace}, DataW.trod enc P w base spare held n e cs = some x → ∃ a, cs = cells a ∧ OK a)
    {fuel : Nat} {cs : List Value} {x : DataW H × List MemPlace} (hf : DataW.trod enc P w base spare held fuel t cs = some x) :
    ∃ (A : Option Addr) (c : Nat) (l : List α), cs = [.slice A l.length c] ∧ l.length ≤ c ∧ c ≤ maxLen ∧ Lies size cells w w.heap.size A l ∧ (∀ a ∈ l, OK a) ∧ (x.1 = .nil ∧ l = [] ∧ c = 0 ∨ ∃ es sp, x.1 = .slice es sp ∧ es.length = l.length) := by
  rcases open_slice ht hf with ⟨e, hx⟩ | ⟨a, len, cap, m, n, D, Pl, e, hb, hl, hm, hmm, hx, hi⟩
  · subst e hx
    exact ⟨none, 0, [], rfl, by simp, by unfold maxLen; omega, fun h => absurd h (by simp), fun a ha => (by cases ha), .inl ⟨rfl, rfl, rfl⟩⟩
  · subst e hx
    obtain ⟨n0, rfl⟩ : ∃ n0, n0 = len := ⟨_, rfl⟩
    obtain ⟨c0, rfl⟩ : ∃ c0, c0 = cap := ⟨_, rfl⟩
    have hlm : n0 ≤ m := by rw [hmm]; split <;> omega
    rw [hc] at hi
    have hT : ∀ i, ∃ x : α, i < n0 → OK x ∧ ∀ (j : Nat) (u : Value), (cells x)[j]? = some u → w.cell? ((a.add (i * size)).add j) = some u := by
      intro i
      by_cases hil : i < n0
      · obtain ⟨cs', hcs, htr⟩ := hi i (by omega)
        obtain ⟨x, rfl, hok⟩ := dec htr
        obtain ⟨_, _, hat⟩ := World.cells?_some hcs
        refine ⟨x, fun _ => ⟨hok, fun j u hj => ?_⟩⟩
        have hjs : j < size := by have := (List.getElem?_eq_some_iff.1 hj).1; rw [hcl] at this; exact this
        rw [hat j hjs]
        exact hj
      · exact ⟨default, fun h => absurd h hil⟩
    obtain ⟨f, hf'⟩ : ∃ f : Nat → α, ∀ i, i < n0 → OK (f i) ∧ ∀ (j : Nat) (u : Value), (cells (f i))[j]? = some u → w.cell? ((a.add (i * size)).add j) = some u :=
      ⟨fun i => Classical.choose (hT i), fun i => Classical.choose_spec (hT i)⟩
    clear hT
    have hlen : ((List.range n0).map f).length = n0 := by simp
    refine ⟨some a, c0, (List.range n0).map f, by rw [hlen], by rw [hlen]; exact hl, hm, fun hp => ?_, fun x hx => ?_, .inr ⟨_, _, rfl, by simp⟩⟩
    · rw [hlen] at hp
      have hz : ((a.add (0 * size)).add 0) = a := by unfold Addr.add; simp
      obtain ⟨v0, h0⟩ : ∃ v0, w.cell? a = some v0 := by
        have h1 : 0 < (cells (f 0)).length := by rw [hcl]; exact hpos
        have := (hf' 0 hp).2 0 _ (List.getElem?_eq_getElem h1)
        rw [hz] at this
        exact ⟨_, this⟩
      have hspot : a.spot = none := by
        cases hs : a.spot with
        | none => rfl
        | some s =>
          unfold World.cell? at h0
          rw [hs] at h0
          split at h0 <;> simp at h0
      obtain ⟨b, o, sp⟩ := a
      simp only at hspot
      subst hspot
      have hadd : ∀ k j, ((⟨b, o, none⟩ : Addr).add k).add j = ⟨b, o + k + j, none⟩ := fun k j => by unfold Addr.add; split <;> split <;> simp_all
      refine ⟨b, o, rfl, World.block_lt_of_cell? w _ h0, fun i x hit j u hj => ?_⟩
      have hil : i < n0 := by have := (List.getElem?_eq_some_iff.1 hit).1; omega
      have hti : f i = x := by simpa [hil] using hit
      subst hti
      have := (hf' i hil).2 j u hj
      rwa [hadd] at this
    · obtain ⟨i, hi1, rfl⟩ := List.mem_map.1 hx
      exact (hf' i (List.mem_range.1 hi1)).1
theorem open_list {α : Type} [Inhabited α] {size : Nat} {cells : α → List Value} {OK : α → Prop} {t e : TypeId} (ht : P.underlying t = some (.slice e)) (hc : P.cellsOf e = size) (hpos : 0 < size) (hcl : ∀ x, (cells x).length = size)
    (dec : ∀ {n : Nat} {cs : List Value} {x : DataW H × List MemPlace}, DataW.trod enc P w base spare held n e cs = some x → ∃ a, cs = cells a ∧ OK a)
    {v : Value} {d : DataW H} {p : List MemPlace} {r : Reach} {b0 : Nat} (hv : Value.okWide P w r b0 t v) (h : DataW.Trod enc P w base spare held t v d p) :
    ∃ (A : Option Addr) (c : Nat) (l : List α), v = .slice A l.length c ∧ l.length ≤ c ∧ c ≤ maxLen ∧ Lies size cells w w.heap.size A l ∧ (∀ a ∈ l, OK a) ∧ (d = .nil ∧ l = [] ∧ c = 0 ∨ ∃ es sp, d = .slice es sp ∧ es.length = l.length) := by
  obtain ⟨a0, n0, c0, rfl⟩ := okWide_slice ht hv
  obtain ⟨fuel, hf⟩ := h
  obtain ⟨A, c, l, e, h1⟩ := open_list_at ht hc hpos hcl dec hf
  exact ⟨A, c, l, by simpa [Value.cells] using e, h1⟩
end
end Go.Proofs.Ytammngncmkhokaa
namespace Go.Proofs.Ytammngncmkhokaa
open Go Go.RowKit

/-- a value -/
structure Vl where
  t : Bool
  n : Int
  s : ByteArray

namespace Vl
def cells (v : Vl) : List Value := [.bool v.t, .int .i64 v.n, .string v.s]
def val (v : Vl) : Value := .agg #[.bool v.t, .int .i64 v.n, .string v.s]
def right (v : Vl) : Bool := if v.t then v.n == 0 && decide (v.s.size ≤ 64) else v.s.data.toList.isEmpty
def cmpI (x y : Int) : Int := if x < y then -1 else if y < x then 1 else 0
def cmp (a b : Vl) : Int := if a.t then (if b.t then Lib.compareBytes a.s.data.toList b.s.data.toList else 1) else if b.t then -1 else cmpI a.n b.n
end Vl
/-- the order of rows -/
def cmpRows : List Vl → List Vl → Int
  | [], [] => 0
  | [], _ :: _ => -1
  | _ :: _, [] => 1
  | x :: a, y :: b => if x.cmp y = 0 then cmpRows a b else x.cmp y
end Go.Proofs.Ytammngncmkhokaa
namespace Go.Proofs.Ytammngncmkhokaa
open Go Go.RowKit

/-- a value's three cells lie at b, o -/
def VlAt (w : World) (b o : Nat) (v : Vl) : Prop :=
  w.cell? ⟨b, o, none⟩ = some (.bool v.t) ∧ w.cell? ⟨b, o + 1, none⟩ = some (.int .i64 v.n) ∧ w.cell? ⟨b, o + 2, none⟩ = some (.string v.s)
/-- a slice at A of as many elements as l has reads as l; it lies below block B -/
def Vals (w : World) (B : Nat) (A : Option Addr) (l : List Vl) : Prop :=
  0 < l.length → ∃ b o, A = some ⟨b, o, none⟩ ∧ b < B ∧ ∀ (i : Nat) (v : Vl), l[i]? = some v → VlAt w b (o + i * 3) v
/-- what a value that came in has -/
def VOk (x : Vl) : Prop := x.s.size ≤ maxLen ∧ -9223372036854775808 ≤ x.n ∧ x.n ≤ 9223372036854775807
section
variable {w w' : World} {B B' b o : Nat} {A : Option Addr} {l : List Vl} {v : Vl}
theorem VlAt.past (h : VlAt w b o v) (hb : Below B w w') (hB : b < B) : VlAt w' b o v :=
  ⟨(hb.cell (p := ⟨b, o, none⟩) hB).trans h.1, (hb.cell (p := ⟨b, o + 1, none⟩) hB).trans h.2.1, (hb.cell (p := ⟨b, o + 2, none⟩) hB).trans h.2.2⟩
theorem Vals.past (h : Vals w B A l) (hb : Below B' w w') (hB : B ≤ B') : Vals w' B A l := fun hn => by
  obtain ⟨b, o, e, hlt, hc⟩ := h hn
  exact ⟨b, o, e, hlt, fun i v hi => (hc i v hi).past hb (by omega)⟩
theorem Vals.wide (h : Vals w B A l) (hB : B ≤ B') : Vals w B' A l := fun hn => by
  obtain ⟨b, o, e, hlt, hc⟩ := h hn
  exact ⟨b, o, e, by omega, hc⟩
theorem Vals.nil_ : Vals w B A [] := fun h => absurd h (by simp)
end
theorem vals_keep {a b : World} {A : Option Addr} {l : List Vl} (h : Vals a a.heap.size A l) (hb : Below a.heap.size a b) : Vals b b.heap.size A l := (h.past hb (Nat.le_refl _)).wide hb.size
end Go.Proofs.Ytammngncmkhokaa
namespace Go.Proofs.Ytammngncmkhokaa
open Go Go.RowKit

instance : Inhabited Vl := ⟨⟨false, 0, ⟨#[]⟩⟩⟩
theorem vals_of_lies {W : World} {B : Nat} {A : Option Addr} {l : List Vl} (h : Lies 3 Vl.cells W B A l) : Vals W B A l := fun hp => by
  obtain ⟨b, o, e, hb, hc⟩ := h hp
  exact ⟨b, o, e, hb, fun i v hi => ⟨hc i v hi 0 _ rfl, hc i v hi 1 _ rfl, hc i v hi 2 _ rfl⟩⟩
theorem lies_of_vals {W : World} {B : Nat} {A : Option Addr} {l : List Vl} (h : Vals W B A l) : Lies 3 Vl.cells W B A l := fun hp => by
  obtain ⟨b, o, e, hb, hc⟩ := h hp
  refine ⟨b, o, e, hb, fun i v hi j u hj => ?_⟩
  obtain ⟨h0, h1, h2⟩ := hc i v hi
  match j, hj with
  | 0, hj => obtain rfl : Value.bool v.t = u := by simpa [Vl.cells] using hj
             exact h0
  | 1, hj => obtain rfl : Value.int .i64 v.n = u := by simpa [Vl.cells] using hj
             exact h1
  | 2, hj => obtain rfl : Value.string v.s = u := by simpa [Vl.cells] using hj
             exact h2
theorem infoVl : (Try.prog.info? 64).map (fun i => (i.zero, i.size, i.bytes)) = some (some (Vl.mk false 0 ⟨#[]⟩).val, 3, 32) := by kernel_rfl
theorem vl_one (x : Vl) : ∀ u ∈ x.cells, u.oneCell' = true := by
  intro u hu
  simp [Vl.cells] at hu
  rcases hu with rfl | rfl | rfl <;> rfl
theorem vals_of_own {w : World} {base : Nat} {v : Value} {l : List Vl} {n : Nat} (hn : n = l.length) (h : w.ownsRow base 64 3 v n (l.flatMap Vl.cells)) :
    ∃ A c, v = .slice A l.length c ∧ l.length ≤ c ∧ c ≤ maxLen ∧ Vals w w.heap.size A l := by
  obtain ⟨A, c, h1, h2, h3, h4⟩ := lies_of_own (size := 3) (cells := Vl.cells) (by decide) (fun _ => rfl) hn h
  exact ⟨A, c, h1, h2, h3, vals_of_lies h4⟩
/-- 'append(v, s...)', s a slice of values -/
theorem wpList_append_vl (w : World) {ops : Array Oper} {rest : List Oper} {o : Oper} {a : Act} {Q : Exit → Act → World → Prop} (hgd : o.guard = none) (s x : Operand)
    (ho : o.op = .call { callee := .builtin .append, args := #[s, x], argTypes := #[25, 25] })
    (base : Nat) (v : Value) (n : Nat) (xs : List Value) (hs : a.eval s = v) (hown : w.ownsRow base 64 3 v n xs)
    (B : Nat) (A : Option Addr) (c : Nat) (l : List Vl) (hx : a.eval x = .slice A l.length c) (hl : Vals w B A l) (hn : (n + l.length) * 32 ≤ 140737488355328) (hbase : base ≤ w.heap.size)
    (h : ∀ v' w', w'.ownsRow base 64 3 v' (n + l.length) (xs ++ l.flatMap Vl.cells) → Below base w w' → wpList Try.prog ops Q rest (a.put o.dst v') w') :
    wpList Try.prog ops Q (o :: rest) a w := by
  obtain ⟨i0, hi, hz0, hz1, hz2⟩ := info_parts infoVl
  exact wpList_append_lies w hgd s x _ _ ho i0 _ 32 Try.underlying25 hi hz0 hz1 hz2 rfl (by decide) (fun _ => rfl) vl_one base v n xs hs hown c hx (lies_of_vals hl) (by unfold maxLen; omega) hn hbase h
end Go.Proofs.Ytammngncmkhokaa
namespace Go.Proofs.Ytammngncmkhokaa
open Go Go.RowKit

/-- a slice at A of as many rows as L has reads as L; all of it lies below block B; each row takes fewer than 2^47 bytes -/
def RowsAt (w : World) (B : Nat) (A : Option Addr) (L : List (List Vl)) : Prop :=
  0 < L.length → ∃ b o, A = some ⟨b, o, none⟩ ∧ b < B ∧ ∀ (i : Nat) (l : List Vl), L[i]? = some l → ∃ A' c', w.cell? ⟨b, o + i, none⟩ = some (.slice A' l.length c') ∧ Vals w B A' l
section
variable {w w' : World} {B B' : Nat} {A : Option Addr} {L : List (List Vl)}
theorem RowsAt.past (h : RowsAt w B A L) (hb : Below B' w w') (hB : B ≤ B') : RowsAt w' B A L := fun hn => by
  obtain ⟨b, o, e, hlt, hc⟩ := h hn
  refine ⟨b, o, e, hlt, fun i l hi => ?_⟩
  obtain ⟨A', c', h1, h2⟩ := hc i l hi
  exact ⟨A', c', (hb.cell (p := ⟨b, o + i, none⟩) (show b < B' by omega)).trans h1, h2.past hb hB⟩
theorem RowsAt.wide (h : RowsAt w B A L) (hB : B ≤ B') : RowsAt w B' A L := fun hn => by
  obtain ⟨b, o, e, hlt, hc⟩ := h hn
  refine ⟨b, o, e, by omega, fun i l hi => ?_⟩
  obtain ⟨A', c', h1, h2⟩ := hc i l hi
  exact ⟨A', c', h1, h2.wide hB⟩
end
theorem rowsAt_keep {a b : World} {A : Option Addr} {L : List (List Vl)} (h : RowsAt a a.heap.size A L) (hb : Below a.heap.size a b) : RowsAt b b.heap.size A L := (h.past hb (Nat.le_refl _)).wide hb.size
/-- the lengths, added up -/
def lens (L : List (List Vl)) : Nat := (L.map List.length).sum
theorem lens_flat (L : List (List Vl)) : L.flatten.length = lens L := by simp [lens, List.length_flatten]
theorem lens_snoc {L : List (List Vl)} {k : Nat} {l : List Vl} (h : L[k]? = some l) : lens (L.take (k + 1)) = lens (L.take k) + l.length := by
  rw [List.take_add_one, h]; simp [lens]
theorem flat_snoc {L : List (List Vl)} {k : Nat} {l : List Vl} (h : L[k]? = some l) : (L.take (k + 1)).flatten = (L.take k).flatten ++ l := by
  rw [List.take_add_one, h]; simp
theorem lens_take : ∀ (L : List (List Vl)) (k : Nat), lens (L.take k) ≤ lens L
  | [], k => by simp [lens]
  | l :: L, 0 => by simp [lens]
  | l :: L, k + 1 => by
    have := lens_take L k
    unfold lens at *
    simp only [List.take_succ_cons, List.map_cons, List.sum_cons]
    omega
end Go.Proofs.Ytammngncmkhokaa
namespace Go.Proofs.Ytammngncmkhokaa
open Go Go.RowKit Go.ChangeShapes Go.WideShapes Go.ChangeAt Go.Deep

section
variable {H : Type} {enc : TypeId × Value → H} {w : World} {base : Nat} {spare : Nat → Bool} {held : Bool}
set_option maxRecDepth 100000 in
theorem trod_val {fuel : Nat} {cs : List Value} {x : DataW H × List MemPlace} (h : DataW.trod enc Try.prog w base spare held fuel 64 cs = some x) : ∃ v : Vl, cs = v.cells ∧ VOk v := by
  obtain ⟨xs, n, _, _, hlen, hxs, hf⟩ := DataW.trod_struct Try.underlying64 h
  have hc : Try.prog.cellsOf 64 = 3 := by kernel_rfl
  have hcb : Try.prog.cellsOf 4 = 1 := by kernel_rfl
  have hci : Try.prog.cellsOf 2 = 1 := by kernel_rfl
  have hcs : Try.prog.cellsOf 9 = 1 := by kernel_rfl
  rw [hc] at hlen
  match cs, hlen with
  | [c0, c1, c2], _ =>
    have h0 := hf 0 _ rfl
    have h1 := hf 1 _ rfl
    have h2 := hf 2 _ rfl
    match xs, hxs with
    | [y0, y1, y2], _ =>
      simp only [hcb, hci, hcs, List.drop_zero, List.take_succ_cons, List.take_zero, List.drop_succ_cons, List.getElem?_cons_zero, List.getElem?_cons_succ] at h0 h1 h2
      obtain ⟨n0, e0, _⟩ := DataW.trod_bool Try.underlying4 h0
      obtain ⟨n1, e1, _, w1⟩ := DataW.trod_int Try.underlying2 h1
      obtain ⟨n2, e2, _, w2⟩ := DataW.trod_string Try.underlying9 h2
      obtain rfl := (List.cons.inj e0).1
      obtain rfl := (List.cons.inj e1).1
      obtain rfl := (List.cons.inj e2).1
      exact ⟨⟨n0, n1, n2⟩, rfl, w2, wf_i64 w1⟩
set_option maxRecDepth 100000 in
theorem open_val {r : Reach} {b0 : Nat} {v : Value} {d : DataW H} {p : List MemPlace} (hv : Value.okWide Try.prog w r b0 64 v) (h : DataW.Trod enc Try.prog w base spare held 64 v d p) : ∃ x : Vl, v = x.val ∧ VOk x := by
  obtain ⟨cs, rfl, hsz⟩ := okWide_struct Try.underlying64 hv
  obtain ⟨fuel, hf⟩ := h
  obtain ⟨t, ht, hok⟩ := trod_val hf
  refine ⟨t, ?_, hok⟩
  obtain ⟨l⟩ := cs
  simp only [Value.cells] at ht
  unfold Vl.val
  rw [show l = t.cells from by simpa using ht]
  rfl
set_option maxRecDepth 100000 in
theorem open_row {v : Value} {d : DataW H} {p : List MemPlace} {r : Reach} {b0 : Nat} (hv : Value.okWide Try.prog w r b0 25 v) (h : DataW.Trod enc Try.prog w base spare held 25 v d p) :
    ∃ (A : Option Addr) (c : Nat) (l : List Vl), v = .slice A l.length c ∧ l.length ≤ c ∧ c ≤ maxLen ∧ Vals w w.heap.size A l ∧ (∀ a ∈ l, VOk a) ∧ (d = .nil ∧ l = [] ∧ c = 0 ∨ ∃ es sp, d = .slice es sp ∧ es.length = l.length) := by
  obtain ⟨A, c, l, e, h1, h2, h3, h4, h5⟩ := open_list (size := 3) (cells := Vl.cells) (OK := VOk) Try.underlying25 (by kernel_rfl) (by decide) (fun _ => rfl) trod_val hv h
  exact ⟨A, c, l, e, h1, h2, vals_of_lies h3, h4, h5⟩
/-- a row as it lies in a list of rows -/
structure RowV where
  A : Option Addr
  c : Nat
  l : List Vl
instance : Inhabited RowV := ⟨⟨none, 0, []⟩⟩
set_option maxRecDepth 100000 in
theorem trod_row {fuel : Nat} {cs : List Value} {x : DataW H × List MemPlace} (h : DataW.trod enc Try.prog w base spare held fuel 25 cs = some x) :
    ∃ r : RowV, cs = [.slice r.A r.l.length r.c] ∧ (Vals w w.heap.size r.A r.l ∧ (∀ a ∈ r.l, VOk a) ∧ r.l.length ≤ maxLen) := by
  obtain ⟨A, c, l, e, h1, h2, h3, h4, _⟩ := open_list_at (size := 3) (cells := Vl.cells) (OK := VOk) Try.underlying25 (by kernel_rfl) (by decide) (fun _ => rfl) trod_val h
  exact ⟨⟨A, c, l⟩, e, vals_of_lies h3, h4, Nat.le_trans h1 h2⟩
set_option maxRecDepth 100000 in
theorem open_rows {v : Value} {d : DataW H} {p : List MemPlace} {r : Reach} {b0 : Nat} (hv : Value.okWide Try.prog w r b0 22 v) (h : DataW.Trod enc Try.prog w base spare held 22 v d p) :
    ∃ (A : Option Addr) (c : Nat) (L : List (List Vl)), v = .slice A L.length c ∧ L.length ≤ c ∧ c ≤ maxLen ∧ RowsAt w w.heap.size A L ∧ ((∀ l ∈ L, l.length ≤ maxLen) ∧ ∀ l ∈ L, ∀ v ∈ l, VOk v) ∧ (d = .nil ∧ L = [] ∧ c = 0 ∨ ∃ es sp, d = .slice es sp ∧ es.length = L.length) := by
  obtain ⟨A, c, l, e, h1, h2, h3, h4, h5⟩ := open_list (size := 1) (cells := fun r : RowV => [.slice r.A r.l.length r.c]) (OK := fun r : RowV => Vals w w.heap.size r.A r.l ∧ (∀ a ∈ r.l, VOk a) ∧ r.l.length ≤ maxLen) Try.underlying22 (by kernel_rfl) (by decide) (fun _ => rfl) trod_row hv h
  refine ⟨A, c, l.map RowV.l, by rw [List.length_map]; exact e, by rw [List.length_map]; exact h1, h2, fun hp => ?_, ⟨fun m hm => ?_, fun m hm => ?_⟩, ?_⟩
  · rw [List.length_map] at hp
    obtain ⟨b, o, rfl, hb, hc⟩ := h3 hp
    refine ⟨b, o, rfl, hb, fun i m hi => ?_⟩
    rw [List.getElem?_map] at hi
    cases hr : l[i]? with
    | none => rw [hr] at hi; simp at hi
    | some y =>
      rw [hr] at hi
      obtain rfl : y.l = m := by simpa using hi
      have := hc i y hr 0 _ rfl
      rw [Nat.mul_one, Nat.add_zero] at this
      exact ⟨y.A, y.c, this, (h4 y (List.mem_of_getElem? hr)).1⟩
  · obtain ⟨y, hy, rfl⟩ := List.mem_map.1 hm
    exact (h4 y hy).2.2
  · obtain ⟨y, hy, rfl⟩ := List.mem_map.1 hm
    exact (h4 y hy).2.1
  · rw [List.length_map]
    rcases h5 with ⟨h5, rfl, h6⟩ | h5
    · exact .inl ⟨h5, rfl, h6⟩
    · exact .inr h5
end
end Go.Proofs.Ytammngncmkhokaa
namespace Go.Proofs.Ytammngncmkhokaa
open Go Go.RowKit

theorem sizeBld : (Try.prog.info? 57).map (fun i => i.size) = some 2 := by kernel_rfl
set_option maxHeartbeats 1000000 in
set_option maxRecDepth 100000 in
theorem copyCheck_used (b : Nat) (w : World) (h0 : w.cell? ⟨b, 0, none⟩ = some (.pointer (some ⟨b, 0, none⟩))) :
    Calls Try.prog 38 #[.pointer (some ⟨b, 0, none⟩)] w fun e w' => e = .returned (.tuple #[]) ∧ w' = w := by
  obtain ⟨j, hj, _⟩ := Option.map_eq_some_iff.1 sizeBld
  go_enter Try.func38, Try.ntmps38
  go_wp2
  rw [Lib.run_neq_ptr_same w _ Try.underlying54 hj]
  go_wp2
  go_end0
  exact ⟨rfl, rfl⟩
set_option maxHeartbeats 1000000 in
set_option maxRecDepth 100000 in
theorem copyCheck_fresh (b : Nat) (w : World) (h0 : w.cell? ⟨b, 0, none⟩ = some (.pointer none)) (hsh : w.shape? b = some (57, 2)) (hfz : w.frozen? ⟨b, 0, none⟩ = false) :
    Calls Try.prog 38 #[.pointer (some ⟨b, 0, none⟩)] w fun e w' => e = .returned (.tuple #[]) ∧ w' = w.setCell ⟨b, 0, none⟩ (.pointer (some ⟨b, 0, none⟩)) := by
  obtain ⟨j, hj, hjs⟩ := Option.map_eq_some_iff.1 sizeBld
  go_enter Try.func38, Try.ntmps38
  go_wp2
  rw [Lib.run_to_unsafe w ⟨b, 0, none⟩ Try.underlying54 Try.underlying126 hj (by rw [hjs]; decide) hsh (Nat.zero_lt_succ 1)]
  simp only [Result.andThen]
  rw [Oper.upon_value]
  go_wp2
  rw [run_callFunc_extern Try.func60 (by kernel_rfl) (by kernel_rfl) (by kernel_rfl) (e := Extern.AbiNoEscape.same) (by kernel_rfl)]
  rw [Lib.run_noEscape]
  simp only [Result.andThen]
  rw [Oper.upon_value]
  go_wp2
  rw [Lib.run_from_unsafe w ⟨b, 0, none⟩ Try.underlying126 Try.underlying54 hj hsh (by kernel_rfl)]
  simp only [Result.andThen]
  rw [Oper.upon_value]
  go_wp2
  go_end0
  exact ⟨rfl, rfl⟩
/-- block k is none of the builder's -/
def Free (w : World) (b k : Nat) : Prop := k ≠ b ∧ ∀ p v T r, w.heap[b]? = some (.cells #[p, v] T r) → v.ownBlock ≠ some k
theorem copyCheck_any (B b : Nat) (bs : List Value) (w : World) (h : Lib.IsBuilder 57 5 B b bs w) :
    Calls Try.prog 38 #[.pointer (some ⟨b, 0, none⟩)] w fun e w' => e = .returned (.tuple #[]) ∧ (Lib.BuilderAt 57 5 B b (.pointer (some ⟨b, 0, none⟩)) bs w' ∧ Below B w w' ∧ (∀ k, k ≠ b → w'.heap[k]? = w.heap[k]?) ∧ w'.heap.size = w.heap.size ∧ ∀ k, Free w b k → Free w' b k) := by
  rcases h with h | h
  · have h' := h
    obtain ⟨hB, v, hbk, _⟩ := h'
    refine (copyCheck_fresh b w h.cell0 h.shape h.frozen0).mono ?_
    rintro e w' ⟨rfl, rfl⟩
    have hs : (w.setCell ⟨b, 0, none⟩ (.pointer (some ⟨b, 0, none⟩))).heap[b]? = some (.cells #[.pointer (some ⟨b, 0, none⟩), v] 57 (0, 0)) := by
      simp [World.setCell, Array.getElem?_modify, hbk]
    refine ⟨rfl, h.used _, (Below.refl B w).setCell (p := ⟨b, 0, none⟩) h.1 _, fun k hk => Below.heap_setCell w ⟨b, 0, none⟩ _ k hk, by simp [World.setCell], fun k hk => ⟨hk.1, fun p v' T r hb => ?_⟩⟩
    rw [hs] at hb
    simp only [Option.some.injEq, Obj.cells.injEq, Array.mk.injEq, List.cons.injEq, and_true] at hb
    rw [← hb.1.2]
    exact hk.2 _ v _ _ hbk
  · refine (copyCheck_used b w h.cell0).mono ?_
    rintro e w' ⟨rfl, rfl⟩
    exact ⟨rfl, h, Below.refl B _, fun _ _ => rfl, rfl, fun _ h => h⟩
theorem infoByte : (Try.prog.info? 5).map (fun i => (i.zero, i.size, i.bytes)) = some (some (.int .u8 0), 1, 1) := by kernel_rfl
set_option maxHeartbeats 2000000 in
set_option maxRecDepth 100000 in
theorem writeByte_any (B b : Nat) (bs : List Value) (c : Int) (w : World) (h : Lib.IsBuilder 57 5 B b bs w) (hlen : bs.length + 1 ≤ 140737488355328) (hBw : B ≤ w.heap.size) :
    Calls Try.prog 18 #[.pointer (some ⟨b, 0, none⟩), .int .u8 c] w fun e w' => e = .returned .nilIface ∧ (Lib.BuilderAt 57 5 B b (.pointer (some ⟨b, 0, none⟩)) (bs ++ [.int .u8 c]) w' ∧ Below B w w' ∧ ∀ k, k < w.heap.size → Free w b k → w'.heap[k]? = w.heap[k]?) := by
  obtain ⟨i0, hi, hz0, hz1, hz2⟩ := info_parts infoByte
  go_enter Try.func18, Try.ntmps18
  go_wp2_with fail
  refine (copyCheck_any B b bs _ h).mono ?_
  rintro e w1 ⟨rfl, h1, hb1, hk1, hzz, hf1⟩
  have HK := Lib.hid (And.intro hk1 (And.intro hzz hf1))
  clear hk1 hzz hf1
  obtain ⟨hB, v, hbk, hown, hne⟩ := h1
  have c0 : w1.cell? ⟨b, 0, none⟩ = some (.pointer (some ⟨b, 0, none⟩)) := by rw [Lib.cell_of_heap hbk]; rfl
  have c1 : w1.cell? ⟨b, 1, none⟩ = some v := by rw [Lib.cell_of_heap hbk]; rfl
  go_wp2_with (at_builtin; refine wpList_append_own _ rfl _ _ 55 rfl B 5 i0 (.int .u8 0) 1 1 Try.underlying55 hi hz0 hz1 hz2 rfl (by decide) _ _ _ rfl (hown.alloc _) ⟨w1.heap.size, 0, none⟩ 1 1 [.int .u8 c] rfl rfl ?c1 ?c2 ?c3 ?c4 ?c5 ?_)
  case c1 =>
    intro j u hj
    match j, hj with
    | 0, hj => simp at hj; subst hj; simp [Addr.add]
  case c2 => intro u hu; simp at hu; subst hu; rfl
  case c3 => unfold maxLen; omega
  case c4 => omega
  case c5 => have := hb1.size; simp; omega
  intro v' w2 hown' hgrow _
  have hlt : b < w1.heap.size := by
    rcases Nat.lt_or_ge b w1.heap.size with h' | h'
    · exact h'
    · simp [Array.getElem?_eq_none h'] at hbk
  have hb2 : w2.heap[b]? = some (.cells #[.pointer (some ⟨b, 0, none⟩), v] 57 (0, 0)) := by
    rw [hgrow.block b (by simp; omega) (fun e => hne e.symm), Lib.alloc_old w1 _ b hlt]
    exact hbk
  have d0 : w2.cell? ⟨b, 0, none⟩ = some (.pointer (some ⟨b, 0, none⟩)) := by rw [Lib.cell_of_heap hb2]; rfl
  have d1 : w2.cell? ⟨b, 1, none⟩ = some v := by rw [Lib.cell_of_heap hb2]; rfl
  have f1 : w2.frozen? ⟨b, 1, none⟩ = false := Lib.frozen_of_heap hb2 1
  obtain ⟨g, cap, rfl⟩ : ∃ g cap, v' = .slice (some ⟨g, 0, none⟩) (bs.length + 1) cap := by
    rcases hown'.2 with ⟨_, h0⟩ | ⟨g, cap, cur, hv, _⟩
    · omega
    · exact ⟨g, cap, hv⟩
  go_wp2
  go_ret
  refine ⟨rfl, ?_, ?_, ?_⟩
  · exact Lib.BuilderAt.put (T := 57) (e := 5) hB hb2 (bs' := bs ++ [.int .u8 c]) (by simpa using hown') (by decide)
  · exact ((hb1.alloc (by have := hb1.size; omega) _).grown hgrow (by have := hb1.size; simp; omega) (fun k hk => (hown.lt k hk).1)).setCell (p := ⟨b, 1, none⟩) hB _
  · intro k hk hfk
    obtain ⟨hk1, hzz, hf1⟩ := HK.out
    rw [Below.heap_setCell w2 ⟨b, 1, none⟩ _ k hfk.1, hgrow.block k (by simp; omega) (fun e => (hf1 k hfk).2 _ _ _ _ hbk e.symm), Lib.alloc_old w1 _ k (by omega)]
    exact hk1 k hfk.1
set_option maxHeartbeats 2000000 in
set_option maxRecDepth 100000 in
theorem writeString_any (B b : Nat) (bs : List Value) (s : ByteArray) (w : World) (h : Lib.IsBuilder 57 5 B b bs w) (hlen : bs.length + s.size ≤ 140737488355328) (hBw : B ≤ w.heap.size) :
    Calls Try.prog 16 #[.pointer (some ⟨b, 0, none⟩), .string s] w fun e w' => e = .returned (.tuple #[.int .i64 s.size, .nilIface]) ∧ (Lib.BuilderAt 57 5 B b (.pointer (some ⟨b, 0, none⟩)) (bs ++ Lib.strCells s) w' ∧ Below B w w' ∧ ∀ k, k < w.heap.size → Free w b k → w'.heap[k]? = w.heap[k]?) := by
  obtain ⟨i0, hi, hz0, hz1, hz2⟩ := info_parts infoByte
  go_enter Try.func16, Try.ntmps16
  go_wp2_with fail
  refine (copyCheck_any B b bs _ h).mono ?_
  rintro e w1 ⟨rfl, h1, hb1, hk1, hzz, hf1⟩
  have HK := Lib.hid (And.intro hk1 (And.intro hzz hf1))
  clear hk1 hzz hf1
  obtain ⟨hB, v, hbk, hown, hne⟩ := h1
  have c0 : w1.cell? ⟨b, 0, none⟩ = some (.pointer (some ⟨b, 0, none⟩)) := by rw [Lib.cell_of_heap hbk]; rfl
  have c1 : w1.cell? ⟨b, 1, none⟩ = some v := by rw [Lib.cell_of_heap hbk]; rfl
  go_wp2_with (at_builtin; refine Lib.wpList_append_own_string _ rfl _ _ 55 9 rfl B 5 i0 Try.underlying55 Try.underlying9 hi hz0 hz1 hz2 _ _ _ rfl hown s rfl ?c3 ?c4 ?c5 ?_)
  case c3 => unfold maxLen; omega
  case c4 => omega
  case c5 => have := hb1.size; omega
  intro v' w2 hown' hgrow _
  have hlt : b < w1.heap.size := by
    rcases Nat.lt_or_ge b w1.heap.size with h' | h'
    · exact h'
    · simp [Array.getElem?_eq_none h'] at hbk
  have hb2 : w2.heap[b]? = some (.cells #[.pointer (some ⟨b, 0, none⟩), v] 57 (0, 0)) := by
    rw [hgrow.block b hlt (fun e => hne e.symm)]
    exact hbk
  have d0 : w2.cell? ⟨b, 0, none⟩ = some (.pointer (some ⟨b, 0, none⟩)) := by rw [Lib.cell_of_heap hb2]; rfl
  have d1 : w2.cell? ⟨b, 1, none⟩ = some v := by rw [Lib.cell_of_heap hb2]; rfl
  have f1 : w2.frozen? ⟨b, 1, none⟩ = false := Lib.frozen_of_heap hb2 1
  obtain ⟨ao, n', cap, rfl⟩ : ∃ ao n' cap, v' = .slice ao n' cap := by
    rcases hown'.2 with ⟨hv, _⟩ | ⟨g, cap, cur, hv, _⟩
    · exact ⟨_, _, _, hv⟩
    · exact ⟨_, _, _, hv⟩
  go_wp2
  go_ret2
  refine ⟨rfl, ?_, ?_, ?_⟩
  · exact Lib.BuilderAt.put (T := 57) (e := 5) hB hb2 (bs' := bs ++ Lib.strCells s) (by simpa [Lib.strCells_length] using hown') (by decide)
  · exact (hb1.grown hgrow (by have := hb1.size; omega) (fun k hk => (hown.lt k hk).1)).setCell (p := ⟨b, 1, none⟩) hB _
  · intro k hk hfk
    obtain ⟨hk1, hzz, hf1⟩ := HK.out
    rw [Below.heap_setCell w2 ⟨b, 1, none⟩ _ k hfk.1, hgrow.block k (by omega) (fun e => (hf1 k hfk).2 _ _ _ _ hbk e.symm)]
    exact hk1 k hfk.1
/-- a builder that holds these bytes -/
def Bldg (w : World) (b : Nat) (l : List UInt8) : Prop := Lib.IsBuilder 57 5 b b (Lib.byteCells l) w
theorem Bldg.made (w : World) : Bldg (w.alloc (.cells #[.pointer none, .slice none 0 0] 57)) w.heap.size [] :=
  .inl ⟨Nat.le_refl _, _, heap_alloc_new w _, World.ownsRow_nil _ _ _ _, by simp [Value.ownBlock]⟩
end Go.Proofs.Ytammngncmkhokaa
namespace Go.Proofs.Ytammngncmkhokaa
open Go.RowKit

/-- the bytes of a count -/
def enc (n : Nat) : List UInt8 :=
  if _h : n < 128 then [UInt8.ofNat n] else UInt8.ofNat (n % 128 + 128) :: enc (n / 128)
termination_by n
decreasing_by omega

theorem enc_lt {n : Nat} (h : n < 128) : enc n = [UInt8.ofNat n] := by rw [enc, dif_pos h]
theorem enc_ge {n : Nat} (h : 128 ≤ n) : enc n = UInt8.ofNat (n % 128 + 128) :: enc (n / 128) := by rw [enc, dif_neg (by omega)]

theorem enc_len : ∀ (m n : Nat), n < 128 ^ (m + 1) → (enc n).length ≤ m + 1 := by
  intro m
  induction m with
  | zero => intro n h; rw [enc_lt (by simpa using h)]; simp
  | succ m ih =>
    intro n h
    by_cases h1 : n < 128
    · rw [enc_lt h1]; simp
    · rw [enc_ge (by omega), List.length_cons]
      have := ih (n / 128) (by rw [Nat.div_lt_iff_lt_mul (by omega)]; rw [Nat.pow_succ] at h; exact h)
      omega
theorem enc_len10 {n : Nat} (h : n < 18446744073709551616) : (enc n).length ≤ 10 :=
  enc_len 9 n (by omega)
theorem enc_pos (n : Nat) : 1 ≤ (enc n).length := by
  by_cases h : n < 128
  · rw [enc_lt h]; simp
  · rw [enc_ge (by omega)]; simp

theorem or128 (x : Int) : bits .or .u8 (x % 256) 128 = x % 128 + 128 := by
  have h0 : 0 ≤ x % 256 := by omega
  have h1 : x % 256 < 256 := by omega
  have h2 : x % 128 = (x % 256) % 128 := by omega
  rw [h2]
  generalize x % 256 = y at h0 h1
  obtain ⟨k, rfl⟩ := Int.eq_ofNat_of_zero_le h0
  have hk : k < 256 := by omega
  have : ∀ k : Fin 256, bits .or .u8 ((k.val : Nat) : Int) 128 = ((k.val : Nat) : Int) % 128 + 128 := by decide +kernel
  exact this ⟨k, hk⟩
end Go.Proofs.Ytammngncmkhokaa
namespace Go.Proofs.Ytammngncmkhokaa
open Go.RowKit
/-- a number as a count -/
def zig (n : Int) : Nat := if n < 0 then (2 * (-1 - n) + 1).toNat else (2 * n).toNat
theorem zig_lt {n : Int} (h0 : -9223372036854775808 ≤ n) (h1 : n ≤ 9223372036854775807) : zig n < 18446744073709551616 := by
  unfold zig; split <;> omega
theorem enc_300 : enc 300 = [172, 2] := by rw [enc_ge (by omega), enc_lt (by omega)]; rfl
theorem enc_1 : enc 1 = [1] := by rw [enc_lt (by omega)]; rfl
end Go.Proofs.Ytammngncmkhokaa
namespace Go.Proofs.Ytammngncmkhokaa
open Go.RowKit

theorem infoU8 : (Try.prog.info? 5).map (fun i => (i.zero, i.size, i.bytes)) = some (some (.int .u8 0), 1, 1) := by kernel_rfl

set_option maxRecDepth 100000 in
set_option maxHeartbeats 800000 in
theorem count_any (n : Int) (w : World) (h0 : 0 ≤ n) (h1 : n ≤ 18446744073709551615) :
    Calls Try.prog 17 #[.int .u64 n] w fun e w' => e = .returned (.string ⟨(enc n.toNat).toArray⟩) ∧ Below w.heap.size w w' := by
  obtain ⟨i0, hi, hz0, hz1, hz2⟩ := info_parts infoU8
  go_enter Try.func17, Try.ntmps17
  go_wp2_with (at_make; refine wpList_make_own _ rfl _ _ 55 rfl w.heap.size 5 i0 (.int .u8 0) 1 Try.underlying55 hi hz0 hz1 _ _ _ 10 rfl rfl (by omega) ?b1 ?b2 ?b3 ?_)
  case b1 => omega
  case b2 => unfold maxLen; omega
  case b3 => exact Nat.le_refl _
  intro w1 hown hgr
  have hbw : Below w.heap.size w w1 := (Below.refl _ _).grown hgr (Nat.le_refl _) (by simp)
  go_wp2
  go_loopw [0, 3] (fun m v wr => ∃ (k : Nat) (pre : List UInt8), m = .int .u64 (k : Int) ∧ k ≤ 18446744073709551615 ∧ pre ++ enc k = enc n.toNat ∧
      wr.ownsRow w.heap.size 5 1 v pre.length (pre.map cellB) ∧ Below w.heap.size w wr)
    (fun m _ _ => (intOf m).toNat)
  case atStart => exact ⟨n.toNat, [], by rw [Int.toNat_of_nonneg h0], by omega, rfl, hown, hbw⟩
  case round =>
    obtain ⟨k, pre, rfl, hk, hpre, hown, hb⟩ := hrel
    have hlen : pre.length + 1 ≤ 10 := by
      have := congrArg List.length hpre
      have h2 := enc_len10 (n := n.toNat) (by omega)
      have h3 := enc_pos k
      simp at this; omega
    have Hpre := Lib.hid hpre; clear hpre
    have hU := Try.underlying55
    by_cases hc : 128 ≤ k
    · go_wp2_with (at_builtin; refine wpList_push _ rfl _ _ 55 rfl w.heap.size 5 i0 (.int .u8 0) 1 1 hU hi hz0 hz1 hz2 rfl (by decide) _ _ _ rfl hown _ rfl rfl ?c1 ?c2 ?c3 ?c4 ?_)
      case c1 => rfl
      case c2 => unfold maxLen; omega
      case c3 => omega
      case c4 => exact hb.size
      intro v' w' ho' hb' _ _
      rw [or128] at ho'
      have e1 : List.map cellB pre ++ [Value.int IntKind.u8 (↑k % 128 + 128)] = (pre ++ [UInt8.ofNat (k % 128 + 128)]).map cellB := by
        simp [cellB]; omega
      simp only [e1] at ho'
      go_wp2
      go_roundw
      case rel => exact ⟨k / 128, pre ++ [UInt8.ofNat (k % 128 + 128)], by go_num, by omega, by rw [← Hpre.out, enc_ge hc]; simp, by simpa using ho', hb.trans hb'⟩
      case measure => simp [intOf]; omega
    · go_wp2_with (at_builtin; refine wpList_push _ rfl _ _ 55 rfl w.heap.size 5 i0 (.int .u8 0) 1 1 hU hi hz0 hz1 hz2 rfl (by decide) _ _ _ rfl hown _ rfl rfl ?c1 ?c2 ?c3 ?c4 ?_)
      case c1 => rfl
      case c2 => unfold maxLen; omega
      case c3 => omega
      case c4 => exact hb.size
      intro v' w' ho' hb' _ _
      have e1 : List.map cellB pre ++ [Value.int IntKind.u8 ↑k] = (pre ++ [UInt8.ofNat k]).map cellB := by
        simp [cellB]; omega
      simp only [e1] at ho'
      have hcv := run_string_own (P := Try.prog) w' 55 9 5 _ v' _ _ hU Try.underlying5 Try.underlying9 (by simp) (by simp) ho'
      go_wp2
      go_ret
      exact ⟨by rw [← Hpre.out, enc_lt (by omega)]; rfl, hb.trans hb'⟩
end Go.Proofs.Ytammngncmkhokaa
namespace Go.Proofs.Ytammngncmkhokaa
open Go.RowKit

set_option maxRecDepth 100000 in
set_option maxHeartbeats 400000 in
theorem number_any (n : Int) (w : World) (h0 : -9223372036854775808 ≤ n) (h1 : n ≤ 9223372036854775807) :
    Calls Try.prog 20 #[.int .i64 n] w fun e w' => e = .returned (.string ⟨(enc (zig n)).toArray⟩) ∧ Below w.heap.size w w' := by
  by_cases hn : n < 0
  · have hz : zig n = (2 * (-1 - n) + 1).toNat := by unfold zig; rw [if_pos hn]
    rw [hz]; clear hz
    go_enter Try.func20, Try.ntmps20
    go_wp2_with fail
    refine (count_any _ _ (by omega) (by omega)).mono ?_
    rintro e w' ⟨rfl, hb⟩
    go_wp2_with fail
    go_ret
    exact ⟨rfl, hb⟩
  · have hz : zig n = (2 * n).toNat := by unfold zig; rw [if_neg hn]
    rw [hz]; clear hz
    go_enter Try.func20, Try.ntmps20
    go_wp2_with fail
    refine (count_any _ _ (by omega) (by omega)).mono ?_
    rintro e w' ⟨rfl, hb⟩
    go_wp2_with fail
    go_ret
    exact ⟨rfl, hb⟩

end Go.Proofs.Ytammngncmkhokaa
namespace Go.Proofs.Ytammngncmkhokaa
open Go.RowKit

theorem bytes_one {P : Program} (W : World) (src dst e : TypeId) (b : UInt8) (hs : P.underlying src = some (.slice e)) (he : P.underlying e = some (.int .u8)) (hd : P.underlying dst = some .string) :
    (convert src dst (.slice (some ⟨W.heap.size, 0, none⟩) 1 1)).run P (W.alloc (.cells #[.int .u8 (b.toNat : Int)] e)) = .ok (.string ⟨#[b]⟩) (W.alloc (.cells #[.int .u8 (b.toNat : Int)] e)) := by
  refine run_convert_bytes_back (W.alloc (.cells #[.int .u8 (b.toNat : Int)] e)) src dst e ⟨W.heap.size, 0, none⟩ 1 [b] hs he hd fun j hj => ?_
  have : j = 0 := by simp at hj; omega
  subst this
  have : (⟨W.heap.size, 0, none⟩ : Addr).add 0 = ⟨W.heap.size, 0, none⟩ := by simp [Addr.add]
  rw [this, World.cell?_alloc_at _ _ _ _ rfl]; rfl

end Go.Proofs.Ytammngncmkhokaa
namespace Go.Proofs.Ytammngncmkhokaa
open Go.RowKit

theorem join_two (a b : List UInt8) : Lib.join [a, b] [] = a ++ b := by simp [Lib.join, List.intercalate]

/-- two strings, one behind the other -/
theorem concat_two (a b : ByteArray) (w : World) (hab : a.size + b.size ≤ 140737488355328) :
    Calls Try.prog 39 #[.slice (some ⟨w.heap.size, 0, none⟩) 2 2] (w.alloc (.cells #[.string a, .string b] 9)) fun e w' => e = .returned (.string ⟨(a.data.toList ++ b.data.toList).toArray⟩) ∧ Below w.heap.size w w' := by
  have hc : ∀ (j : Nat) x, [a, b][j]? = some x → (w.alloc (.cells #[.string a, .string b] 9)).cell? ⟨w.heap.size, 0 + j, none⟩ = some (.string x) := by
    intro j x hx
    rw [World.cell?_alloc_at _ _ _ _ rfl]
    match j, hx with
    | 0, hx => simp at hx; subst hx; rfl
    | 1, hx => simp at hx; subst hx; rfl
    | j + 2, hx => simp at hx
  have hl : a.data.toList.length = a.size := by rw [Array.length_toList]; rfl
  have hl2 : b.data.toList.length = b.size := by rw [Array.length_toList]; rfl
  have hlen : (Lib.join ([a, b].map (·.data.toList)) (⟨#[]⟩ : ByteArray).data.toList).length ≤ 140737488355328 := by
    show (Lib.join [a.data.toList, b.data.toList] []).length ≤ _
    rw [join_two, List.length_append]; omega
  have H := Lib.hid (Try.strings_Join w.heap.size 0 2 [a, b] ⟨#[]⟩ (w.alloc (.cells #[.string a, .string b] 9)) hc (by simp) (by simp) (by simp) hlen)
  rw [show Lib.join ([a, b].map (·.data.toList)) (⟨#[]⟩ : ByteArray).data.toList = a.data.toList ++ b.data.toList from join_two _ _] at H
  clear hlen hc
  go_enter Try.func39, Try.ntmps39
  go_wp2_with fail
  refine H.out.mono ?_
  rintro e w' ⟨rfl, hb⟩
  go_wp2_with fail
  go_ret
  exact ⟨rfl, ((Below.refl _ _).alloc (Nat.le_refl _) _).trans (hb.mono (by simp))⟩

/-- the bytes of a text -/
def txt (l : List UInt8) : List UInt8 := enc l.length ++ l
theorem txt_len {l : List UInt8} (h : l.length < 18446744073709551616) : (txt l).length ≤ l.length + 10 := by
  unfold txt; rw [List.length_append]; have := enc_len10 h; omega

set_option maxRecDepth 100000 in
set_option maxHeartbeats 400000 in
theorem text_any (s : ByteArray) (w : World) (hs : s.size ≤ 140737488351232) :
    Calls Try.prog 19 #[.string s] w fun e w' => e = .returned (.string ⟨(txt s.data.toList).toArray⟩) ∧ Below w.heap.size w w' := by
  have hl : (enc s.size).length ≤ 10 := enc_len10 (by omega)
  have ht : txt s.data.toList = enc s.size ++ s.data.toList := by unfold txt; rw [len_of]
  have hd : (⟨(enc s.size).toArray⟩ : ByteArray).size = (enc s.size).length := sizeL _
  rw [ht]
  clear ht
  go_enter Try.func19, Try.ntmps19
  go_wp2_with fail
  refine (count_any _ _ (by omega) (by omega)).mono ?_
  rintro e w1 ⟨rfl, h1⟩
  rw [Int.toNat_natCast]
  go_wp2_with fail
  refine (concat_two ⟨(enc s.size).toArray⟩ s w1 (by omega)).mono ?_
  rintro e w2 ⟨rfl, h2⟩
  go_wp2_with fail
  go_ret
  exact ⟨rfl, h1.trans (h2.mono h1.size)⟩

end Go.Proofs.Ytammngncmkhokaa
namespace Go.Proofs.Ytammngncmkhokaa
open Go Go.RowKit

set_option maxRecDepth 100000 in
set_option maxHeartbeats 400000 in
theorem nanI_any (x : Int) (w : World) :
    Calls Try.prog 63 #[.int .i64 x] w fun e w' => e = .returned (.bool false) ∧ w = w' := by
  go_enter Try.func63, Try.ntmps63
  go_wp2_with fail
  go_ret
  exact ⟨ret_bool (by simp), rfl⟩
set_option maxRecDepth 100000 in
set_option maxHeartbeats 800000 in
theorem cmpInt_any (x y : Int) (w : World) :
    Calls Try.prog 43 #[.int .i64 x, .int .i64 y] w fun e w' => e = .returned (.int .i64 (Vl.cmpI x y)) ∧ w = w' := by
  go_enter Try.func43, Try.ntmps43
  go_wp2_with (go_at_call 63; refine (nanI_any _ _).mono ?_; rintro e w' ⟨rfl, rfl⟩)
  all_goals
    go_ret
    refine ⟨ret_i64 ?_, rfl⟩
    unfold Vl.cmpI
    repeat' split
    all_goals first | rfl | omega
theorem cmpStr_any (a b : ByteArray) (w : World) :
    Calls Try.prog 42 #[.string a, .string b] w fun e w' => e = .returned (.int .i64 (Lib.compareBytes a.data.toList b.data.toList)) ∧ w = w' :=
  (Try.strings_Compare a b w).mono fun _ _ ⟨h, k⟩ => ⟨h, k.symm⟩

set_option maxRecDepth 100000 in
set_option maxHeartbeats 1600000 in
theorem vcompare_any (a b : Vl) (w : World) :
    Calls Try.prog 27 #[a.val, b.val] w fun e w' => e = .returned (.int .i64 (a.cmp b)) ∧ Below w.heap.size w w' := by
  have HB := Lib.hid (fun (o1 o2 : Obj) => (((Below.refl w.heap.size w).alloc (Nat.le_refl _) o1).alloc (by simp) o2))
  obtain ⟨p, n, s⟩ := a
  obtain ⟨q, m, t⟩ := b
  unfold Vl.val Vl.cmp
  dsimp only
  cases p <;> cases q
  all_goals
    simp only [Bool.false_eq_true, if_false, if_true]
    go_enter Try.func27, Try.ntmps27
    go_wp2_with (first | (go_at_call 43; refine (cmpInt_any _ _ _).mono ?_; rintro e w' ⟨rfl, rfl⟩) | (go_at_call 42; refine (cmpStr_any _ _ _).mono ?_; rintro e w' ⟨rfl, rfl⟩))
    go_ret
    exact ⟨rfl, HB.out _ _⟩
end Go.Proofs.Ytammngncmkhokaa
namespace Go.Proofs.Ytammngncmkhokaa
open Go Go.RowKit

set_option maxRecDepth 100000 in
set_option maxHeartbeats 800000 in
theorem right_any (a : Vl) (w : World) (hs : a.s.size ≤ maxLen) :
    Calls Try.prog 37 #[a.val] w fun e w' => e = .returned (.bool a.right) ∧ Below w.heap.size w w' := by
  have HB := Lib.hid (fun (o1 : Obj) => ((Below.refl w.heap.size w).alloc (Nat.le_refl _) o1))
  obtain ⟨p, n, s⟩ := a
  unfold Vl.val Vl.right
  unfold maxLen at hs
  dsimp only at hs ⊢
  cases p
  · simp only [Bool.false_eq_true, if_false]
    go_enter Try.func37, Try.ntmps37
    go_wp2_with fail
    go_ret
    exact ⟨ret_bool (by rw [ByteArray.toList_eq]), HB.out _⟩
  · simp only [if_true]
    by_cases hn : n = 0
    · subst hn
      go_enter Try.func37, Try.ntmps37
      go_wp2_with fail
      go_ret
      exact ⟨ret_bool (by simp; omega), HB.out _⟩
    · have hnb : (n == 0) = false := by simpa using hn
      go_enter Try.func37, Try.ntmps37
      go_wp2_with fail
      go_ret
      exact ⟨ret_bool (by simp [hn]), HB.out _⟩

end Go.Proofs.Ytammngncmkhokaa
namespace Go.Proofs.Ytammngncmkhokaa
open Go Go.RowKit

/-- 4 if a row is not right -/
def chkRow (l : List Vl) : Int := if l.all Vl.right && decide (l.length ≤ 8) then 0 else 4
theorem rightV_snoc {l : List Vl} {s : Vl} {k : Nat} (h : l[k]? = some s) : (l.take (k + 1)).all Vl.right = ((l.take k).all Vl.right && s.right) := by
  rw [List.take_add_one, h]; simp
theorem chkRow_bad {l : List Vl} {s : Vl} {k : Nat} (h : l[k]? = some s) (hs : s.right = false) : chkRow l = 4 := by
  unfold chkRow
  rw [if_neg]
  intro hc
  simp only [Bool.and_eq_true] at hc
  have := (List.all_eq_true.1 hc.1) s (List.mem_of_getElem? h)
  simp [hs] at this

set_option maxRecDepth 100000 in
set_option maxHeartbeats 1600000 in
theorem vcheck_any (A : Option Addr) (c : Nat) (l : List Vl) (w : World) (hl : Vals w w.heap.size A l) (hn : l.length ≤ maxLen) (hs : ∀ v ∈ l, v.s.size ≤ maxLen) :
    Calls Try.prog 15 #[.slice A l.length c] w fun e w' => e = .returned (.int .i64 (chkRow l)) ∧ Below w.heap.size w w' := by
  unfold maxLen at hn
  have Hl := Lib.hid (And.intro hl hs)
  clear hl hs
  have hright := fun v W h => Lib.hid (right_any v W h)
  unfold Vl.val at hright
  by_cases h8 : 8 < l.length
  · have hr : chkRow l = 4 := by unfold chkRow; rw [if_neg]; simp; omega
    rw [hr]
    clear hr
    go_enter Try.func15, Try.ntmps15
    go_wp2_with fail
    go_ret
    exact ⟨rfl, Below.refl _ _⟩
  · go_enter Try.func15, Try.ntmps15
    go_wp2_with fail
    go_loopw [10] (fun i wr => ∃ k : Nat, i = .int .i64 (k : Int) ∧ k ≤ l.length ∧ Below w.heap.size w wr ∧ (l.take k).all Vl.right = true)
      (fun i _ => l.length - (intOf i).toNat)
    case atStart => exact ⟨0, rfl, by omega, Below.refl _ _, rfl⟩
    case round =>
      obtain ⟨k, rfl, hk, hb, he⟩ := hrel
      by_cases hlt : k < l.length
      · have hx : l[k]? = some l[k] := List.getElem?_eq_getElem hlt
        obtain ⟨b, o, rfl, hB, hl⟩ := Hl.out.1 (by omega)
        obtain ⟨c0, c1, c2⟩ := (hl k _ hx).past hb hB
        have hsn := rightV_snoc hx
        have hbad := fun h => chkRow_bad hx h
        have hsz := Hl.out.2 _ (List.mem_of_getElem? hx)
        generalize l[k] = s at *
        have hcall := fun W => hright s W hsz
        have HH := Lib.hid (And.intro hb (And.intro he (And.intro hx (And.intro hsn hbad))))
        clear hb he hx hl hsn hbad hsz hright
        by_cases hr : s.right = true
        · simp only [hr] at hcall
          have HE := Lib.hid hr
          clear hr
          go_wp2_with fail
          refine (hcall _).out.mono ?_
          rintro e w1 ⟨rfl, h1⟩
          have H1 := Lib.hid (below_then ((Below.refl wr.heap.size wr).alloc (Nat.le_refl _) _) (by simp) h1)
          clear h1
          go_wp2_with fail
          obtain ⟨hb, he, hx, hsn, hbad⟩ := HH.out
          go_roundw
          case rel => exact ⟨k + 1, by go_num, by omega, hb.trans (H1.out.mono hb.size), by rw [hsn, he, HE.out]; rfl⟩
          case measure => simp [intOf]; omega
        · have hrf : s.right = false := by simpa using hr
          simp only [hrf] at hcall
          have HE := Lib.hid hrf
          clear hr hrf
          go_wp2_with fail
          refine (hcall _).out.mono ?_
          rintro e w1 ⟨rfl, h1⟩
          have H1 := Lib.hid (below_then ((Below.refl wr.heap.size wr).alloc (Nat.le_refl _) _) (by simp) h1)
          clear h1
          go_wp2_with fail
          go_ret
          obtain ⟨hb, he, hx, hsn, hbad⟩ := HH.out
          exact ⟨ret_i64 (hbad HE.out).symm, hb.trans (H1.out.mono hb.size)⟩
      · have hk2 : k = l.length := by omega
        subst hk2
        rw [List.take_length] at he
        have HH := Lib.hid (And.intro hb he)
        clear hb he
        go_wp2_with fail
        go_ret
        obtain ⟨hb, he⟩ := HH.out
        exact ⟨ret_i64 (by unfold chkRow; rw [if_pos]; simp [he]; omega), hb⟩

end Go.Proofs.Ytammngncmkhokaa
namespace Go.Proofs.Ytammngncmkhokaa
open Go Go.RowKit

/-- the bytes of a value, of a row; what Encode hands back -/
def vB (v : Vl) : List UInt8 := if v.t then 1 :: txt v.s.data.toList else 0 :: enc (zig v.n)
def rowB (l : List Vl) : List UInt8 := enc l.length ++ l.flatMap vB
def encS (l : List Vl) : List UInt8 := if chkRow l = 0 then rowB l else []
theorem chk_case' (l : List Vl) : chkRow l = 0 ∧ l.all Vl.right = true ∧ l.length ≤ 8 ∨ chkRow l = 4 := by
  unfold chkRow
  by_cases h : (l.all Vl.right && decide (l.length ≤ 8)) = true
  · rw [if_pos h]; simp only [Bool.and_eq_true, decide_eq_true_eq] at h; exact .inl ⟨rfl, h.1, h.2⟩
  · rw [if_neg h]; exact .inr rfl
theorem vB_len {v : Vl} (h : v.right = true) (h2 : -9223372036854775808 ≤ v.n ∧ v.n ≤ 9223372036854775807) : (vB v).length ≤ 80 := by
  unfold vB
  unfold Vl.right at h
  split
  · rename_i ht
    rw [if_pos ht] at h
    simp only [Bool.and_eq_true, decide_eq_true_eq] at h
    have hs : v.s.data.toList.length = v.s.size := len_of v.s
    have := txt_len (l := v.s.data.toList) (by omega)
    rw [List.length_cons]; omega
  · have := enc_len10 (zig_lt h2.1 h2.2)
    rw [List.length_cons]; omega
theorem rows_len : ∀ {l : List Vl}, l.all Vl.right = true → (∀ v ∈ l, VOk v) → (l.flatMap vB).length ≤ 80 * l.length
  | [], _, _ => by simp
  | v :: l, h, hv => by
    rw [List.all_cons, Bool.and_eq_true] at h
    have h1 := rows_len h.2 fun u hu => hv u (List.mem_cons_of_mem _ hu)
    have h2 := vB_len h.1 (hv v (List.mem_cons_self ..)).2
    rw [List.flatMap_cons, List.length_append, List.length_cons]
    omega
theorem flatB_snoc {l : List Vl} {k : Nat} {v : Vl} (h : l[k]? = some v) : (l.take (k + 1)).flatMap vB = (l.take k).flatMap vB ++ vB v := by
  rw [List.take_add_one, h]; simp
theorem bldg_write {w : World} {b : Nat} {l m : List UInt8} (h : Lib.BuilderAt 57 5 b b (.pointer (some ⟨b, 0, none⟩)) (Lib.byteCells l ++ Lib.byteCells m) w) : Bldg w b (l ++ m) := by
  rw [← Lib.byteCells_append] at h
  exact .inr h
theorem Bldg.past {w w' : World} {b : Nat} {l : List UInt8} (h : Bldg w b l) (hb : Below w.heap.size w w') (hlt : b < w.heap.size) : Bldg w' b l := by
  have key : ∀ p, Lib.BuilderAt 57 5 b b p (Lib.byteCells l) w → Lib.BuilderAt 57 5 b b p (Lib.byteCells l) w' := by
    rintro p ⟨h1, v, h2, h3, h4⟩
    exact ⟨h1, v, (hb.block b hlt).trans h2, own_below h3 hb, h4⟩
  rcases h with h | h
  · exact .inl (key _ h)
  · exact .inr (key _ h)
theorem Bldg.inside {w : World} {b : Nat} {l : List UInt8} (h : Bldg w b l) : b < w.heap.size := by
  have key : ∀ p, Lib.BuilderAt 57 5 b b p (Lib.byteCells l) w → b < w.heap.size := by
    rintro p ⟨_, v, h2, _⟩
    exact (Array.getElem?_eq_some_iff.1 h2).1
  rcases h with h | h <;> exact key _ h
theorem writeS {b : Nat} {l : List UInt8} (m : List UInt8) {w : World} (h : Bldg w b l) (hlen : l.length + m.length ≤ 140737488355328) :
    Calls Try.prog 16 #[.pointer (some ⟨b, 0, none⟩), .string ⟨m.toArray⟩] w fun e w' => e = .returned (.tuple #[.int .i64 m.length, .nilIface]) ∧ Bldg w' b (l ++ m) ∧ Below b w w' ∧ ∀ k, k < w.heap.size → Free w b k → w'.heap[k]? = w.heap[k]? := by
  have hs : (⟨m.toArray⟩ : ByteArray).size = m.length := sizeL m
  refine (writeString_any b b (Lib.byteCells l) ⟨m.toArray⟩ w h (by rw [Lib.byteCells_length, hs]; exact hlen) (Nat.le_of_lt h.inside)).mono ?_
  rintro e w' ⟨he, hb, hw⟩
  refine ⟨by rw [he, hs], ?_, hw⟩
  rw [Lib.strCells_eq] at hb
  exact bldg_write hb
theorem writeB {b : Nat} {l : List UInt8} (c : UInt8) (x : Int) (hx : (c.toNat : Int) = x) {w : World} (h : Bldg w b l) (hlen : l.length + 1 ≤ 140737488355328) :
    Calls Try.prog 18 #[.pointer (some ⟨b, 0, none⟩), .int .u8 x] w fun e w' => e = .returned .nilIface ∧ Bldg w' b (l ++ [c]) ∧ Below b w w' ∧ ∀ k, k < w.heap.size → Free w b k → w'.heap[k]? = w.heap[k]? := by
  subst hx
  refine (writeByte_any b b (Lib.byteCells l) (c.toNat : Int) w h (by rw [Lib.byteCells_length]; exact hlen) (Nat.le_of_lt h.inside)).mono ?_
  rintro e w' ⟨he, hb, hw⟩
  exact ⟨he, bldg_write hb, hw⟩

/-- a block that was made behind the builder's is none of them -/
theorem Bldg.free {w : World} {b : Nat} {l : List UInt8} (h : Bldg w b l) (o : Obj) : Free (w.alloc o) b w.heap.size := by
  have hb := h.inside
  refine ⟨by omega, fun p v T r hv e => ?_⟩
  rw [Below.heap_alloc w o b hb] at hv
  have key : ∀ q, Lib.BuilderAt 57 5 b b q (Lib.byteCells l) w → False := by
    rintro q ⟨_, v', h2, h3, _⟩
    rw [h2] at hv
    simp only [Option.some.injEq, Obj.cells.injEq, Array.mk.injEq, List.cons.injEq, and_true] at hv
    obtain ⟨⟨_, rfl⟩, _⟩ := hv
    have := (h3.lt _ e).2
    omega
  rcases h with h | h <;> exact key _ h
theorem Bldg.more {w : World} {b : Nat} {l : List UInt8} (h : Bldg w b l) (o : Obj) : Bldg (w.alloc o) b l := h.past ((Below.refl _ _).alloc (Nat.le_refl _) _) h.inside
set_option maxRecDepth 100000 in
set_option maxHeartbeats 3200000 in
theorem encode_any (A : Option Addr) (c : Nat) (l : List Vl) (w : World) (hl : Vals w w.heap.size A l) (hn : l.length ≤ maxLen) (hok : ∀ v ∈ l, VOk v) :
    Calls Try.prog 5 #[.slice A l.length c] w fun e w' => e = .returned (.tuple #[.string ⟨(encS l).toArray⟩, .int .i64 (chkRow l)]) ∧ Below w.heap.size w w' := by
  have hchk := Lib.hid (vcheck_any A c l w hl hn (fun v hv => (hok v hv).1))
  have Hl := Lib.hid (And.intro hl hok)
  rcases chk_case' l with ⟨hz, hr, h8⟩ | hz
  · have hlen := rows_len hr hok
    have hle := enc_len10 (n := l.length) (by omega)
    have hE : encS l = enc l.length ++ l.flatMap vB := by unfold encS rowB; rw [if_pos hz]
    rw [hz] at hchk ⊢
    have HE := Lib.hid (And.intro hE hr)
    have hcount := fun W => Lib.hid (count_any (l.length : Int) W (by omega) (by omega))
    have hnum := fun n W h0 h1 => Lib.hid (number_any n W h0 h1)
    have htxt := fun s W h => Lib.hid (text_any s W h)
    rw [Int.toNat_natCast] at hcount
    clear hl hok hz hr hE
    go_enter Try.func5, Try.ntmps5
    go_wp2_with fail
    refine hchk.out.mono ?_
    rintro e w1 ⟨rfl, b1⟩
    have B1 := Lib.hid b1
    clear b1 hchk
    go_wp2_with fail
    refine (hcount _).out.mono ?_
    rintro e w2 ⟨rfl, b2⟩
    have hm := (Bldg.made w1).past b2 (by simp)
    have hsz : w.heap.size ≤ w1.heap.size := B1.out.size
    have B2 := Lib.hid (And.intro hm ((B1.out.alloc B1.out.size (.cells #[.pointer none, .slice none 0 0] 57)).trans (b2.mono (by simp; omega))))
    clear b2 hm hcount
    go_wp2_with fail
    refine (writeS (enc l.length) B2.out.1 (by simp; omega)).mono ?_
    rintro e w3 ⟨rfl, m3, b3, _⟩
    rw [List.nil_append] at m3
    have B3 := Lib.hid (And.intro m3 (B2.out.2.trans (b3.mono hsz)))
    clear m3 b3
    go_wp2_with fail
    go_loopw [20] (fun i wr => ∃ k : Nat, i = .int .i64 (k : Int) ∧ k ≤ l.length ∧ Bldg wr w1.heap.size (enc l.length ++ (l.take k).flatMap vB) ∧ Below w.heap.size w wr)
      (fun i _ => l.length - (intOf i).toNat)
    case atStart => exact ⟨0, rfl, by omega, by simpa using B3.out.1, B3.out.2⟩
    case round =>
      obtain ⟨k, rfl, hk, hm, hb⟩ := hrel
      by_cases hlt : k < l.length
      · have hx : l[k]? = some l[k] := List.getElem?_eq_getElem hlt
        obtain ⟨b, o, rfl, hB, hl⟩ := Hl.out.1 (by omega)
        obtain ⟨c0, c1, c2⟩ := (hl k _ hx).past hb hB
        obtain ⟨o1, o2, o3⟩ := Hl.out.2 _ (List.mem_of_getElem? hx)
        have hsn := flatB_snoc hx
        have hrv : l[k].right = true := List.all_eq_true.1 HE.out.2 _ (List.mem_of_getElem? hx)
        have htl : ((l.take k).flatMap vB).length ≤ 80 * k := by
          have h1 : (l.take k).all Vl.right = true := List.all_eq_true.2 fun v hv => List.all_eq_true.1 HE.out.2 v (List.mem_of_mem_take hv)
          have h2 := rows_len h1 fun v hv => Hl.out.2 v (List.mem_of_mem_take hv)
          rw [List.length_take, Nat.min_eq_left (by omega)] at h2
          exact h2
        generalize l[k] = v at *
        obtain ⟨pre, hpre⟩ : ∃ p, enc l.length ++ (l.take k).flatMap vB = p := ⟨_, rfl⟩
        have hpl : pre.length ≤ 1000 := by rw [← hpre, List.length_append]; omega
        rw [hpre] at hm
        have HH := Lib.hid (And.intro hb (And.intro hm (And.intro hsn hpre)))
        have hwz := hm.inside
        clear hb hm hx hl hsn hpre
        obtain ⟨t, n, s⟩ := v
        unfold Vl.right at hrv
        cases t
        · simp only [Bool.false_eq_true, if_false] at hrv
          clear hrv o1
          go_wp2_with fail
          clear c0 c1 c2
          refine (writeB 0 0 rfl (HH.out.2.1.more _) (by omega)).mono ?_
          rintro e w4 ⟨rfl, m4, b4, f4⟩
          have hown := Own.made wr 64 [.bool false, .int .i64 n, .string s]
          have hw4 : w4.heap[wr.heap.size]? = _ := (f4 wr.heap.size (by simp) (HH.out.2.1.free _)).trans hown
          have d1 : w4.cell? ⟨wr.heap.size, 1, none⟩ = some (.int .i64 n) := by simp [World.cell?, hw4]
          have H4 := Lib.hid (And.intro m4 b4)
          clear m4 b4 f4 hown hw4
          go_wp2_with fail
          refine (hnum n _ o2 o3).out.mono ?_
          rintro e w5 ⟨rfl, b5⟩
          have hle' := enc_len10 (zig_lt o2 o3)
          have H5 := Lib.hid (And.intro (H4.out.1.past b5 H4.out.1.inside) (H4.out.2.trans (b5.mono (by have := H4.out.1.inside; omega))))
          clear b5
          go_wp2_with fail
          refine (writeS (enc (zig n)) H5.out.1 (by simp; omega)).mono ?_
          rintro e w6 ⟨rfl, m6, b6, _⟩
          have H6 := Lib.hid (And.intro m6 (H5.out.2.trans b6))
          clear m6 b6
          go_wp2_with fail
          go_roundw
          case rel =>
            obtain ⟨hb, hm, hsn, hpre⟩ := HH.out
            refine ⟨k + 1, by go_num, by omega, ?_, (hb.alloc hb.size _).trans (H6.out.2.mono hsz)⟩
            have := H6.out.1
            rw [hsn, ← List.append_assoc, hpre]
            simpa [vB] using this
          case measure => simp [intOf]; omega
        · simp only [if_true, Bool.and_eq_true, decide_eq_true_eq] at hrv
          obtain ⟨_, hs64⟩ := hrv
          go_wp2_with fail
          clear c0 c1 c2
          refine (writeB 1 1 rfl (HH.out.2.1.more _) (by omega)).mono ?_
          rintro e w4 ⟨rfl, m4, b4, f4⟩
          have hown := Own.made wr 64 [.bool true, .int .i64 n, .string s]
          have hw4 : w4.heap[wr.heap.size]? = _ := (f4 wr.heap.size (by simp) (HH.out.2.1.free _)).trans hown
          have d1 : w4.cell? ⟨wr.heap.size, 2, none⟩ = some (.string s) := by simp [World.cell?, hw4]
          have H4 := Lib.hid (And.intro m4 b4)
          clear m4 b4 f4 hown hw4
          go_wp2_with fail
          refine (htxt s _ (by omega)).out.mono ?_
          rintro e w5 ⟨rfl, b5⟩
          have hss : s.data.toList.length = s.size := len_of s
          have hle' := txt_len (l := s.data.toList) (by omega)
          have H5 := Lib.hid (And.intro (H4.out.1.past b5 H4.out.1.inside) (H4.out.2.trans (b5.mono (by have := H4.out.1.inside; omega))))
          clear b5
          go_wp2_with fail
          refine (writeS (txt s.data.toList) H5.out.1 (by simp; omega)).mono ?_
          rintro e w6 ⟨rfl, m6, b6, _⟩
          have H6 := Lib.hid (And.intro m6 (H5.out.2.trans b6))
          clear m6 b6
          go_wp2_with fail
          go_roundw
          case rel =>
            obtain ⟨hb, hm, hsn, hpre⟩ := HH.out
            refine ⟨k + 1, by go_num, by omega, ?_, (hb.alloc hb.size _).trans (H6.out.2.mono hsz)⟩
            have := H6.out.1
            rw [hsn, ← List.append_assoc, hpre]
            simpa [vB] using this
          case measure => simp [intOf]; omega
      · have hk2 : k = l.length := by omega
        subst hk2
        rw [List.take_length] at hm
        have HH := Lib.hid (And.intro hb hm)
        clear hb hm
        go_wp2_with fail
        refine (Try.Builder_String_any w1.heap.size w1.heap.size _ _ HH.out.2 (Nat.le_of_lt HH.out.2.inside)).mono ?_
        rintro e w4 ⟨rfl, b4⟩
        go_wp2_with fail
        go_ret2
        exact ⟨by rw [HE.out.1]; rfl, HH.out.1.trans (b4.mono hsz)⟩
  · have hE : encS l = [] := by unfold encS; rw [if_neg (by omega)]
    rw [hz] at hchk ⊢
    have HE := Lib.hid hE
    clear hl hok hz hE
    go_enter Try.func5, Try.ntmps5
    go_wp2_with fail
    refine hchk.out.mono ?_
    rintro e w1 ⟨rfl, b1⟩
    go_wp2_with fail
    go_ret2
    exact ⟨by rw [HE.out]; rfl, b1⟩
end Go.Proofs.Ytammngncmkhokaa
namespace Go.Proofs.Ytammngncmkhokaa
open Go.RowKit

/-- what is taken from the k-th byte on, n being what was gathered: the count, the rest, why not -/
def tc : Nat → Nat → List UInt8 → Nat × List UInt8 × Int
  | _, _, [] => (0, [], 3)
  | k, n, b :: l =>
    if (k = 9 ∧ 1 < b.toNat) ∨ (0 < k ∧ b.toNat = 0) then (0, [], 4)
    else if b.toNat < 128 then (n + b.toNat % 128 * 128 ^ k, l, 0) else tc (k + 1) (n + b.toNat % 128 * 128 ^ k) l

theorem drop_at (s : ByteArray) (k : Nat) (h : k < s.size) : s.data.toList.drop k = s[k] :: s.data.toList.drop (k + 1) := by
  rw [List.drop_eq_getElem_cons (by simpa using h)]; rfl

theorem tc_end (s : ByteArray) (k n : Nat) (h : s.size ≤ k) : tc k n (s.data.toList.drop k) = (0, [], 3) := by
  rw [List.drop_eq_nil_of_le (by simpa using h)]; rfl
theorem tc_bad (s : ByteArray) (k n : Nat) (h : k < s.size) (hb : (k = 9 ∧ 1 < s[k].toNat) ∨ (0 < k ∧ s[k].toNat = 0)) : tc k n (s.data.toList.drop k) = (0, [], 4) := by
  rw [drop_at s k h, tc, if_pos hb]
theorem tc_last (s : ByteArray) (k n : Nat) (h : k < s.size) (hb : ¬ ((k = 9 ∧ 1 < s[k].toNat) ∨ (0 < k ∧ s[k].toNat = 0))) (hl : s[k].toNat < 128) :
    tc k n (s.data.toList.drop k) = (n + s[k].toNat % 128 * 128 ^ k, s.data.toList.drop (k + 1), 0) := by
  rw [drop_at s k h, tc, if_neg hb, if_pos hl]
theorem tc_more (s : ByteArray) (k n : Nat) (h : k < s.size) (hb : ¬ ((k = 9 ∧ 1 < s[k].toNat) ∨ (0 < k ∧ s[k].toNat = 0))) (hl : ¬ s[k].toNat < 128) :
    tc k n (s.data.toList.drop k) = tc (k + 1) (n + s[k].toNat % 128 * 128 ^ k) (s.data.toList.drop (k + 1)) := by
  rw [drop_at s k h, tc, if_neg hb, if_neg hl]

theorem byte_lt (b : UInt8) : b.toNat < 256 := b.toNat_lt
/-- what has been gathered stays in its place -/
theorem gather_lt {k n x : Nat} (hn : n < 128 ^ k) : n + x % 128 * 128 ^ k < 128 ^ (k + 1) := by
  have h : x % 128 < 128 := Nat.mod_lt _ (by omega)
  rw [Nat.pow_succ]
  have : x % 128 * 128 ^ k ≤ 127 * 128 ^ k := Nat.mul_le_mul_right _ (by omega)
  omega
theorem pow9 {k : Nat} (h : k ≤ 9) : 128 ^ k ≤ 9223372036854775808 := by
  have : 128 ^ k ≤ 128 ^ 9 := Nat.pow_le_pow_right (by omega) h
  omega

theorem andNot128 (b : UInt8) : bits .andNot .u8 (b.toNat : Int) 128 = (b.toNat : Int) % 128 := by
  have : ∀ k : Fin 256, bits .andNot .u8 ((k.val : Nat) : Int) 128 = ((k.val : Nat) : Int) % 128 := by decide +kernel
  exact this ⟨b.toNat, b.toNat_lt⟩

/-- the bits of what was gathered and of what comes do not meet: or is a sum -/
theorem or_gather {k n x : Nat} (hk : k ≤ 9) (hn : n < 128 ^ k) (hx : x % 128 * 128 ^ k < 18446744073709551616) : bits .or .u64 (n : Int) ((x % 128 * 128 ^ k : Nat) : Int) = ((n + x % 128 * 128 ^ k : Nat) : Int) := by
  have hp := pow9 hk
  have e : 128 ^ k = 2 ^ (7 * k) := by rw [Nat.pow_mul]
  have h1 : n ||| x % 128 * 128 ^ k = n + x % 128 * 128 ^ k := by
    rw [e] at hn ⊢
    rw [Nat.mul_comm, Nat.or_comm, ← Nat.two_pow_add_eq_or_of_lt hn]; omega
  rw [u64_or_nat _ _ (by omega) hx, h1]
theorem fits {k x : Nat} (hk : k ≤ 9) (h9 : k = 9 → x ≤ 1) : x % 128 * 128 ^ k < 18446744073709551616 := by
  by_cases h : k = 9
  · subst h
    have := h9 rfl
    have : x = 0 ∨ x = 1 := by omega
    rcases this with rfl | rfl <;> decide
  · have : 128 ^ k ≤ 128 ^ 8 := Nat.pow_le_pow_right (by omega) (by omega)
    have h2 : x % 128 ≤ 127 := by omega
    have : x % 128 * 128 ^ k ≤ 127 * 128 ^ 8 := Nat.mul_le_mul h2 this
    omega
theorem or_walk {k n x : Nat} (hk : k ≤ 9) (h9 : k = 9 → x ≤ 1) (hn : n < 128 ^ k) :
    bits .or .u64 (n : Int) (IntKind.u64.wrap ((x : Int) % 128 * 2 ^ (7 * k))) = ((n + x % 128 * 128 ^ k : Nat) : Int) := by
  have hf := fits hk h9
  have e : ((x : Int) % 128 * 2 ^ (7 * k)) = ((x % 128 * 128 ^ k : Nat) : Int) := by
    rw [show (128 : Nat) ^ k = 2 ^ (7 * k) by rw [Nat.pow_mul]]
    simp
  rw [e, IntWalk.u64_in _ ⟨by omega, by omega⟩, or_gather hk hn hf]
end Go.Proofs.Ytammngncmkhokaa
namespace Go.Proofs.Ytammngncmkhokaa
open Go.RowKit

/-- three results: a count, the rest, why not -/
def triple (r : Nat × List UInt8 × Int) : Value := .tuple #[.int .u64 (r.1 : Int), .string ⟨r.2.1.toArray⟩, .int .i64 r.2.2]

set_option maxRecDepth 100000 in
set_option maxHeartbeats 800000 in
theorem takeCount_any (s : ByteArray) (w : World) (hs : s.size ≤ maxLen) :
    Calls Try.prog 24 #[.string s] w fun e w' => e = .returned (triple (tc 0 0 s.data.toList)) ∧ Below w.heap.size w w' := by
  unfold maxLen at hs
  go_enter Try.func24, Try.ntmps24
  go_wp2
  go_loop [5, 10] (fun n i => ∃ (N k : Nat), n = .int .u64 (N : Int) ∧ i = .int .i64 (k : Int) ∧ k ≤ s.size ∧ k ≤ 9 ∧ N < 128 ^ k ∧ tc 0 0 s.data.toList = tc k N (s.data.toList.drop k))
    (fun _ i => s.size - (intOf i).toNat)
  case atStart => exact ⟨0, 0, rfl, rfl, by omega, by omega, by omega, by simp⟩
  case round =>
    obtain ⟨N, k, rfl, rfl, hk, hk9, hN, htc⟩ := hrel
    have Htc := Lib.hid htc; clear htc
    have HN := Lib.hid hN; clear hN
    by_cases hlt : k < s.size
    · by_cases hbad : (k = 9 ∧ 1 < s[k].toNat) ∨ (0 < k ∧ s[k].toNat = 0)
      · have Hres := Lib.hid (Htc.out.trans (tc_bad s k N hlt hbad))
        have Hbad := Lib.hid hbad; clear hbad
        go_wp2
        all_goals first
          | (go_ret3; exact ⟨by rw [Hres.out]; rfl, Below.refl _ _⟩)
          | (exfalso; have h := Hbad.out; simp_all; omega)
          | (exfalso; have h := Hbad.out; simp_all; done)
      · have hor := or_walk (x := s[k].toNat) hk9 (fun h => by omega) HN.out
        have ha := andNot128 s[k]
        have hb1 : s[k].toNat < 256 := s[k].toNat_lt
        have hg := Lib.hid (gather_lt (x := s[k].toNat) HN.out)
        have hk8 : ¬ s[k].toNat < 128 → k < 9 := by omega
        have h3 : (k = 9 ∧ s[k].toNat = 1) ∨ k = 0 ∨ (0 < k ∧ k ≠ 9 ∧ s[k].toNat ≠ 0) := by omega
        have Hbad := Lib.hid hbad; clear hbad
        generalize hM : N + s[k].toNat % 128 * 128 ^ k = M at hor hg
        have HM := Lib.hid hM; clear hM
        have tests : (((k : Int) == 9) = true ∧ decide ((1 : Int) < (s[k].toNat : Int)) = false ∧ 0 < k ∧ ((s[k].toNat : Int) == 0) = false) ∨
            (((k : Int) == 9) = false ∧ ¬ 0 < k) ∨ (((k : Int) == 9) = false ∧ 0 < k ∧ ((s[k].toNat : Int) == 0) = false) := by
          rcases h3 with ⟨h3, h4⟩ | h3 | ⟨h3, h4, h5⟩
          · left; simp; omega
          · right; left; simp; omega
          · right; right; simp; omega
        clear h3
        by_cases hl : s[k].toNat < 128
        · have Hres := Lib.hid (Htc.out.trans (tc_last s k N hlt Hbad.out hl))
          rcases tests with ⟨t1, t2, t3, t4⟩ | ⟨t1, t2⟩ | ⟨t1, t2, t3⟩
          all_goals
            go_wp2
            go_quiet (fail)
            go_wp2
            go_ret3
            refine ⟨?_, ?_⟩
            · rw [Hres.out, HM.out]
              show Ending.returned (.tuple #[_, .string (s.extract (k + 1) s.size), _]) = _
              rw [extract_from]; rfl
            · exact below_draws (Below.refl _ _) _
        · rcases tests with ⟨t1, t2, t3, t4⟩ | ⟨t1, t2⟩ | ⟨t1, t2, t3⟩
          all_goals
            go_wp2
            go_round
            case rel => exact ⟨M, k + 1, rfl, by go_num, by omega, by omega, hg.out, by rw [Htc.out, tc_more s k N hlt Hbad.out hl, HM.out]⟩
            case measure => simp [intOf]; omega
    · have Hres := Lib.hid (Htc.out.trans (tc_end s k N (by omega)))
      go_wp2
      go_ret3
      exact ⟨by rw [Hres.out]; rfl, Below.refl _ _⟩
end Go.Proofs.Ytammngncmkhokaa
namespace Go.Proofs.Ytammngncmkhokaa
open Go.RowKit

theorem mul_walk {k x : Nat} (hk : k ≤ 9) (h9 : k = 9 → x ≤ 1) : IntKind.u64.wrap ((x : Int) % 128 * ((128 ^ k : Nat) : Int)) = ((x % 128 * 128 ^ k : Nat) : Int) := by
  have hf := fits hk h9
  have e : (x : Int) % 128 * ((128 ^ k : Nat) : Int) = ((x % 128 * 128 ^ k : Nat) : Int) := by rw [Int.natCast_mul]; rfl
  rw [e]
  exact IntWalk.u64_in _ ⟨by omega, by omega⟩
theorem sum_lt {k n x : Nat} (hk : k ≤ 9) (h9 : k = 9 → x ≤ 1) (hn : n < 128 ^ k) : n + x % 128 * 128 ^ k ≤ 18446744073709551615 := by
  by_cases h : k = 9
  · subst h
    have := h9 rfl
    have : x = 0 ∨ x = 1 := by omega
    rcases this with rfl | rfl <;> omega
  · have h1 := gather_lt (x := x) hn
    have : 128 ^ (k + 1) ≤ 128 ^ 9 := Nat.pow_le_pow_right (by omega) (by omega)
    omega
theorem pow8 {k : Nat} (h : k < 9) : 128 ^ k ≤ 72057594037927936 := by
  have : 128 ^ k ≤ 128 ^ 8 := Nat.pow_le_pow_right (by omega) (by omega)
  omega

end Go.Proofs.Ytammngncmkhokaa
namespace Go.Proofs.Ytammngncmkhokaa
open Go.RowKit

theorem tc_ok : ∀ (l : List UInt8) (k n : Nat), k ≤ 9 → n < 128 ^ k →
    (tc k n l).1 ≤ 18446744073709551615 ∧ ((tc k n l).2.2 = 0 ∧ (tc k n l).2.1.length ≤ l.length ∨ tc k n l = (0, [], 3) ∨ tc k n l = (0, [], 4)) := by
  intro l
  induction l with
  | nil => intro k n _ _; exact ⟨by simp [tc], .inr (.inl rfl)⟩
  | cons b l ih =>
    intro k n hk hn
    unfold tc
    by_cases hbad : (k = 9 ∧ 1 < b.toNat) ∨ (0 < k ∧ b.toNat = 0)
    · rw [if_pos hbad]; exact ⟨by simp, .inr (.inr rfl)⟩
    · rw [if_neg hbad]
      have h9 : k = 9 → b.toNat ≤ 1 := fun h => by omega
      by_cases hl : b.toNat < 128
      · rw [if_pos hl]; exact ⟨sum_lt hk h9 hn, .inl ⟨rfl, by simp⟩⟩
      · rw [if_neg hl]
        have := ih (k + 1) (n + b.toNat % 128 * 128 ^ k) (by omega) (gather_lt hn)
        refine ⟨this.1, ?_⟩
        rcases this.2 with ⟨h1, h2⟩ | h | h
        · exact .inl ⟨h1, by simp; omega⟩
        · exact .inr (.inl h)
        · exact .inr (.inr h)

/-- a number taken -/
def tn (r : Nat × List UInt8 × Int) : Int × List UInt8 × Int :=
  if r.2.2 = 0 then ((if r.1 % 2 = 1 then -1 - ((r.1 / 2 : Nat) : Int) else ((r.1 / 2 : Nat) : Int)), r.2.1, 0) else (0, [], r.2.2)
def tripleI (r : Int × List UInt8 × Int) : Value := .tuple #[.int .i64 r.1, .string ⟨r.2.1.toArray⟩, .int .i64 r.2.2]

/-- a text taken -/
def tt (r : Nat × List UInt8 × Int) : List UInt8 × List UInt8 × Int :=
  if r.2.2 = 0 then (if 65536 < r.1 then ([], [], 2) else if r.2.1.length < r.1 then ([], [], 3) else (r.2.1.take r.1, r.2.1.drop r.1, 0)) else ([], [], r.2.2)
def tripleS (r : List UInt8 × List UInt8 × Int) : Value := .tuple #[.string ⟨r.1.toArray⟩, .string ⟨r.2.1.toArray⟩, .int .i64 r.2.2]

theorem size_list (l : List UInt8) : (⟨l.toArray⟩ : ByteArray).size = l.length := by simp [ByteArray.size]
theorem tn_odd {m : Nat} {l : List UInt8} (h : m % 2 = 1) : tn (m, l, 0) = (-1 - ((m / 2 : Nat) : Int), l, 0) := by simp [tn, h]
theorem tn_even {m : Nat} {l : List UInt8} (h : ¬ m % 2 = 1) : tn (m, l, 0) = (((m / 2 : Nat) : Int), l, 0) := by simp only [tn, if_true, if_neg h]
theorem tt_long {m : Nat} {l : List UInt8} (h : 65536 < m) : tt (m, l, 0) = ([], [], 2) := by simp [tt, h]
theorem tt_short {m : Nat} {l : List UInt8} (h : ¬ 65536 < m) (h2 : l.length < m) : tt (m, l, 0) = ([], [], 3) := by simp [tt, h, h2]
theorem tt_fits {m : Nat} {l : List UInt8} (h : ¬ 65536 < m) (h2 : ¬ l.length < m) : tt (m, l, 0) = (l.take m, l.drop m, 0) := by simp [tt, h, h2]

set_option maxRecDepth 100000 in
set_option maxHeartbeats 400000 in
theorem takeNumber_any (s : ByteArray) (w : World) (hs : s.size ≤ maxLen) :
    Calls Try.prog 40 #[.string s] w fun e w' => e = .returned (tripleI (tn (tc 0 0 s.data.toList))) ∧ Below w.heap.size w w' := by
  have hb := tc_ok s.data.toList 0 0 (by omega) (by omega)
  have hcall := Lib.hid (takeCount_any s w hs)
  generalize tc 0 0 s.data.toList = r at hb hcall
  obtain ⟨m, l, y⟩ := r
  obtain ⟨hm, hy⟩ := hb
  simp only at hm hy
  have h3 : (y = 0 ∧ m % 2 = 1) ∨ (y = 0 ∧ ¬ m % 2 = 1) ∨ (m, l, y) = (0, [], 3) ∨ (m, l, y) = (0, [], 4) := by
    rcases hy with ⟨h, _⟩ | h | h
    · by_cases h2 : m % 2 = 1
      · exact .inl ⟨h, h2⟩
      · exact .inr (.inl ⟨h, h2⟩)
    · exact .inr (.inr (.inl h))
    · exact .inr (.inr (.inr h))
  clear hy
  rcases h3 with ⟨rfl, h3⟩ | ⟨rfl, h3⟩ | h3 | h3
  · rw [tn_odd h3]
    have h4 : ((m : Int) % 2 == 1) = true := by simp; omega
    go_enter Try.func40, Try.ntmps40
    go_wp2_with fail
    refine hcall.out.mono ?_
    rintro e w' ⟨rfl, hb⟩
    unfold triple
    go_wp2_with fail
    go_ret3
    exact ⟨rfl, hb⟩
  · rw [tn_even h3]
    have h4 : ((m : Int) % 2 == 1) = false := by simp; omega
    go_enter Try.func40, Try.ntmps40
    go_wp2_with fail
    refine hcall.out.mono ?_
    rintro e w' ⟨rfl, hb⟩
    unfold triple
    go_wp2_with fail
    go_ret3
    exact ⟨rfl, hb⟩
  all_goals
    obtain ⟨rfl, rfl, rfl⟩ : m = 0 ∧ l = [] ∧ y = _ := by simpa using h3
    clear h3
    go_enter Try.func40, Try.ntmps40
    go_wp2_with fail
    refine hcall.out.mono ?_
    rintro e w' ⟨rfl, hb⟩
    unfold triple
    go_wp2_with fail
    go_ret3
    exact ⟨rfl, hb⟩

set_option maxRecDepth 100000 in
set_option maxHeartbeats 400000 in
theorem takeText_any (s : ByteArray) (w : World) (hs : s.size ≤ maxLen) :
    Calls Try.prog 41 #[.string s] w fun e w' => e = .returned (tripleS (tt (tc 0 0 s.data.toList))) ∧ Below w.heap.size w w' := by
  have hb := tc_ok s.data.toList 0 0 (by omega) (by omega)
  have hcall := Lib.hid (takeCount_any s w hs)
  have hsl : s.data.toList.length = s.size := by rw [Array.length_toList]; rfl
  rw [hsl] at hb
  generalize tc 0 0 s.data.toList = r at hb hcall
  obtain ⟨m, l, y⟩ := r
  obtain ⟨hm, hy⟩ := hb
  simp only at hm hy
  unfold maxLen at hs
  have h3 : (y = 0 ∧ 65536 < m ∧ l.length ≤ s.size) ∨ (y = 0 ∧ ¬ 65536 < m ∧ l.length < m ∧ l.length ≤ s.size) ∨ (y = 0 ∧ ¬ 65536 < m ∧ ¬ l.length < m ∧ l.length ≤ s.size) ∨ (m, l, y) = (0, [], 3) ∨ (m, l, y) = (0, [], 4) := by
    rcases hy with ⟨h, h5⟩ | h | h
    · omega
    · exact .inr (.inr (.inr (.inl h)))
    · exact .inr (.inr (.inr (.inr h)))
  clear hy hsl
  rcases h3 with ⟨rfl, h3, h6⟩ | ⟨rfl, h3, h4, h6⟩ | ⟨rfl, h3, h4, h6⟩ | h3 | h3
  · rw [tt_long h3]
    go_enter Try.func41, Try.ntmps41
    go_wp2_with fail
    refine hcall.out.mono ?_
    rintro e w' ⟨rfl, hb⟩
    unfold triple
    go_wp2_with fail
    go_ret3
    exact ⟨rfl, hb⟩
  · rw [tt_short h3 h4]
    go_enter Try.func41, Try.ntmps41
    go_wp2_with fail
    refine hcall.out.mono ?_
    rintro e w' ⟨rfl, hb⟩
    unfold triple
    go_wp2_with fail
    go_ret3
    exact ⟨rfl, hb⟩
  · rw [tt_fits h3 h4]
    go_enter Try.func41, Try.ntmps41
    go_wp2_with fail
    refine hcall.out.mono ?_
    rintro e w' ⟨rfl, hb⟩
    unfold triple
    go_wp2_with fail
    have hml : m ≤ l.length := by omega
    go_quiet (fail)
    go_wp2
    go_ret3
    refine ⟨?_, below_draws hb _⟩
    show Ending.returned (.tuple #[.string ((⟨l.toArray⟩ : ByteArray).extract 0 m), .string ((⟨l.toArray⟩ : ByteArray).extract m (⟨l.toArray⟩ : ByteArray).size), _]) = _
    rw [extract_from, extract_upto]
    rfl
  all_goals
    obtain ⟨rfl, rfl, rfl⟩ : m = 0 ∧ l = [] ∧ y = _ := by simpa using h3
    clear h3
    go_enter Try.func41, Try.ntmps41
    go_wp2_with fail
    refine hcall.out.mono ?_
    rintro e w' ⟨rfl, hb⟩
    unfold triple
    go_wp2_with fail
    go_ret3
    exact ⟨rfl, hb⟩

end Go.Proofs.Ytammngncmkhokaa
