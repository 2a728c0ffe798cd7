/- Part 1 of the texts on which MomentFronts rests: facts and contracts. -/
import Derived.Test.YtfhlgdidobecaaaRows
import Derived.WalkKit
import Derived.ProofKit
import Derived.OpenShut
import Derived.JoinedCond
import Derived.Carry
import Derived.Lib.Hide
import Derived.Laws.IdiomStrings
import Derived.Maps.AppendAt
import Derived.Deep.QuietTactic
import Derived.Laws.OwnMore
import Derived.Deep.Draws
import Derived.Test.YtfhlgdidobecaaaProg
import Derived.ChangeArms
import Derived.Deep.Slices
import Derived.SizedLaws
import Derived.Outline
import Derived.WalkSpells
import Derived.WalkLawsBesides
import Derived.Deep.RegionHeld3
import Derived.Deep.DrawnRows
import Derived.StillTailTactics
import Derived.Handy
import Derived.Deep.AppendLies
import Derived.Deep.DeepCutAuto
import Derived.Sort.Grow
import Derived.Shelf.SlSortCmp.NoneTotal
import Derived.Test.YtfhlgdidobecaaaSort
import Derived.Laws.StructEq
import Derived.BigQuiet
namespace Go.Proofs.Ytfhlgdidobecaaa
open Go.ChangeShapes Go.WideShapes Go.ChangeAt Go.RowKit

theorem own : ownKnob Try.prog.godebug = none := by kernel_rfl
theorem laidOut : laidOutB Try.prog = true := by kernel_rfl

section
variable {H : Type} {enc : TypeId × Value → H} {P : Program}
/-- what was read before the call reads so behind it -/
theorem trodAll_later (hl : laidOutB P = true) {W W' : World} (hb : Below W.heap.size W W') :
    ∀ {ts : List TypeId} {vs : List Value} {ds : List (DataW H)} {ps : List MemPlace}, (∀ t ∈ ts, P.readableRec t = true ∧ t < P.types.size) → (∀ x ∈ ps, x.block < W.heap.size) →
      DataW.TrodAll enc P W 0 (fun _ => true) true ts vs ds ps → DataW.TrodAll enc P W' 0 (fun b => decide (b < W.heap.size)) true ts vs ds ps
  | [], _, _, _, _, _, h => by
    obtain ⟨rfl, rfl, rfl⟩ := trodAll_nil h
    exact trodAll_mk0
  | t :: ts, _, _, _, hr, hlt, h => by
    obtain ⟨v, vs, d, ds, a, b, rfl, rfl, rfl, h1, h2⟩ := trodAll_cons h
    have h3 := hr t (List.mem_cons_self ..)
    exact trodAll_cons_mk (Below.trod hl h3.1 h3.2 h1 hb (fun x hx => hlt x (List.mem_append_left _ hx)))
      (trodAll_later hl hb (fun t ht => hr t (List.mem_cons_of_mem _ ht)) (fun x hx => hlt x (List.mem_append_right _ hx)) h2)

/-- what a law's statement asks behind the call -/
theorem post_law {f : Func} {s : ChangeSpec} {fresh handsOn : Bool} {W W' : World} {args : Array Value} {ds gs : List (DataW H)} {before : List MemPlace}
    (hl : laidOutB P = true) (hr : ∀ t ∈ f.params.toList, P.readableRec t = true ∧ t < P.types.size) (hB : P.underlying 4 = some .bool) (hres : f.resultTypes = #[4]) (hv : s.vars = [])
    (hW : DataW.Whole enc P f.params.toList s.vars false W args.toList ds gs before) (hs : s.fn H (ds ++ gs) = { results := [.lit (.bool true)], args := ds }) (hb : Below W.heap.size W W') :
    s.post enc P f false fresh handsOn false W args (.bool true) W' := by
  have hlt : ∀ p ∈ before, p.block < W.heap.size := fun p hp => hW.lt p hp
  have hW0 := hW
  obtain ⟨p, q, hA, hV, rfl, hz, hn⟩ := hW
  rw [hv] at hV
  obtain ⟨rfl, rfl⟩ := trodVars_none hV
  simp only [List.append_nil] at hlt hW0
  refine ⟨ds, [], p, [], p, [], by simpa using hW0, ?_, ?_, ?_, World.keptBut_mono (fun x hx => ⟨hx, .inr (.inl hx)⟩) (hb.frame (· ∈ p)), fun h => by cases h⟩
  · rw [hs, hres]; exact trodAll_cons_mk (shut_bool hB true) trodAll_mk0
  · rw [hs]; exact trodAll_later hl hb hr hlt hA
  · rw [hs, hv]; exact hV
end

section
variable {H : Type} {enc : TypeId × Value → H} {P : Program} {W : World} {base : Nat}
/-- an integer argument, with its kind's range behind 'wf' -/
theorem arg_int {t : TypeId} {k : IntKind} {v : Value} {d : DataW H} {ps : List MemPlace} (ht : P.underlying t = some (.int k)) (hval : Value.okWide P W .any base t v) (hd : DataW.Trod enc P W 0 (fun _ => true) true t v d ps) :
    ∃ n, v = .int k n ∧ d = .lit (.int k n) ∧ ps = [] ∧ (Lit.int k n).wf = true := open_int ht hval hd
theorem wf_u64 {n : Int} (h : (Lit.int .u64 n).wf = true) : 0 ≤ n ∧ n ≤ 18446744073709551615 := by simpa [Lit.wf, IntKind.min, IntKind.max, IntKind.signed, IntKind.bits] using h
theorem wf_i64 {n : Int} (h : (Lit.int .i64 n).wf = true) : -9223372036854775808 ≤ n ∧ n ≤ 9223372036854775807 := by simpa [Lit.wf, IntKind.min, IntKind.max, IntKind.signed, IntKind.bits] using h
theorem wf_u8 {n : Int} (h : (Lit.int .u8 n).wf = true) : 0 ≤ n ∧ n ≤ 255 := by simpa [Lit.wf, IntKind.min, IntKind.max, IntKind.signed, IntKind.bits] using h
theorem wf_u16 {n : Int} (h : (Lit.int .u16 n).wf = true) : 0 ≤ n ∧ n ≤ 65535 := by simpa [Lit.wf, IntKind.min, IntKind.max, IntKind.signed, IntKind.bits] using h
end
end Go.Proofs.Ytfhlgdidobecaaa
namespace Go.Proofs.Ytfhlgdidobecaaa
open Go Go.RowKit

/-- 'append(s, x)' onto a row of the call's own: the new element lies in a block of its own. -/
theorem wpList_push {P : Program} (w : World) {ops : Array Oper} {rest : List Oper} {o : Oper} {a : Act} {Q : Exit → Act → World → Prop} (hgd : o.guard = none) (s x : Operand) (t : TypeId)
    (ho : o.op = .call { callee := .builtin .append, args := #[s, x], argTypes := #[t, t] })
    (base : Nat) (e : TypeId) (i : TypeInfo) (z : Value) (size bytes : Nat) (ht : P.underlying t = some (.slice e)) (hi : P.info? e = some i) (hz : i.zero = some z)
    (hsize : i.size = size) (hby : i.bytes = bytes) (hzs : z.cells.size = size) (hsz : 0 < size)
    (v : Value) (n : Nat) (xs : List Value) (hs : a.eval s = v) (hown : w.ownsRow base e size v n xs)
    (news : Array Value) (hx : a.eval x = .slice (some ⟨w.heap.size, 0, none⟩) 1 1) (hl : news.size = size) (h1 : ∀ u ∈ news.toList, u.oneCell' = true)
    (h63 : n + 1 ≤ maxLen) (hbytes : (n + 1) * bytes ≤ 140737488355328) (hbase : base ≤ w.heap.size)
    (h : ∀ v' w', w'.ownsRow base e size v' (n + 1) (xs ++ news.toList) → Below base w w' → (v'.ownBlock = v.ownBlock ∨ v'.ownBlock = some (w.heap.size + 1)) → w.grownBy w' v.ownBlock → wpList P ops Q rest (a.put o.dst v') w') :
    wpList P ops Q (o :: rest) a (w.alloc (.cells news e)) := by
  have hc : ∀ j u, news.toList[j]? = some u → (w.alloc (.cells news e)).cell? ((⟨w.heap.size, 0, none⟩ : Addr).add j) = some u := by
    intro j u hu
    have : (⟨w.heap.size, 0, none⟩ : Addr).add j = ⟨w.heap.size, j, none⟩ := by unfold Addr.add; split <;> simp_all
    rw [this, World.cell?_alloc_at _ _ _ _ rfl]
    simpa using hu
  obtain ⟨v', w', hrun, ho', hg, _, hat⟩ := run_append_own_at (P := P) (w.alloc (.cells news e)) base t o.type e i z size bytes ht hi hz hsize hby hzs hsz v n xs (hown.alloc _)
    ⟨w.heap.size, 0, none⟩ 1 1 news.toList (by simpa using hl) hc h1 h63 hbytes (by simp; omega)
  refine wpList_plain hgd fun K hK => ?_
  unfold Oper.wp execOp
  simp only [ho, resolve, invoke, builtin, Sem.run_bind, Sem.run_pure, Result.andThen_ok, List.map_toArray, List.map_cons, List.map_nil, hs, hx, hrun]
  have hg2 : w.grownBy w' v.ownBlock := ⟨hg.os, hg.tape, hg.output, Nat.le_trans (by simp) hg.size, fun k hk hne => (hg.block k (by simp; omega) hne).trans (Below.heap_alloc w _ k hk)⟩
  exact hK _ _ (h v' w' ho' ((Below.refl base w).grown hg2 hbase (fun k hk => (hown.lt k hk).1)) (by simpa using hat) hg2)

/-- a byte in its cell -/
def cellB (b : UInt8) : Value := .int .u8 (b.toNat : Int)
theorem cellB_one (l : List UInt8) : ∀ u ∈ l.map cellB, u.oneCell' = true := by
  intro u hu; obtain ⟨b, _, rfl⟩ := List.mem_map.1 hu; rfl

/-- 'string(b)' of a row of bytes of the call's own -/
theorem run_string_own {P : Program} (w : World) (src dst e : TypeId) (base : Nat) (v : Value) (l : List UInt8) (n : Nat) (hs : P.underlying src = some (.slice e)) (he : P.underlying e = some (.int .u8))
    (hd : P.underlying dst = some .string) (hn : l.length = n) (hn0 : 0 < n) (h : w.ownsRow base e 1 v n (l.map cellB)) : (convert src dst v).run P w = .ok (.string ⟨l.toArray⟩) w := by
  rcases h.2 with ⟨_, h0⟩ | ⟨g, cap, cur, rfl, hb, hg, hr⟩
  · omega
  · subst hn
    refine run_convert_bytes_back w src dst e ⟨g, 0, none⟩ cap l hs he hd fun j hj => ?_
    refine h.cells (g := g) rfl j _ ?_
    simp [List.getElem?_eq_getElem hj, cellB]
theorem belows {a b c : World} (h : Below a.heap.size a b) (k : Below b.heap.size b c) : Below a.heap.size a c := h.trans (k.mono h.size)
/-- what the call owns stays owned behind a call that turns nothing older -/
theorem own_below {w w' : World} {base : Nat} {e : TypeId} {size : Nat} {v : Value} {n : Nat} {xs : List Value} (h : w.ownsRow base e size v n xs) (hb : Below w.heap.size w w') : w'.ownsRow base e size v n xs :=
  h.kept (row := none) ⟨hb.os, hb.tape, hb.output, hb.size, fun k hk _ => hb.block k hk⟩ (by cases v.ownBlock <;> simp)
/-- a frame that is older than both -/
theorem below_then {B : Nat} {a b c : World} (h : Below B a b) (hB : B ≤ a.heap.size) (k : Below b.heap.size b c) : Below B a c := h.trans (k.mono (Nat.le_trans hB h.size))
/-- draws turn no block -/
theorem below_draws {B : Nat} {a w : World} (h : Below B a w) (n : Nat) : Below B a (w.drewN n) := ⟨h.os, h.tape, h.output, h.size, h.block⟩
theorem str_ext {a b : ByteArray} (h : a.data.toList = b.data.toList) : a = b := by
  cases a; cases b; simp only at h; congr 1; exact Array.toList_inj.1 h
theorem str_app (a b : List UInt8) : (⟨a.toArray⟩ : ByteArray) ++ ⟨b.toArray⟩ = ⟨(a ++ b).toArray⟩ := by
  apply str_ext; simp
theorem str_app1 (a : List UInt8) (b : UInt8) : (⟨a.toArray⟩ : ByteArray) ++ ⟨#[b]⟩ = ⟨(a ++ [b]).toArray⟩ := str_app a [b]
theorem str_of (s : ByteArray) : s = ⟨s.data.toList.toArray⟩ := by apply str_ext; simp
theorem str_app_of (a : List UInt8) (s : ByteArray) : (⟨a.toArray⟩ : ByteArray) ++ s = ⟨(a ++ s.data.toList).toArray⟩ := by apply str_ext; simp
theorem sizeL (l : List UInt8) : (⟨l.toArray⟩ : ByteArray).size = l.length := by simp [ByteArray.size]
theorem len_of (s : ByteArray) : s.data.toList.length = s.size := by rw [Array.length_toList]; rfl
theorem extract_from (s : ByteArray) (k : Nat) : s.extract k s.size = ⟨(s.data.toList.drop k).toArray⟩ := by
  apply str_ext
  simp [ByteArray.data_extract, Array.toList_extract, List.extract_eq_take_drop]
  exact List.take_of_length_le (by simp)
theorem extract_upto (s : ByteArray) (k : Nat) : s.extract 0 k = ⟨(s.data.toList.take k).toArray⟩ := by
  apply str_ext
  simp [ByteArray.data_extract, Array.toList_extract, List.extract_eq_take_drop]
end Go.Proofs.Ytfhlgdidobecaaa
namespace Go.Proofs.Ytfhlgdidobecaaa
open Go Go.RowKit

/-- a time -/
structure Tm where
  e : Nat
  a : Nat
  b : Nat
  deriving DecidableEq, Inhabited

namespace Tm
def cells (t : Tm) : List Value := [.int .u64 (t.e : Int), .int .u64 (t.a : Int), .int .u64 (t.b : Int)]
def val (t : Tm) : Value := .agg #[.int .u64 (t.e : Int), .int .u64 (t.a : Int), .int .u64 (t.b : Int)]
def le (s t : Tm) : Bool := decide (s.e ≤ t.e) && (decide (s.a ≤ t.a) && decide (s.b ≤ t.b))
def cmpN (x y : Nat) : Int := if x < y then -1 else if y < x then 1 else 0
def cmp (s t : Tm) : Int := if s.e ≠ t.e then cmpN s.e t.e else if s.a ≠ t.a then cmpN s.a t.a else cmpN s.b t.b
def sup (s t : Tm) : Tm := ⟨max s.e t.e, max s.a t.a, max s.b t.b⟩
def inf (s t : Tm) : Tm := ⟨min s.e t.e, min s.a t.a, min s.b t.b⟩
theorem le_iff {s t : Tm} : s.le t = true ↔ s.e ≤ t.e ∧ s.a ≤ t.a ∧ s.b ≤ t.b := by simp [le]
end Tm
end Go.Proofs.Ytfhlgdidobecaaa
namespace Go.Proofs.Ytfhlgdidobecaaa
open Go Go.RowKit

theorem ret_bool {a b : Bool} (h : a = b) : Ending.returned (.bool a) = .returned (.bool b) := by rw [h]
theorem ret_i64 {a b : Int} (h : a = b) : Ending.returned (.int .i64 a) = .returned (.int .i64 b) := by rw [h]
theorem ret_u64 {a b : Int} (h : a = b) : Ending.returned (.int .u64 a) = .returned (.int .u64 b) := by rw [h]
/-- behind a call that turns nothing older, every older cell and mark reads as before -/
theorem olds {W w1 : World} (h : Below W.heap.size W w1) : (∀ b o, b < W.heap.size → w1.cell? ⟨b, o, none⟩ = W.cell? ⟨b, o, none⟩) ∧ (∀ b o, b < W.heap.size → w1.frozen? ⟨b, o, none⟩ = W.frozen? ⟨b, o, none⟩) :=
  ⟨fun b o hb => h.cell (p := ⟨b, o, none⟩) hb, fun b o hb => h.frozen (p := ⟨b, o, none⟩) hb⟩
/-- block g holds just these cells, all of them open -/
def Own (w : World) (g : Nat) (t : TypeId) (l : List Value) : Prop := w.heap[g]? = some (.cells l.toArray t (0, 0))
section
variable {w w' : World} {g : Nat} {t : TypeId} {l : List Value}
theorem Own.inside (h : Own w g t l) : g < w.heap.size := by
  unfold Own at h
  exact (Array.getElem?_eq_some_iff.1 h).1
theorem Own.at_ (h : Own w g t l) (i : Nat) : w.cell? ⟨g, i, none⟩ = l[i]? := by
  unfold Own at h
  simp [World.cell?, h]
theorem Own.open_ (h : Own w g t l) (i : Nat) : w.frozen? ⟨g, i, none⟩ = false := by
  unfold Own at h
  simp [World.frozen?, h]
theorem Own.made (w : World) (t : TypeId) (l : List Value) : Own (w.alloc (.cells l.toArray t)) w.heap.size t l := heap_alloc_new w _
theorem Own.draws (h : Own w g t l) (n : Nat) : Own (w.drewN n) g t l := h
theorem Own.more (h : Own w g t l) (o : Obj) : Own (w.alloc o) g t l := (Below.heap_alloc w o g h.inside).trans h
theorem Own.set_ (h : Own w g t l) (i : Nat) (u : Value) : Own (w.setCell ⟨g, i, none⟩ u) g t (l.set i u) := by
  unfold Own at h ⊢
  have : (l.set i u).toArray = l.toArray.setIfInBounds i u := by apply Array.ext'; simp
  rw [this]
  simp [World.setCell, Array.getElem?_modify, h]
theorem Own.other (h : Own w g t l) {p : Addr} (hp : p.block ≠ g) (u : Value) : Own (w.setCell p u) g t l := (Below.heap_setCell w p u g (Ne.symm hp)).trans h
theorem Own.past {B : Nat} (h : Own w g t l) (hb : Below B w w') (hg : g < B) : Own w' g t l := (hb.block g hg).trans h
theorem own_of {l' : List Value} (h : Own w g t l) (e : l = l') : Own w g t l' := e ▸ h
theorem Own.stored3 {a b c : Value} (h : Own w g t [a, b, c]) (x y z : Value) :
    (w.setCell ⟨g, 0, none⟩ x).cell? ⟨g, 0, none⟩ = some x ∧ ((w.setCell ⟨g, 0, none⟩ x).setCell ⟨g, 1, none⟩ y).cell? ⟨g, 1, none⟩ = some y ∧
      (((w.setCell ⟨g, 0, none⟩ x).setCell ⟨g, 1, none⟩ y).setCell ⟨g, 2, none⟩ z).cell? ⟨g, 2, none⟩ = some z :=
  ⟨(h.set_ 0 x).at_ 0, ((h.set_ 0 x).set_ 1 y).at_ 1, (((h.set_ 0 x).set_ 1 y).set_ 2 z).at_ 2⟩
theorem below_set3 {B : Nat} {u : World} (h : Below B u w) (hg : B ≤ g) (x y z : Value) : Below B u (((w.setCell ⟨g, 0, none⟩ x).setCell ⟨g, 1, none⟩ y).setCell ⟨g, 2, none⟩ z) :=
  ((h.setCell (p := ⟨g, 0, none⟩) hg _).setCell (p := ⟨g, 1, none⟩) hg _).setCell (p := ⟨g, 2, none⟩) hg _
end
end Go.Proofs.Ytfhlgdidobecaaa
namespace Go.Proofs.Ytfhlgdidobecaaa
open Go Go.RowKit

/-- a time's three cells lie at b, o -/
def TmAt (w : World) (b o : Nat) (t : Tm) : Prop :=
  w.cell? ⟨b, o, none⟩ = some (.int .u64 (t.e : Int)) ∧ w.cell? ⟨b, o + 1, none⟩ = some (.int .u64 (t.a : Int)) ∧ w.cell? ⟨b, o + 2, none⟩ = some (.int .u64 (t.b : Int))
/-- a slice at A of as many elements as l has reads as l; it lies below block B -/
def Times (w : World) (B : Nat) (A : Option Addr) (l : List Tm) : Prop :=
  0 < l.length → ∃ b o, A = some ⟨b, o, none⟩ ∧ b < B ∧ ∀ (i : Nat) (t : Tm), l[i]? = some t → TmAt w b (o + i * 3) t
section
variable {w w' : World} {B B' b o : Nat} {A : Option Addr} {l : List Tm} {t : Tm}
theorem TmAt.past (h : TmAt w b o t) (hb : Below B w w') (hB : b < B) : TmAt w' b o t :=
  ⟨(hb.cell (p := ⟨b, o, none⟩) hB).trans h.1, (hb.cell (p := ⟨b, o + 1, none⟩) hB).trans h.2.1, (hb.cell (p := ⟨b, o + 2, none⟩) hB).trans h.2.2⟩
theorem Times.past (h : Times w B A l) (hb : Below B' w w') (hB : B ≤ B') : Times w' B A l := fun hn => by
  obtain ⟨b, o, e, hlt, hc⟩ := h hn
  exact ⟨b, o, e, hlt, fun i t hi => (hc i t hi).past hb (by omega)⟩
theorem Times.wide (h : Times w B A l) (hB : B ≤ B') : Times w B' A l := fun hn => by
  obtain ⟨b, o, e, hlt, hc⟩ := h hn
  exact ⟨b, o, e, by omega, hc⟩
theorem Times.nil_ : Times w B A [] := fun h => absurd h (by simp)
end
end Go.Proofs.Ytfhlgdidobecaaa
namespace Go.Proofs.Ytfhlgdidobecaaa
open Go Go.RowKit Go.ChangeShapes Go.WideShapes Go.ChangeAt Go.Deep

set_option maxRecDepth 100000
section
variable {H : Type} {enc : TypeId × Value → H} {w : World} {base : Nat} {spare : Nat → Bool} {held : Bool}
theorem wf_nat {n : Int} (h : (Lit.int .u64 n).wf = true) : ∃ m : Nat, n = (m : Int) := by
  have h2 : 0 ≤ n := by
    have : 0 ≤ n ∧ n ≤ 18446744073709551615 := by simpa [Lit.wf, IntKind.min, IntKind.max, IntKind.signed, IntKind.bits] using h
    exact this.1
  exact ⟨n.toNat, (Int.toNat_of_nonneg h2).symm⟩
theorem trod_time {fuel : Nat} {cs : List Value} {x : DataW H × List MemPlace} (h : DataW.trod enc Try.prog w base spare held fuel 26 cs = some x) : ∃ t : Tm, cs = t.cells := by
  obtain ⟨xs, n, _, _, hlen, hxs, hf⟩ := DataW.trod_struct Try.underlying26 h
  have hc : Try.prog.cellsOf 26 = 3 := by kernel_rfl
  have hc1 : Try.prog.cellsOf 23 = 1 := by kernel_rfl
  have hc2 : Try.prog.cellsOf 24 = 2 := by kernel_rfl
  rw [hc] at hlen
  match cs, hlen with
  | [c0, c1, c2], _ =>
    have h0 := hf 0 _ rfl
    have h1 := hf 1 _ rfl
    match xs, hxs with
    | [y0, y1], _ =>
      simp only [hc1, hc2, List.drop_zero, List.take_succ_cons, List.take_zero, List.drop_succ_cons, List.getElem?_cons_zero, List.getElem?_cons_succ] at h0 h1
      obtain ⟨n0, e0, _, w0⟩ := DataW.trod_int Try.underlying23 h0
      obtain ⟨zs, m, _, _, _, hzs, hg⟩ := DataW.trod_array Try.underlying24 h1
      match zs, hzs with
      | [z0, z1], _ =>
        have k0 := hg 0 (by omega)
        have k1 := hg 1 (by omega)
        simp only [hc1, Nat.zero_mul, Nat.one_mul, List.drop_zero, List.take_succ_cons, List.take_zero, List.drop_succ_cons, List.getElem?_cons_zero, List.getElem?_cons_succ] at k0 k1
        obtain ⟨n1, e1, _, w1⟩ := DataW.trod_int Try.underlying23 k0
        obtain ⟨n2, e2, _, w2⟩ := DataW.trod_int Try.underlying23 k1
        obtain ⟨m0, rfl⟩ := wf_nat w0
        obtain ⟨m1, rfl⟩ := wf_nat w1
        obtain ⟨m2, rfl⟩ := wf_nat w2
        obtain rfl := (List.cons.inj e0).1
        obtain rfl := (List.cons.inj e1).1
        obtain rfl := (List.cons.inj e2).1
        exact ⟨⟨m0, m1, m2⟩, rfl⟩
theorem open_time {r : Reach} {b0 : Nat} {v : Value} {d : DataW H} {p : List MemPlace} (hv : Value.okWide Try.prog w r b0 26 v) (h : DataW.Trod enc Try.prog w base spare held 26 v d p) : ∃ t : Tm, v = t.val := by
  obtain ⟨cs, rfl, hsz⟩ := okWide_struct Try.underlying26 hv
  obtain ⟨fuel, hf⟩ := h
  obtain ⟨t, ht⟩ := trod_time hf
  refine ⟨t, ?_⟩
  obtain ⟨l⟩ := cs
  simp only [Value.cells] at ht
  unfold Tm.val
  rw [show l = t.cells from by simpa using ht]
  rfl
/-- the slice, its list; and what its reading tells of its length -/
theorem open_times {v : Value} {d : DataW H} {p : List MemPlace} {r : Reach} {b0 : Nat} (hv : Value.okWide Try.prog w r b0 22 v) (h : DataW.Trod enc Try.prog w base spare held 22 v d p) :
    ∃ (A : Option Addr) (c : Nat) (l : List Tm), v = .slice A l.length c ∧ l.length ≤ c ∧ c ≤ maxLen ∧ Times w w.heap.size A l ∧ (d = .nil ∧ l = [] ∧ c = 0 ∨ ∃ es sp, d = .slice es sp ∧ es.length = l.length) := by
  obtain ⟨a0, n0, c0, rfl⟩ := okWide_slice Try.underlying22 hv
  obtain ⟨fuel, hf⟩ := h
  simp only [Value.cells] at hf
  rcases open_slice Try.underlying22 hf with ⟨e, hx⟩ | ⟨a, len, cap, m, n, D, Pl, e, hb, hl, hm, hmm, hx, hi⟩
  · simp only [List.cons.injEq, and_true, Value.slice.injEq] at e
    obtain ⟨rfl, rfl, rfl⟩ := e
    obtain ⟨rfl, _⟩ := Prod.mk.inj hx
    exact ⟨none, 0, [], rfl, by simp, by unfold maxLen; omega, Times.nil_, .inl ⟨rfl, rfl, rfl⟩⟩
  · simp only [List.cons.injEq, and_true, Value.slice.injEq] at e
    obtain ⟨rfl, rfl, rfl⟩ := e
    obtain ⟨rfl, rfl⟩ := Prod.mk.inj hx
    have hlm : n0 ≤ m := by rw [hmm]; split <;> omega
    have hc3 : Try.prog.cellsOf 26 = 3 := by kernel_rfl
    rw [hc3] at hi
    have hT : ∀ i, ∃ t : Tm, i < n0 → (w.cell? ((a.add (i * 3)).add 0) = some (.int .u64 (t.e : Int)) ∧ w.cell? ((a.add (i * 3)).add 1) = some (.int .u64 (t.a : Int)) ∧ w.cell? ((a.add (i * 3)).add 2) = some (.int .u64 (t.b : Int))) := by
      intro i
      by_cases hil : i < n0
      · obtain ⟨cs', hcs, htr⟩ := hi i (by omega)
        obtain ⟨t, rfl⟩ := trod_time htr
        obtain ⟨_, _, hat⟩ := World.cells?_some hcs
        exact ⟨t, fun _ => ⟨hat 0 (by omega), hat 1 (by omega), hat 2 (by omega)⟩⟩
      · exact ⟨default, fun h => absurd h hil⟩
    obtain ⟨f, hf'⟩ : ∃ f : Nat → Tm, ∀ i, i < n0 → (w.cell? ((a.add (i * 3)).add 0) = some (.int .u64 ((f i).e : Int)) ∧ w.cell? ((a.add (i * 3)).add 1) = some (.int .u64 ((f i).a : Int)) ∧ w.cell? ((a.add (i * 3)).add 2) = some (.int .u64 ((f i).b : Int))) :=
      ⟨fun i => Classical.choose (hT i), fun i => Classical.choose_spec (hT i)⟩
    clear hT
    have hlen : ((List.range n0).map f).length = n0 := by simp
    refine ⟨some a, c0, (List.range n0).map f, by rw [hlen], by rw [hlen]; exact hl, hm, fun hpos => ?_, .inr ⟨_, _, rfl, by simp⟩⟩
    rw [hlen] at hpos
    have haa : ∀ k, (a.add k).add 0 = a.add k := fun k => by unfold Addr.add; simp
    have hspot : a.spot = none := by
      have hz : ((a.add (0 * 3)).add 0) = a := by rw [haa]; unfold Addr.add; simp
      obtain ⟨v0, h0⟩ : ∃ v0, w.cell? a = some v0 := ⟨_, by have := (hf' 0 hpos).1; rwa [hz] at this⟩
      cases hs : a.spot with
      | none => rfl
      | some s =>
        unfold World.cell? at h0
        rw [hs] at h0
        split at h0 <;> simp at h0
    obtain ⟨b, o, sp⟩ := a
    simp only at hspot
    subst hspot
    have hblk : b < w.heap.size := by
      have hz : (((⟨b, o, none⟩ : Addr).add (0 * 3)).add 0).block = b := by unfold Addr.add; simp
      have := World.block_lt_of_cell? w _ (hf' 0 hpos).1
      rwa [hz] at this
    have hadd : ∀ k j, ((⟨b, o, none⟩ : Addr).add k).add j = ⟨b, o + k + j, none⟩ := fun k j => by unfold Addr.add; split <;> split <;> simp_all
    refine ⟨b, o, rfl, hblk, fun i t hit => ?_⟩
    have hil : i < n0 := by have := (List.getElem?_eq_some_iff.1 hit).1; omega
    have hti : f i = t := by simpa [hil] using hit
    obtain ⟨q0, q1, q2⟩ := hf' i hil
    rw [hadd] at q0 q1 q2
    rw [← hti]
    exact ⟨q0, q1, q2⟩
end
end Go.Proofs.Ytfhlgdidobecaaa
namespace Go.Proofs.Ytfhlgdidobecaaa
open Go Go.RowKit

theorem tm_box (w : World) (t : Tm) : ∃ V, V = w.alloc (.cells #[.int .u64 (t.e : Int), .int .u64 (t.a : Int), .int .u64 (t.b : Int)] 26) ∧ Below w.heap.size w V ∧ V.heap.size = w.heap.size + 1 ∧ Own V w.heap.size 26 t.cells :=
  ⟨_, rfl, (Below.refl _ _).alloc (Nat.le_refl _) _, by simp, Own.made w 26 t.cells⟩
theorem own3 {w : World} {P : Nat} {t : TypeId} {a0 a1 a2 : Value} (h : Own w P t [a0, a1, a2]) : w.cell? ⟨P, 0, none⟩ = some a0 ∧ w.cell? ⟨P, 1, none⟩ = some a1 ∧ w.cell? ⟨P, 2, none⟩ = some a2 := ⟨h.at_ 0, h.at_ 1, h.at_ 2⟩
end Go.Proofs.Ytfhlgdidobecaaa
namespace Go.Proofs.Ytfhlgdidobecaaa
open Go Go.RowKit
attribute [local go_sem ↓] Go.wp_at_zero Go.wp_at_succ


set_option maxRecDepth 100000 in
set_option maxHeartbeats 400000 in
theorem greater_any (x y : Nat) (w : World) :
    Calls Try.prog 64 #[.int .u64 (x : Int), .int .u64 (y : Int)] w fun e w' => e = .returned (.int .u64 ((max x y : Nat) : Int)) ∧ w = w' := by
  go_enter Try.func64, Try.ntmps64
  go_wp2_with fail
  all_goals
    go_ret
    exact ⟨ret_u64 (by omega), rfl⟩

set_option maxRecDepth 100000 in
set_option maxHeartbeats 800000 in
theorem each_greater (a b c d : Nat) (w : World) :
    Calls Try.prog 63 #[.agg #[.int .u64 (a : Int), .int .u64 (b : Int)], .agg #[.int .u64 (c : Int), .int .u64 (d : Int)], .func (.func 64) #[] #[]] w
      fun e w' => e = .returned (.agg #[.int .u64 ((max a c : Nat) : Int), .int .u64 ((max b d : Nat) : Int)]) ∧ Below w.heap.size w w' := by
  go_enter Try.func63, Try.ntmps63
  go_wp2_with fail
  go_loopw [8] (fun i wr => ∃ k : Nat, i = .int .i64 (k : Int) ∧ k ≤ 2 ∧ Below w.heap.size w wr ∧
      Own wr w.heap.size 24 [.int .u64 ((if 0 < k then max a c else a : Nat) : Int), .int .u64 ((if 1 < k then max b d else b : Nat) : Int)] ∧
      Own wr (w.heap.size + 1) 24 [.int .u64 (c : Int), .int .u64 (d : Int)] ∧ Own wr (w.heap.size + 1 + 1) 24 [.int .u64 0, .int .u64 0])
    (fun i _ => 2 - (intOf i).toNat)
  case atStart =>
    exact ⟨0, rfl, by omega, (((Below.refl _ _).alloc (Nat.le_refl _) _).alloc (by simp) _).alloc (by simp; omega) _, ((Own.made w _ _).more _).more _, by have := (Own.made (w.alloc (.cells #[.int .u64 (a : Int), .int .u64 (b : Int)] 24)) 24 [.int .u64 (c : Int), .int .u64 (d : Int)]).more (.cells #[.int .u64 0, .int .u64 0] 24); simpa using this, by
      have := Own.made ((w.alloc (.cells #[.int .u64 (a : Int), .int .u64 (b : Int)] 24)).alloc (.cells #[.int .u64 (c : Int), .int .u64 (d : Int)] 24)) 24 [.int .u64 0, .int .u64 0]; simpa using this⟩
  case round =>
    obtain ⟨k, rfl, hk, hb, h1, h2, h3⟩ := hrel
    have hs := h3.inside
    have Hs := Lib.hid (And.intro hb (And.intro h1 (And.intro h2 h3)))
    rcases (by omega : k = 0 ∨ k = 1 ∨ k = 2) with rfl | rfl | rfl
    · have c1 : wr.cell? ⟨w.heap.size, 0, none⟩ = some (.int .u64 (a : Int)) := h1.at_ 0
      have c2 : wr.cell? ⟨w.heap.size + 1, 0, none⟩ = some (.int .u64 (c : Int)) := h2.at_ 0
      have c3 : wr.frozen? ⟨w.heap.size, 0, none⟩ = false := h1.open_ 0
      clear h1 h2 h3 hb hk
      go_wp2_with fail
      go_region_with (go_at_call 64; refine (greater_any _ _ _).mono ?_; rintro e w' ⟨rfl, rfl⟩)
      all_goals
        go_wp2_with fail
        obtain ⟨hb, h1, h2, h3⟩ := Hs.out
        go_roundw
        case rel => exact ⟨1, by go_num, by omega, (hb.setCell (by simp) _).drew, (h1.set_ 0 _).draws 1, (h2.other (by simp) _).draws 1, (h3.other (by simp; omega) _).draws 1⟩
        case measure => simp [intOf]
    · have c1 : wr.cell? ⟨w.heap.size, 1, none⟩ = some (.int .u64 (b : Int)) := h1.at_ 1
      have c2 : wr.cell? ⟨w.heap.size + 1, 1, none⟩ = some (.int .u64 (d : Int)) := h2.at_ 1
      have c3 : wr.frozen? ⟨w.heap.size, 1, none⟩ = false := h1.open_ 1
      clear h1 h2 h3 hb hk
      go_wp2_with fail
      go_region_with (go_at_call 64; refine (greater_any _ _ _).mono ?_; rintro e w' ⟨rfl, rfl⟩)
      all_goals
        go_wp2_with fail
        obtain ⟨hb, h1, h2, h3⟩ := Hs.out
        go_roundw
        case rel => exact ⟨2, by go_num, by omega, (hb.setCell (by simp) _).drew, (h1.set_ 1 _).draws 1, (h2.other (by simp) _).draws 1, (h3.other (by simp; omega) _).draws 1⟩
        case measure => simp [intOf]
    · have c1 : wr.cell? ⟨w.heap.size, 0, none⟩ = some (.int .u64 ((max a c : Nat) : Int)) := h1.at_ 0
      have c2 : wr.cell? ⟨w.heap.size, 1, none⟩ = some (.int .u64 ((max b d : Nat) : Int)) := h1.at_ 1
      have c3 : wr.frozen? ⟨w.heap.size + 1 + 1, 0, none⟩ = false := h3.open_ 0
      have c4 : wr.frozen? ⟨w.heap.size + 1 + 1, 1, none⟩ = false := h3.open_ 1
      have c5 : wr.cell? ⟨w.heap.size + 1 + 1, 0, none⟩ = some (.int .u64 0) := h3.at_ 0
      have c6 : wr.cell? ⟨w.heap.size + 1 + 1, 1, none⟩ = some (.int .u64 0) := h3.at_ 1
      clear h1 h2 h3 hb hk
      go_wp2_with fail
      have h3 := Hs.out.2.2.2
      have d1 : (wr.setCell ⟨w.heap.size + 1 + 1, 0, none⟩ (.int .u64 ((max a c : Nat) : Int))).cell? ⟨w.heap.size + 1 + 1, 0, none⟩ = some (.int .u64 ((max a c : Nat) : Int)) := (h3.set_ 0 _).at_ 0
      have d2 : ((wr.setCell ⟨w.heap.size + 1 + 1, 0, none⟩ (.int .u64 ((max a c : Nat) : Int))).setCell ⟨w.heap.size + 1 + 1, 1, none⟩ (.int .u64 ((max b d : Nat) : Int))).cell? ⟨w.heap.size + 1 + 1, 1, none⟩ = some (.int .u64 ((max b d : Nat) : Int)) := ((h3.set_ 0 _).set_ 1 _).at_ 1
      refine bodyPost_ret (v := .agg #[.int .u64 ((max a c : Nat) : Int), .int .u64 ((max b d : Nat) : Int)]) (by simp [results, Try.results63, go_sem, d1, d2]) rfl ⟨rfl, ((Hs.out.1).setCell (by simp; omega) _).setCell (by simp; omega) _⟩

set_option maxRecDepth 100000 in
set_option maxHeartbeats 400000 in
theorem smaller_any (x y : Nat) (w : World) :
    Calls Try.prog 66 #[.int .u64 (x : Int), .int .u64 (y : Int)] w fun e w' => e = .returned (.int .u64 ((min x y : Nat) : Int)) ∧ w = w' := by
  go_enter Try.func66, Try.ntmps66
  go_wp2_with fail
  all_goals
    go_ret
    exact ⟨ret_u64 (by omega), rfl⟩

set_option maxRecDepth 100000 in
set_option maxHeartbeats 800000 in
theorem each_smaller (a b c d : Nat) (w : World) :
    Calls Try.prog 63 #[.agg #[.int .u64 (a : Int), .int .u64 (b : Int)], .agg #[.int .u64 (c : Int), .int .u64 (d : Int)], .func (.func 66) #[] #[]] w
      fun e w' => e = .returned (.agg #[.int .u64 ((min a c : Nat) : Int), .int .u64 ((min b d : Nat) : Int)]) ∧ Below w.heap.size w w' := by
  go_enter Try.func63, Try.ntmps63
  go_wp2_with fail
  go_loopw [8] (fun i wr => ∃ k : Nat, i = .int .i64 (k : Int) ∧ k ≤ 2 ∧ Below w.heap.size w wr ∧
      Own wr w.heap.size 24 [.int .u64 ((if 0 < k then min a c else a : Nat) : Int), .int .u64 ((if 1 < k then min b d else b : Nat) : Int)] ∧
      Own wr (w.heap.size + 1) 24 [.int .u64 (c : Int), .int .u64 (d : Int)] ∧ Own wr (w.heap.size + 1 + 1) 24 [.int .u64 0, .int .u64 0])
    (fun i _ => 2 - (intOf i).toNat)
  case atStart =>
    exact ⟨0, rfl, by omega, (((Below.refl _ _).alloc (Nat.le_refl _) _).alloc (by simp) _).alloc (by simp; omega) _, ((Own.made w _ _).more _).more _, by have := (Own.made (w.alloc (.cells #[.int .u64 (a : Int), .int .u64 (b : Int)] 24)) 24 [.int .u64 (c : Int), .int .u64 (d : Int)]).more (.cells #[.int .u64 0, .int .u64 0] 24); simpa using this, by
      have := Own.made ((w.alloc (.cells #[.int .u64 (a : Int), .int .u64 (b : Int)] 24)).alloc (.cells #[.int .u64 (c : Int), .int .u64 (d : Int)] 24)) 24 [.int .u64 0, .int .u64 0]; simpa using this⟩
  case round =>
    obtain ⟨k, rfl, hk, hb, h1, h2, h3⟩ := hrel
    have hs := h3.inside
    have Hs := Lib.hid (And.intro hb (And.intro h1 (And.intro h2 h3)))
    rcases (by omega : k = 0 ∨ k = 1 ∨ k = 2) with rfl | rfl | rfl
    · have c1 : wr.cell? ⟨w.heap.size, 0, none⟩ = some (.int .u64 (a : Int)) := h1.at_ 0
      have c2 : wr.cell? ⟨w.heap.size + 1, 0, none⟩ = some (.int .u64 (c : Int)) := h2.at_ 0
      have c3 : wr.frozen? ⟨w.heap.size, 0, none⟩ = false := h1.open_ 0
      clear h1 h2 h3 hb hk
      go_wp2_with fail
      go_region_with (go_at_call 66; refine (smaller_any _ _ _).mono ?_; rintro e w' ⟨rfl, rfl⟩)
      all_goals
        go_wp2_with fail
        obtain ⟨hb, h1, h2, h3⟩ := Hs.out
        go_roundw
        case rel => exact ⟨1, by go_num, by omega, (hb.setCell (by simp) _).drew, (h1.set_ 0 _).draws 1, (h2.other (by simp) _).draws 1, (h3.other (by simp; omega) _).draws 1⟩
        case measure => simp [intOf]
    · have c1 : wr.cell? ⟨w.heap.size, 1, none⟩ = some (.int .u64 (b : Int)) := h1.at_ 1
      have c2 : wr.cell? ⟨w.heap.size + 1, 1, none⟩ = some (.int .u64 (d : Int)) := h2.at_ 1
      have c3 : wr.frozen? ⟨w.heap.size, 1, none⟩ = false := h1.open_ 1
      clear h1 h2 h3 hb hk
      go_wp2_with fail
      go_region_with (go_at_call 66; refine (smaller_any _ _ _).mono ?_; rintro e w' ⟨rfl, rfl⟩)
      all_goals
        go_wp2_with fail
        obtain ⟨hb, h1, h2, h3⟩ := Hs.out
        go_roundw
        case rel => exact ⟨2, by go_num, by omega, (hb.setCell (by simp) _).drew, (h1.set_ 1 _).draws 1, (h2.other (by simp) _).draws 1, (h3.other (by simp; omega) _).draws 1⟩
        case measure => simp [intOf]
    · have c1 : wr.cell? ⟨w.heap.size, 0, none⟩ = some (.int .u64 ((min a c : Nat) : Int)) := h1.at_ 0
      have c2 : wr.cell? ⟨w.heap.size, 1, none⟩ = some (.int .u64 ((min b d : Nat) : Int)) := h1.at_ 1
      have c3 : wr.frozen? ⟨w.heap.size + 1 + 1, 0, none⟩ = false := h3.open_ 0
      have c4 : wr.frozen? ⟨w.heap.size + 1 + 1, 1, none⟩ = false := h3.open_ 1
      have c5 : wr.cell? ⟨w.heap.size + 1 + 1, 0, none⟩ = some (.int .u64 0) := h3.at_ 0
      have c6 : wr.cell? ⟨w.heap.size + 1 + 1, 1, none⟩ = some (.int .u64 0) := h3.at_ 1
      clear h1 h2 h3 hb hk
      go_wp2_with fail
      have h3 := Hs.out.2.2.2
      have d1 : (wr.setCell ⟨w.heap.size + 1 + 1, 0, none⟩ (.int .u64 ((min a c : Nat) : Int))).cell? ⟨w.heap.size + 1 + 1, 0, none⟩ = some (.int .u64 ((min a c : Nat) : Int)) := (h3.set_ 0 _).at_ 0
      have d2 : ((wr.setCell ⟨w.heap.size + 1 + 1, 0, none⟩ (.int .u64 ((min a c : Nat) : Int))).setCell ⟨w.heap.size + 1 + 1, 1, none⟩ (.int .u64 ((min b d : Nat) : Int))).cell? ⟨w.heap.size + 1 + 1, 1, none⟩ = some (.int .u64 ((min b d : Nat) : Int)) := ((h3.set_ 0 _).set_ 1 _).at_ 1
      refine bodyPost_ret (v := .agg #[.int .u64 ((min a c : Nat) : Int), .int .u64 ((min b d : Nat) : Int)]) (by simp [results, Try.results63, go_sem, d1, d2]) rfl ⟨rfl, ((Hs.out.1).setCell (by simp; omega) _).setCell (by simp; omega) _⟩
end Go.Proofs.Ytfhlgdidobecaaa
namespace Go.Proofs.Ytfhlgdidobecaaa
open Go Go.RowKit

theorem fold_take {α : Type} (f : α → α → α) (x s : α) (l : List α) (k : Nat) (h : l[k]? = some s) : (l.take (k + 1)).foldl f x = f ((l.take k).foldl f x) s := by
  rw [List.take_add_one, h, List.foldl_append]; rfl

set_option maxRecDepth 100000 in
set_option maxHeartbeats 1600000 in
theorem bound_sup (b o c : Nat) (x : Tm) (l : List Tm) (w : World) (hx : TmAt w b o x) (hB : b < w.heap.size) (hl : ∀ (i : Nat) (t : Tm), l[i]? = some t → TmAt w b (o + 3 + i * 3) t) (hc : l.length + 1 ≤ c) (hn : c ≤ maxLen) :
    Calls Try.prog 65 #[.slice (some ⟨b, o, none⟩) (l.length + 1) c, .func (.func 64) #[] #[]] w
      fun e w' => e = .returned (l.foldl Tm.sup x).val ∧ Below w.heap.size w w' := by
  unfold maxLen at hn
  have Hl := Lib.hid hl
  clear hl
  obtain ⟨x0, x1, x2⟩ := hx
  have hcall := fun (s t : Tm) (W : World) => Lib.hid (each_greater s.a s.b t.a t.b W)
  have hB' : b < w.heap.size + 1 := by omega
  have hne0 : ¬ b = w.heap.size := by omega
  by_cases hc1 : c = 1
  · have hl0 : l = [] := List.eq_nil_of_length_eq_zero (by omega)
    subst hl0 hc1
    simp only [List.length_nil, Nat.zero_add, List.foldl_nil]
    unfold Tm.val
    go_enter Try.func65, Try.ntmps65
    go_wp2_with fail
    go_rounds 1
    refine bodyPost_ret (v := .agg #[.int .u64 (x.e : Int), .int .u64 (x.a : Int), .int .u64 (x.b : Int)]) (by simp [results, Try.results65, go_sem]) rfl ⟨rfl, ((Below.refl _ _).alloc (Nat.le_refl _) _).alloc (by simp) _⟩
  · have h10 : ((l.length : Int) + 1 == 0) = false := by simp; omega
    go_enter Try.func65, Try.ntmps65
    go_wp2_with fail
    go_loopw [18] (fun i wr => ∃ k : Nat, i = .int .i64 (k : Int) ∧ k ≤ l.length ∧ Below w.heap.size w wr ∧
        Own wr w.heap.size 26 [.int .u64 0, .int .u64 0, .int .u64 0] ∧ Own wr (w.heap.size + 1) 26 ((l.take k).foldl Tm.sup x).cells)
      (fun i _ => l.length - (intOf i).toNat)
    case atStart =>
      exact ⟨0, rfl, by omega, ((Below.refl _ _).alloc (Nat.le_refl _) _).alloc (by simp) _, (Own.made w _ _).more _, by have := Own.made (w.alloc (.cells #[.int .u64 0, .int .u64 0, .int .u64 0] 26)) 26 x.cells; simpa [Tm.cells] using this⟩
    case round =>
      obtain ⟨k, rfl, hk, hb, hr, hf⟩ := hrel
      have hs := hf.inside
      by_cases hlt : k < l.length
      · have hx : l[k]? = some l[k] := List.getElem?_eq_getElem hlt
        obtain ⟨c0, c1, c2⟩ := (Hl.out k _ hx).past hb hB
        have hsn := fold_take Tm.sup x _ l k hx
        generalize l[k] = s at *
        generalize hg : (l.take k).foldl Tm.sup x = g at *
        have f0 := hf.at_ 0
        have f1 := hf.at_ 1
        have f2 := hf.at_ 2
        have g0 := hf.open_ 0
        have g1 := hf.open_ 1
        have g2 := hf.open_ 2
        simp only [Tm.cells, List.getElem?_cons_zero, List.getElem?_cons_succ] at f0 f1 f2
        have HH := Lib.hid (And.intro hb (And.intro hr (And.intro hf (And.intro hsn (And.intro hx hg)))))
        clear hb hr hf hsn hx hg
        go_wp2_with fail
        refine (greater_any _ _ _).mono ?_
        rintro e w1 ⟨rfl, rfl⟩
        go_wp2_with fail
        refine (each_greater _ _ _ _ _).mono ?_
        rintro e w1 ⟨rfl, h1⟩
        have hf1 : Own w1 (w.heap.size + 1) 26 [.int .u64 ((max g.e s.e : Nat) : Int), .int .u64 (g.a : Int), .int .u64 (g.b : Int)] := ((HH.out.2.2.1.set_ 0 _).more _).past h1 (by simp; omega)
        have hr1 : Own w1 w.heap.size 26 [.int .u64 0, .int .u64 0, .int .u64 0] := ((HH.out.2.1.other (p := ⟨w.heap.size + 1, 0, none⟩) (by simp) _).more _).past h1 (by simp; omega)
        have hb1 : Below w.heap.size w w1 := ((HH.out.1.setCell (p := ⟨w.heap.size + 1, 0, none⟩) (by simp) _).alloc (by simp; omega) _).trans (h1.mono (by simp; omega))
        have k1 := hf1.open_ 1
        have k2 := hf1.open_ 2
        have k3 := hf1.at_ 1
        have k4 := hf1.at_ 2
        simp only [List.getElem?_cons_zero, List.getElem?_cons_succ] at k3 k4
        have H1 := Lib.hid (And.intro hf1 (And.intro hr1 hb1))
        clear hf1 hr1 hb1 h1
        go_wp2_with fail
        obtain ⟨hf1, hr1, hb1⟩ := H1.out
        obtain ⟨hb, hr, hf, hsn, hx, hg⟩ := HH.out
        go_roundw
        case rel => exact ⟨k + 1, by go_num, by omega, (hb1.setCell (p := ⟨w.heap.size + 1, 1, none⟩) (by simp) _).setCell (p := ⟨w.heap.size + 1, 2, none⟩) (by simp) _, (hr1.other (p := ⟨w.heap.size + 1, 1, none⟩) (by simp) _).other (p := ⟨w.heap.size + 1, 2, none⟩) (by simp) _, by rw [hsn]; exact (hf1.set_ 1 _).set_ 2 _⟩
        case measure => simp [intOf]; omega
      · have hk2 : k = l.length := by omega
        have f0 := hf.at_ 0
        have f1 := hf.at_ 1
        have f2 := hf.at_ 2
        have g0 := hr.open_ 0
        have g1 := hr.open_ 1
        have g2 := hr.open_ 2
        have e0 := hr.at_ 0
        have e1 := hr.at_ 1
        have e2 := hr.at_ 2
        subst hk2
        rw [List.take_length] at *
        generalize hg : l.foldl Tm.sup x = g at *
        obtain ⟨d0, d1, d2⟩ := hr.stored3 (.int .u64 (g.e : Int)) (.int .u64 (g.a : Int)) (.int .u64 (g.b : Int))
        have H1 := Lib.hid (And.intro hg (And.intro hb (And.intro d0 (And.intro d1 d2))))
        simp only [Tm.cells, List.getElem?_cons_zero, List.getElem?_cons_succ] at f0 f1 f2 e0 e1 e2
        clear hr hf hb d0 d1 d2 hg
        go_wp2_with fail
        obtain ⟨hg, hb, d0, d1, d2⟩ := H1.out
        refine bodyPost_ret (v := g.val) (by simp [results, Try.results65, go_sem, d0, d1, d2, Tm.val]) rfl ⟨congrArg (fun g : Tm => Ending.returned g.val) hg.symm, below_set3 hb (Nat.le_refl _) _ _ _⟩

set_option maxRecDepth 100000 in
set_option maxHeartbeats 1600000 in
theorem bound_inf (b o c : Nat) (x : Tm) (l : List Tm) (w : World) (hx : TmAt w b o x) (hB : b < w.heap.size) (hl : ∀ (i : Nat) (t : Tm), l[i]? = some t → TmAt w b (o + 3 + i * 3) t) (hc : l.length + 1 ≤ c) (hn : c ≤ maxLen) :
    Calls Try.prog 65 #[.slice (some ⟨b, o, none⟩) (l.length + 1) c, .func (.func 66) #[] #[]] w
      fun e w' => e = .returned (l.foldl Tm.inf x).val ∧ Below w.heap.size w w' := by
  unfold maxLen at hn
  have Hl := Lib.hid hl
  clear hl
  obtain ⟨x0, x1, x2⟩ := hx
  have hcall := fun (s t : Tm) (W : World) => Lib.hid (each_smaller s.a s.b t.a t.b W)
  have hB' : b < w.heap.size + 1 := by omega
  have hne0 : ¬ b = w.heap.size := by omega
  by_cases hc1 : c = 1
  · have hl0 : l = [] := List.eq_nil_of_length_eq_zero (by omega)
    subst hl0 hc1
    simp only [List.length_nil, Nat.zero_add, List.foldl_nil]
    unfold Tm.val
    go_enter Try.func65, Try.ntmps65
    go_wp2_with fail
    go_rounds 1
    refine bodyPost_ret (v := .agg #[.int .u64 (x.e : Int), .int .u64 (x.a : Int), .int .u64 (x.b : Int)]) (by simp [results, Try.results65, go_sem]) rfl ⟨rfl, ((Below.refl _ _).alloc (Nat.le_refl _) _).alloc (by simp) _⟩
  · have h10 : ((l.length : Int) + 1 == 0) = false := by simp; omega
    go_enter Try.func65, Try.ntmps65
    go_wp2_with fail
    go_loopw [18] (fun i wr => ∃ k : Nat, i = .int .i64 (k : Int) ∧ k ≤ l.length ∧ Below w.heap.size w wr ∧
        Own wr w.heap.size 26 [.int .u64 0, .int .u64 0, .int .u64 0] ∧ Own wr (w.heap.size + 1) 26 ((l.take k).foldl Tm.inf x).cells)
      (fun i _ => l.length - (intOf i).toNat)
    case atStart =>
      exact ⟨0, rfl, by omega, ((Below.refl _ _).alloc (Nat.le_refl _) _).alloc (by simp) _, (Own.made w _ _).more _, by have := Own.made (w.alloc (.cells #[.int .u64 0, .int .u64 0, .int .u64 0] 26)) 26 x.cells; simpa [Tm.cells] using this⟩
    case round =>
      obtain ⟨k, rfl, hk, hb, hr, hf⟩ := hrel
      have hs := hf.inside
      by_cases hlt : k < l.length
      · have hx : l[k]? = some l[k] := List.getElem?_eq_getElem hlt
        obtain ⟨c0, c1, c2⟩ := (Hl.out k _ hx).past hb hB
        have hsn := fold_take Tm.inf x _ l k hx
        generalize l[k] = s at *
        generalize hg : (l.take k).foldl Tm.inf x = g at *
        have f0 := hf.at_ 0
        have f1 := hf.at_ 1
        have f2 := hf.at_ 2
        have g0 := hf.open_ 0
        have g1 := hf.open_ 1
        have g2 := hf.open_ 2
        simp only [Tm.cells, List.getElem?_cons_zero, List.getElem?_cons_succ] at f0 f1 f2
        have HH := Lib.hid (And.intro hb (And.intro hr (And.intro hf (And.intro hsn (And.intro hx hg)))))
        clear hb hr hf hsn hx hg
        go_wp2_with fail
        refine (smaller_any _ _ _).mono ?_
        rintro e w1 ⟨rfl, rfl⟩
        go_wp2_with fail
        refine (each_smaller _ _ _ _ _).mono ?_
        rintro e w1 ⟨rfl, h1⟩
        have hf1 : Own w1 (w.heap.size + 1) 26 [.int .u64 ((min g.e s.e : Nat) : Int), .int .u64 (g.a : Int), .int .u64 (g.b : Int)] := ((HH.out.2.2.1.set_ 0 _).more _).past h1 (by simp; omega)
        have hr1 : Own w1 w.heap.size 26 [.int .u64 0, .int .u64 0, .int .u64 0] := ((HH.out.2.1.other (p := ⟨w.heap.size + 1, 0, none⟩) (by simp) _).more _).past h1 (by simp; omega)
        have hb1 : Below w.heap.size w w1 := ((HH.out.1.setCell (p := ⟨w.heap.size + 1, 0, none⟩) (by simp) _).alloc (by simp; omega) _).trans (h1.mono (by simp; omega))
        have k1 := hf1.open_ 1
        have k2 := hf1.open_ 2
        have k3 := hf1.at_ 1
        have k4 := hf1.at_ 2
        simp only [List.getElem?_cons_zero, List.getElem?_cons_succ] at k3 k4
        have H1 := Lib.hid (And.intro hf1 (And.intro hr1 hb1))
        clear hf1 hr1 hb1 h1
        go_wp2_with fail
        obtain ⟨hf1, hr1, hb1⟩ := H1.out
        obtain ⟨hb, hr, hf, hsn, hx, hg⟩ := HH.out
        go_roundw
        case rel => exact ⟨k + 1, by go_num, by omega, (hb1.setCell (p := ⟨w.heap.size + 1, 1, none⟩) (by simp) _).setCell (p := ⟨w.heap.size + 1, 2, none⟩) (by simp) _, (hr1.other (p := ⟨w.heap.size + 1, 1, none⟩) (by simp) _).other (p := ⟨w.heap.size + 1, 2, none⟩) (by simp) _, by rw [hsn]; exact (hf1.set_ 1 _).set_ 2 _⟩
        case measure => simp [intOf]; omega
      · have hk2 : k = l.length := by omega
        have f0 := hf.at_ 0
        have f1 := hf.at_ 1
        have f2 := hf.at_ 2
        have g0 := hr.open_ 0
        have g1 := hr.open_ 1
        have g2 := hr.open_ 2
        have e0 := hr.at_ 0
        have e1 := hr.at_ 1
        have e2 := hr.at_ 2
        subst hk2
        rw [List.take_length] at *
        generalize hg : l.foldl Tm.inf x = g at *
        obtain ⟨d0, d1, d2⟩ := hr.stored3 (.int .u64 (g.e : Int)) (.int .u64 (g.a : Int)) (.int .u64 (g.b : Int))
        have H1 := Lib.hid (And.intro hg (And.intro hb (And.intro d0 (And.intro d1 d2))))
        simp only [Tm.cells, List.getElem?_cons_zero, List.getElem?_cons_succ] at f0 f1 f2 e0 e1 e2
        clear hr hf hb d0 d1 d2 hg
        go_wp2_with fail
        obtain ⟨hg, hb, d0, d1, d2⟩ := H1.out
        refine bodyPost_ret (v := g.val) (by simp [results, Try.results65, go_sem, d0, d1, d2, Tm.val]) rfl ⟨congrArg (fun g : Tm => Ending.returned g.val) hg.symm, below_set3 hb (Nat.le_refl _) _ _ _⟩
/-- the least upper, the greatest lower bound of a list -/
def lub : List Tm → Tm | [] => ⟨0, 0, 0⟩ | x :: l => l.foldl Tm.sup x
def glb : List Tm → Tm | [] => ⟨0, 0, 0⟩ | x :: l => l.foldl Tm.inf x

set_option maxRecDepth 100000 in
set_option maxHeartbeats 400000 in
theorem bound_nil_lub (A : Option Addr) (c : Nat) (w : World) :
    Calls Try.prog 65 #[.slice A 0 c, .func (.func 64) #[] #[]] w fun e w' => e = .returned (Tm.mk 0 0 0).val ∧ Below w.heap.size w w' := by
  unfold Tm.val
  go_enter Try.func65, Try.ntmps65
  go_wp2_with fail
  refine bodyPost_ret (v := .agg #[.int .u64 0, .int .u64 0, .int .u64 0]) (by simp [results, Try.results65, go_sem]) rfl ⟨rfl, (Below.refl _ _).alloc (Nat.le_refl _) _⟩
theorem bound_any_lub (A : Option Addr) (c : Nat) (l : List Tm) (w : World) (hl : Times w w.heap.size A l) (hc : l.length ≤ c) (hn : c ≤ maxLen) :
    Calls Try.prog 65 #[.slice A l.length c, .func (.func 64) #[] #[]] w fun e w' => e = .returned (lub l).val ∧ Below w.heap.size w w' := by
  cases l with
  | nil => exact bound_nil_lub A c w
  | cons x l =>
    obtain ⟨b, o, rfl, hB, ht⟩ := hl (by simp)
    exact bound_sup b o c x l w (by simpa using ht 0 x rfl) hB (fun i t h => by have := ht (i + 1) t (by simpa using h); rwa [Nat.add_mul, Nat.one_mul, ← Nat.add_assoc, Nat.add_right_comm] at this) (by simpa using hc) hn
set_option maxRecDepth 100000 in
set_option maxHeartbeats 400000 in
theorem lub_any (A : Option Addr) (c : Nat) (l : List Tm) (w : World) (hl : Times w w.heap.size A l) (hc : l.length ≤ c) (hn : c ≤ maxLen) :
    Calls Try.prog 38 #[.slice A l.length c] w fun e w' => e = .returned (lub l).val ∧ Below w.heap.size w w' := by
  have hcall := Lib.hid (fun W h => bound_any_lub A c l W h hc hn)
  have Hl := Lib.hid hl
  clear hl
  generalize hr : lub l = r at hcall
  unfold Tm.val at hcall ⊢
  go_enter Try.func38, Try.ntmps38
  go_wp2_with fail
  refine (hcall.out _ ?_).mono ?_
  · exact (Hl.out.past ((Below.refl _ _).alloc (Nat.le_refl _) _) (Nat.le_refl _)).wide (by simp)
  rintro e w1 ⟨rfl, h1⟩
  have hr1 : Own w1 w.heap.size 26 [.int .u64 0, .int .u64 0, .int .u64 0] := (Own.made w _ _).past h1 (by simp)
  have g0 := hr1.open_ 0
  have g1 := hr1.open_ 1
  have g2 := hr1.open_ 2
  have e0 := hr1.at_ 0
  have e1 := hr1.at_ 1
  have e2 := hr1.at_ 2
  obtain ⟨d0, d1, d2⟩ := hr1.stored3 (.int .u64 (r.e : Int)) (.int .u64 (r.a : Int)) (.int .u64 (r.b : Int))
  simp only [List.getElem?_cons_zero, List.getElem?_cons_succ] at e0 e1 e2
  have H1 := Lib.hid (And.intro hr (And.intro h1 (And.intro d0 (And.intro d1 d2))))
  clear hr1 h1 d0 d1 d2 hr hcall
  go_wp2_with fail
  obtain ⟨hr, h1, d0, d1, d2⟩ := H1.out
  refine bodyPost_ret (v := r.val) (by simp [results, Try.results38, go_sem, d0, d1, d2, Tm.val]) rfl ⟨rfl, below_set3 (((Below.refl _ _).alloc (Nat.le_refl _) _).trans (h1.mono (by simp))) (Nat.le_refl _) _ _ _⟩

set_option maxRecDepth 100000 in
set_option maxHeartbeats 400000 in
theorem bound_nil_glb (A : Option Addr) (c : Nat) (w : World) :
    Calls Try.prog 65 #[.slice A 0 c, .func (.func 66) #[] #[]] w fun e w' => e = .returned (Tm.mk 0 0 0).val ∧ Below w.heap.size w w' := by
  unfold Tm.val
  go_enter Try.func65, Try.ntmps65
  go_wp2_with fail
  refine bodyPost_ret (v := .agg #[.int .u64 0, .int .u64 0, .int .u64 0]) (by simp [results, Try.results65, go_sem]) rfl ⟨rfl, (Below.refl _ _).alloc (Nat.le_refl _) _⟩
theorem bound_any_glb (A : Option Addr) (c : Nat) (l : List Tm) (w : World) (hl : Times w w.heap.size A l) (hc : l.length ≤ c) (hn : c ≤ maxLen) :
    Calls Try.prog 65 #[.slice A l.length c, .func (.func 66) #[] #[]] w fun e w' => e = .returned (glb l).val ∧ Below w.heap.size w w' := by
  cases l with
  | nil => exact bound_nil_glb A c w
  | cons x l =>
    obtain ⟨b, o, rfl, hB, ht⟩ := hl (by simp)
    exact bound_inf b o c x l w (by simpa using ht 0 x rfl) hB (fun i t h => by have := ht (i + 1) t (by simpa using h); rwa [Nat.add_mul, Nat.one_mul, ← Nat.add_assoc, Nat.add_right_comm] at this) (by simpa using hc) hn
set_option maxRecDepth 100000 in
set_option maxHeartbeats 400000 in
theorem glb_any (A : Option Addr) (c : Nat) (l : List Tm) (w : World) (hl : Times w w.heap.size A l) (hc : l.length ≤ c) (hn : c ≤ maxLen) :
    Calls Try.prog 39 #[.slice A l.length c] w fun e w' => e = .returned (glb l).val ∧ Below w.heap.size w w' := by
  have hcall := Lib.hid (fun W h => bound_any_glb A c l W h hc hn)
  have Hl := Lib.hid hl
  clear hl
  generalize hr : glb l = r at hcall
  unfold Tm.val at hcall ⊢
  go_enter Try.func39, Try.ntmps39
  go_wp2_with fail
  refine (hcall.out _ ?_).mono ?_
  · exact (Hl.out.past ((Below.refl _ _).alloc (Nat.le_refl _) _) (Nat.le_refl _)).wide (by simp)
  rintro e w1 ⟨rfl, h1⟩
  have hr1 : Own w1 w.heap.size 26 [.int .u64 0, .int .u64 0, .int .u64 0] := (Own.made w _ _).past h1 (by simp)
  have g0 := hr1.open_ 0
  have g1 := hr1.open_ 1
  have g2 := hr1.open_ 2
  have e0 := hr1.at_ 0
  have e1 := hr1.at_ 1
  have e2 := hr1.at_ 2
  obtain ⟨d0, d1, d2⟩ := hr1.stored3 (.int .u64 (r.e : Int)) (.int .u64 (r.a : Int)) (.int .u64 (r.b : Int))
  simp only [List.getElem?_cons_zero, List.getElem?_cons_succ] at e0 e1 e2
  have H1 := Lib.hid (And.intro hr (And.intro h1 (And.intro d0 (And.intro d1 d2))))
  clear hr1 h1 d0 d1 d2 hr hcall
  go_wp2_with fail
  obtain ⟨hr, h1, d0, d1, d2⟩ := H1.out
  refine bodyPost_ret (v := r.val) (by simp [results, Try.results39, go_sem, d0, d1, d2, Tm.val]) rfl ⟨rfl, below_set3 (((Below.refl _ _).alloc (Nat.le_refl _) _).trans (h1.mono (by simp))) (Nat.le_refl _) _ _ _⟩
end Go.Proofs.Ytfhlgdidobecaaa
namespace Go.Proofs.Ytfhlgdidobecaaa
open Go Go.RowKit

theorem lub_zero (l : List Tm) : l.foldl Tm.sup ⟨0, 0, 0⟩ = lub l := by
  cases l with
  | nil => rfl
  | cons x l => simp [lub, Tm.sup]
set_option maxRecDepth 100000 in
set_option maxHeartbeats 3200000 in
theorem refLub_any (A : Option Addr) (c : Nat) (l : List Tm) (w : World) (hl : Times w w.heap.size A l) (hn : l.length ≤ maxLen) :
    Calls Try.prog 40 #[.slice A l.length c] w fun e w' => e = .returned (lub l).val ∧ Below w.heap.size w w' := by
  rw [← lub_zero]
  unfold maxLen at hn
  have Hl := Lib.hid hl
  clear hl
  have i0 : ∀ (b c : Nat) w, (Instr.index 24 (.agg #[.int .u64 (b : Int), .int .u64 (c : Int)]) (.int .i64 0)).run Try.prog w = .ok (.int .u64 (b : Int)) w := fun _ _ _ => by kernel_rfl
  have i1 : ∀ (b c : Nat) w, (Instr.index 24 (.agg #[.int .u64 (b : Int), .int .u64 (c : Int)]) (.int .i64 1)).run Try.prog w = .ok (.int .u64 (c : Int)) w := fun _ _ _ => by kernel_rfl
  go_enter Try.func40, Try.ntmps40
  go_wp2_with fail
  go_loopw [11] (fun i wr => ∃ k : Nat, i = .int .i64 (k : Int) ∧ k ≤ l.length ∧ Below w.heap.size w wr ∧
      Own wr w.heap.size 26 [.int .u64 0, .int .u64 0, .int .u64 0] ∧ Own wr (w.heap.size + 1) 26 ((l.take k).foldl Tm.sup ⟨0, 0, 0⟩).cells)
    (fun i _ => l.length - (intOf i).toNat)
  case atStart =>
    exact ⟨0, rfl, by omega, ((Below.refl _ _).alloc (Nat.le_refl _) _).alloc (by simp) _, (Own.made w _ _).more _, by have := Own.made (w.alloc (.cells #[.int .u64 0, .int .u64 0, .int .u64 0] 26)) 26 [.int .u64 0, .int .u64 0, .int .u64 0]; simpa [Tm.cells] using this⟩
  case round =>
    obtain ⟨k, rfl, hk, hb, hr, hf⟩ := hrel
    have hs := hf.inside
    by_cases hlt : k < l.length
    · have hx : l[k]? = some l[k] := List.getElem?_eq_getElem hlt
      obtain ⟨b, o, rfl, hB, hl⟩ := Hl.out (by omega)
      obtain ⟨c0, c1, c2⟩ := (hl k _ hx).past hb hB
      have hsn := fold_take Tm.sup ⟨0, 0, 0⟩ _ l k hx
      generalize l[k] = s at *
      generalize hg : (l.take k).foldl Tm.sup ⟨0, 0, 0⟩ = g at *
      have f0 := hf.at_ 0
      have f1 := hf.at_ 1
      have f2 := hf.at_ 2
      have g0 := hf.open_ 0
      have g1 := hf.open_ 1
      have g2 := hf.open_ 2
      simp only [Tm.cells, List.getElem?_cons_zero, List.getElem?_cons_succ] at f0 f1 f2
      have HH := Lib.hid (And.intro hb (And.intro hr (And.intro hf (And.intro hsn (And.intro hx hg)))))
      have hB2 : b < wr.heap.size := by omega
      clear hb hr hf hsn hx hg hl
      go_wp2_with fail
      all_goals (go_rounds 3)
      all_goals
        obtain ⟨hb, hr, hf, hsn, hx, hg⟩ := HH.out
        go_roundw
        case rel =>
          refine ⟨k + 1, by go_num, by omega, ?_, ?_, ?_⟩
          · refine Below.alloc ?_ (by first | omega | (simp; omega)) _
            first | with_reducible exact hb | with_reducible exact hb.setCell (by simp) _ | with_reducible exact (hb.setCell (by simp) _).setCell (by simp) _ | with_reducible exact ((hb.setCell (by simp) _).setCell (by simp) _).setCell (by simp) _
          · refine Own.more ?_ _
            first | with_reducible exact hr | with_reducible exact hr.other (by simp) _ | with_reducible exact (hr.other (by simp) _).other (by simp) _ | with_reducible exact ((hr.other (by simp) _).other (by simp) _).other (by simp) _
          · rw [hsn]
            refine Own.more ?_ _
            apply own_of
            · first | with_reducible exact hf | with_reducible exact hf.set_ _ _ | with_reducible exact (hf.set_ _ _).set_ _ _ | with_reducible exact ((hf.set_ _ _).set_ _ _).set_ _ _
            · simp [Tm.cells, Tm.sup, List.set]; omega
        case measure => simp [intOf]; omega
    · have hk2 : k = l.length := by omega
      have f0 := hf.at_ 0
      have f1 := hf.at_ 1
      have f2 := hf.at_ 2
      have g0 := hr.open_ 0
      have g1 := hr.open_ 1
      have g2 := hr.open_ 2
      have e0 := hr.at_ 0
      have e1 := hr.at_ 1
      have e2 := hr.at_ 2
      subst hk2
      rw [List.take_length] at *
      generalize hg : l.foldl Tm.sup ⟨0, 0, 0⟩ = g at *
      obtain ⟨d0, d1, d2⟩ := hr.stored3 (.int .u64 (g.e : Int)) (.int .u64 (g.a : Int)) (.int .u64 (g.b : Int))
      have H1 := Lib.hid (And.intro hg (And.intro hb (And.intro d0 (And.intro d1 d2))))
      simp only [Tm.cells, List.getElem?_cons_zero, List.getElem?_cons_succ] at f0 f1 f2 e0 e1 e2
      clear hr hf hb d0 d1 d2 hg
      go_wp2_with fail
      obtain ⟨hg, hb, d0, d1, d2⟩ := H1.out
      refine bodyPost_ret (v := g.val) (by simp [results, Try.results40, go_sem, d0, d1, d2, Tm.val]) rfl ⟨congrArg (fun g : Tm => Ending.returned g.val) hg.symm, below_set3 hb (Nat.le_refl _) _ _ _⟩

end Go.Proofs.Ytfhlgdidobecaaa
namespace Go.Proofs.Ytfhlgdidobecaaa
open Go Go.RowKit

theorem inf_self (x : Tm) : x.inf x = x := by simp [Tm.inf]
theorem glb_all (x : Tm) (l : List Tm) : (x :: l).foldl Tm.inf x = glb (x :: l) := by
  simp [glb, inf_self]

set_option maxRecDepth 100000 in
set_option maxHeartbeats 3200000 in
theorem refGlb_from (b o c : Nat) (x : Tm) (l : List Tm) (w : World) (hx0 : TmAt w b o x) (hB : b < w.heap.size) (hpos : 0 < l.length) (hl : ∀ (i : Nat) (t : Tm), l[i]? = some t → TmAt w b (o + i * 3) t) (hn : l.length ≤ maxLen) :
    Calls Try.prog 41 #[.slice (some ⟨b, o, none⟩) l.length c] w fun e w' => e = .returned (l.foldl Tm.inf x).val ∧ Below w.heap.size w w' := by
  have h00 : ((l.length : Int) == 0) = false := by simp; intro h; subst h; simp at hpos
  obtain ⟨x0, x1, x2⟩ := hx0
  have hz : (0 : Int) < (l.length : Int) := by omega
  unfold maxLen at hn
  have Hl := Lib.hid hl
  clear hl
  have i0 : ∀ (b c : Nat) w, (Instr.index 24 (.agg #[.int .u64 (b : Int), .int .u64 (c : Int)]) (.int .i64 0)).run Try.prog w = .ok (.int .u64 (b : Int)) w := fun _ _ _ => by kernel_rfl
  have i1 : ∀ (b c : Nat) w, (Instr.index 24 (.agg #[.int .u64 (b : Int), .int .u64 (c : Int)]) (.int .i64 1)).run Try.prog w = .ok (.int .u64 (c : Int)) w := fun _ _ _ => by kernel_rfl
  go_enter Try.func41, Try.ntmps41
  go_wp2_with fail
  go_loopw [17] (fun i wr => ∃ k : Nat, i = .int .i64 (k : Int) ∧ k ≤ l.length ∧ Below w.heap.size w wr ∧
      Own wr w.heap.size 26 [.int .u64 0, .int .u64 0, .int .u64 0] ∧ Own wr (w.heap.size + 1) 26 ((l.take k).foldl Tm.inf x).cells)
    (fun i _ => l.length - (intOf i).toNat)
  case atStart =>
    exact ⟨0, rfl, by omega, ((Below.refl _ _).alloc (Nat.le_refl _) _).alloc (by simp) _, (Own.made w _ _).more _, by have := Own.made (w.alloc (.cells #[.int .u64 0, .int .u64 0, .int .u64 0] 26)) 26 x.cells; simpa [Tm.cells] using this⟩
  case round =>
    obtain ⟨k, rfl, hk, hb, hr, hf⟩ := hrel
    have hs := hf.inside
    by_cases hlt : k < l.length
    · have hx : l[k]? = some l[k] := List.getElem?_eq_getElem hlt
      obtain ⟨c0, c1, c2⟩ := (Hl.out k _ hx).past hb hB
      have hsn := fold_take Tm.inf x _ l k hx
      generalize l[k] = s at *
      generalize hg : (l.take k).foldl Tm.inf x = g at *
      have f0 := hf.at_ 0
      have f1 := hf.at_ 1
      have f2 := hf.at_ 2
      have g0 := hf.open_ 0
      have g1 := hf.open_ 1
      have g2 := hf.open_ 2
      simp only [Tm.cells, List.getElem?_cons_zero, List.getElem?_cons_succ] at f0 f1 f2
      have HH := Lib.hid (And.intro hb (And.intro hr (And.intro hf (And.intro hsn (And.intro hx hg)))))
      have hB2 : b < wr.heap.size := by omega
      clear hb hr hf hsn hx hg
      go_wp2_with fail
      all_goals (go_rounds 3)
      all_goals
        obtain ⟨hb, hr, hf, hsn, hx, hg⟩ := HH.out
        go_roundw
        case rel =>
          refine ⟨k + 1, by go_num, by omega, ?_, ?_, ?_⟩
          · refine Below.alloc ?_ (by first | omega | (simp; omega)) _
            first | with_reducible exact hb | with_reducible exact hb.setCell (by simp) _ | with_reducible exact (hb.setCell (by simp) _).setCell (by simp) _ | with_reducible exact ((hb.setCell (by simp) _).setCell (by simp) _).setCell (by simp) _
          · refine Own.more ?_ _
            first | with_reducible exact hr | with_reducible exact hr.other (by simp) _ | with_reducible exact (hr.other (by simp) _).other (by simp) _ | with_reducible exact ((hr.other (by simp) _).other (by simp) _).other (by simp) _
          · rw [hsn]
            refine Own.more ?_ _
            apply own_of
            · first | with_reducible exact hf | with_reducible exact hf.set_ _ _ | with_reducible exact (hf.set_ _ _).set_ _ _ | with_reducible exact ((hf.set_ _ _).set_ _ _).set_ _ _
            · simp [Tm.cells, Tm.inf, List.set]; omega
        case measure => simp [intOf]; omega
    · have hk2 : k = l.length := by omega
      have f0 := hf.at_ 0
      have f1 := hf.at_ 1
      have f2 := hf.at_ 2
      have g0 := hr.open_ 0
      have g1 := hr.open_ 1
      have g2 := hr.open_ 2
      have e0 := hr.at_ 0
      have e1 := hr.at_ 1
      have e2 := hr.at_ 2
      subst hk2
      rw [List.take_length] at *
      generalize hg : l.foldl Tm.inf x = g at *
      obtain ⟨d0, d1, d2⟩ := hr.stored3 (.int .u64 (g.e : Int)) (.int .u64 (g.a : Int)) (.int .u64 (g.b : Int))
      have H1 := Lib.hid (And.intro hg (And.intro hb (And.intro d0 (And.intro d1 d2))))
      simp only [Tm.cells, List.getElem?_cons_zero, List.getElem?_cons_succ] at f0 f1 f2 e0 e1 e2
      clear hr hf hb d0 d1 d2 hg
      go_wp2_with fail
      obtain ⟨hg, hb, d0, d1, d2⟩ := H1.out
      refine bodyPost_ret (v := g.val) (by simp [results, Try.results41, go_sem, d0, d1, d2, Tm.val]) rfl ⟨congrArg (fun g : Tm => Ending.returned g.val) hg.symm, below_set3 hb (Nat.le_refl _) _ _ _⟩

set_option maxRecDepth 100000 in
set_option maxHeartbeats 400000 in
theorem refGlb_nil (A : Option Addr) (c : Nat) (w : World) :
    Calls Try.prog 41 #[.slice A 0 c] w fun e w' => e = .returned (Tm.mk 0 0 0).val ∧ Below w.heap.size w w' := by
  unfold Tm.val
  go_enter Try.func41, Try.ntmps41
  go_wp2_with fail
  refine bodyPost_ret (v := .agg #[.int .u64 0, .int .u64 0, .int .u64 0]) (by simp [results, Try.results41, go_sem]) rfl ⟨rfl, (Below.refl _ _).alloc (Nat.le_refl _) _⟩
theorem refGlb_any (A : Option Addr) (c : Nat) (l : List Tm) (w : World) (hl : Times w w.heap.size A l) (hn : l.length ≤ maxLen) :
    Calls Try.prog 41 #[.slice A l.length c] w fun e w' => e = .returned (glb l).val ∧ Below w.heap.size w w' := by
  cases l with
  | nil => exact refGlb_nil A c w
  | cons x l =>
    obtain ⟨b, o, rfl, hB, ht⟩ := hl (by simp)
    have := refGlb_from b o c x (x :: l) w (by simpa using ht 0 x rfl) hB (by simp) ht hn
    rwa [glb_all] at this
end Go.Proofs.Ytfhlgdidobecaaa
namespace Go.Proofs.Ytfhlgdidobecaaa
open Go Go.RowKit
attribute [local go_sem ↓] Go.wp_at_zero Go.wp_at_succ

/-- t advanced to l -/
def adv (t : Tm) (l : List Tm) : Tm := match l with | [] => t | x :: l => l.foldl (fun a y => a.inf (t.sup y)) (t.sup x)
theorem adv_glb (t : Tm) (l : List Tm) (h : 0 < l.length) : adv t l = glb (l.map (t.sup ·)) := by
  cases l with
  | nil => simp at h
  | cons x l => simp [adv, glb, List.foldl_map]
/-- two times laid one behind the other in a block of their own -/
theorem times_two (w : World) (s t : Tm) : Times (w.alloc (.cells #[.int .u64 (s.e : Int), .int .u64 (s.a : Int), .int .u64 (s.b : Int), .int .u64 (t.e : Int), .int .u64 (t.a : Int), .int .u64 (t.b : Int)] 26)) (w.heap.size + 1) (some ⟨w.heap.size, 0, none⟩) [s, t] := by
  intro _
  refine ⟨_, _, rfl, by omega, fun i x hx => ?_⟩
  match i, hx with
  | 0, hx => obtain rfl : s = x := by simpa using hx
             exact ⟨by simp [go_sem], by simp [go_sem], by simp [go_sem]⟩
  | 1, hx => obtain rfl : t = x := by simpa using hx
             exact ⟨by simp [go_sem], by simp [go_sem], by simp [go_sem]⟩
theorem times_two' {w : World} {N : Nat} (s t : Tm) (hN : w.heap.size = N) : Times (w.alloc (.cells #[.int .u64 (s.e : Int), .int .u64 (s.a : Int), .int .u64 (s.b : Int), .int .u64 (t.e : Int), .int .u64 (t.a : Int), .int .u64 (t.b : Int)] 26)) (N + 1) (some ⟨N, 0, none⟩) [s, t] := hN ▸ times_two w s t
theorem fold_take2 {α β : Type} (f : β → α → β) (x : β) (s : α) (l : List α) (k : Nat) (h : l[k]? = some s) : (l.take (k + 1)).foldl f x = f ((l.take k).foldl f x) s := by
  rw [List.take_add_one, h, List.foldl_append]; rfl
theorem own_set3_other {w : World} {g h : Nat} {t : TypeId} {l : List Value} (o : Own w g t l) (hg : h ≠ g) (x y z : Value) : Own (((w.setCell ⟨h, 0, none⟩ x).setCell ⟨h, 1, none⟩ y).setCell ⟨h, 2, none⟩ z) g t l :=
  ((o.other (p := ⟨h, 0, none⟩) hg _).other (p := ⟨h, 1, none⟩) hg _).other (p := ⟨h, 2, none⟩) hg _
theorem own_drew {w : World} {g : Nat} {t : TypeId} {l : List Value} (o : Own w g t l) : Own w.drew g t l := o
theorem times_keep {a b : World} {A : Option Addr} {l : List Tm} (h : Times a a.heap.size A l) (hb : Below a.heap.size a b) : Times b b.heap.size A l := (h.past hb (Nat.le_refl _)).wide hb.size
theorem times_here {W : World} {B C : Nat} {A : Option Addr} {l : List Tm} (h : Times W B A l) (hB : B ≤ C) : Times W C A l := h.wide hB
theorem times_later {W : World} {o : Obj} {B C : Nat} {A : Option Addr} {l : List Tm} (h : Times W B A l) (hB : B ≤ C ∧ B ≤ W.heap.size) : Times (W.alloc o) C A l :=
  (h.past ((Below.refl _ _).alloc (Nat.le_refl _) _) hB.2).wide hB.1
theorem times_one (w : World) (s : Tm) : Times (w.alloc (.cells #[.int .u64 (s.e : Int), .int .u64 (s.a : Int), .int .u64 (s.b : Int)] 26)) (w.heap.size + 1) (some ⟨w.heap.size, 0, none⟩) [s] := by
  intro _
  refine ⟨_, _, rfl, by omega, fun i x hx => ?_⟩
  match i, hx with
  | 0, hx => obtain rfl : s = x := by simpa using hx
             exact ⟨by simp [go_sem], by simp [go_sem], by simp [go_sem]⟩

set_option maxRecDepth 100000 in
set_option maxHeartbeats 1600000 in
theorem advance_any (t : Tm) (A : Option Addr) (c : Nat) (l : List Tm) (w : World) (hl : Times w w.heap.size A l) (hc : l.length ≤ c) (hn : c ≤ maxLen) :
    Calls Try.prog 13 #[t.val, .slice A l.length c] w fun e w' => e = .returned (adv t l).val ∧ Below w.heap.size w w' := by
  cases l with
  | nil =>
    unfold Tm.val adv
    go_enter Try.func13, Try.ntmps13
    go_wp2_with fail
    refine bodyPost_ret (v := .agg #[.int .u64 (t.e : Int), .int .u64 (t.a : Int), .int .u64 (t.b : Int)]) (by simp [results, Try.results13, go_sem]) rfl ⟨rfl, ?_⟩
    exact ((Below.refl _ _).alloc (Nat.le_refl _) _).alloc (by simp) _
  | cons x l =>
    obtain ⟨b, o, rfl, hB, hl⟩ := hl (by simp)
    obtain ⟨x0, x1, x2⟩ := hl 0 x rfl
    rw [Nat.zero_mul, Nat.add_zero] at x0 x1 x2
    unfold maxLen at hn
    rw [List.length_cons] at hc ⊢
    have h10 : ((l.length : Int) + 1 == 0) = false := by simp; omega
    have hz : (0 : Int) < (l.length : Int) + 1 := by omega
    have Hl := Lib.hid hl
    clear hl
    have hglb := fun (s t : Tm) A W h => Lib.hid (glb_any A 2 [s, t] W h (by simp) (by unfold maxLen; omega))
    have hlub := fun (s t : Tm) A W h => Lib.hid (lub_any A 2 [s, t] W h (by simp) (by unfold maxLen; omega))
    unfold Tm.val at hlub hglb ⊢
    go_enter Try.func13, Try.ntmps13
    go_upto_region 3 with fail
    go_cut [5] (fun s5 wx => ∃ G : Nat, s5 = .pointer (some ⟨G, 0, none⟩) ∧ Below w.heap.size w wx ∧ Own wx w.heap.size 26 t.cells ∧ Own wx (w.heap.size + 1) 26 [.int .u64 0, .int .u64 0, .int .u64 0] ∧
        Own wx G 26 (t.sup x).cells ∧ w.heap.size + 1 < G)
    case first =>
      have f : Below w.heap.size w ((w.alloc (.cells #[.int .u64 (t.e : Int), .int .u64 (t.a : Int), .int .u64 (t.b : Int)] 26)).alloc (.cells #[.int .u64 0, .int .u64 0, .int .u64 0] 26)) ∧
          Own ((w.alloc (.cells #[.int .u64 (t.e : Int), .int .u64 (t.a : Int), .int .u64 (t.b : Int)] 26)).alloc (.cells #[.int .u64 0, .int .u64 0, .int .u64 0] 26)) w.heap.size 26 t.cells ∧
          Own ((w.alloc (.cells #[.int .u64 (t.e : Int), .int .u64 (t.a : Int), .int .u64 (t.b : Int)] 26)).alloc (.cells #[.int .u64 0, .int .u64 0, .int .u64 0] 26)) (w.heap.size + 1) 26 [.int .u64 0, .int .u64 0, .int .u64 0] :=
        ⟨((Below.refl _ _).alloc (Nat.le_refl _) _).alloc (by simp) _, by have := (Own.made w 26 t.cells).more (.cells #[.int .u64 0, .int .u64 0, .int .u64 0] 26); simpa [Tm.cells] using this, by
          have := Own.made (w.alloc (.cells #[.int .u64 (t.e : Int), .int .u64 (t.a : Int), .int .u64 (t.b : Int)] 26)) 26 [.int .u64 0, .int .u64 0, .int .u64 0]; simpa using this⟩
      generalize (w.alloc (.cells #[.int .u64 (t.e : Int), .int .u64 (t.a : Int), .int .u64 (t.b : Int)] 26)).alloc (.cells #[.int .u64 0, .int .u64 0, .int .u64 0] 26) = W at f ⊢
      obtain ⟨fb, ft, fr⟩ := f
      replace x0 := (fb.cell (p := ⟨b, o, none⟩) hB).trans x0
      replace x1 := (fb.cell (p := ⟨b, o + 1, none⟩) hB).trans x1
      replace x2 := (fb.cell (p := ⟨b, o + 2, none⟩) hB).trans x2
      have t0 := ft.at_ 0
      have t1 := ft.at_ 1
      have t2 := ft.at_ 2
      simp only [Tm.cells, List.getElem?_cons_zero, List.getElem?_cons_succ] at t0 t1 t2
      have hsz := fr.inside
      have ne1 := World.new_ne W _ x0
      have ne2 := World.new_ne W _ x1
      have ne3 := World.new_ne W _ x2
      have ne4 := World.new_ne W _ t0
      have ne5 := World.new_ne W _ t1
      have ne6 := World.new_ne W _ t2
      have HH := Lib.hid (And.intro fb (And.intro ft fr))
      have hB0 := hB
      have hBW : b < W.heap.size := by omega
      have hNW : w.heap.size < W.heap.size := by omega
      clear fb ft fr
      go_region_held3 (fun w' => w'.cell? ⟨w.heap.size, 0, none⟩ = some (.int .u64 (t.e : Int)) ∧ w'.cell? ⟨w.heap.size, 1, none⟩ = some (.int .u64 (t.a : Int)) ∧ w'.cell? ⟨w.heap.size, 2, none⟩ = some (.int .u64 (t.b : Int)) ∧
          w'.cell? ⟨b, o, none⟩ = some (.int .u64 (x.e : Int)) ∧ w'.cell? ⟨b, o + 1, none⟩ = some (.int .u64 (x.a : Int)) ∧ w'.cell? ⟨b, o + 2, none⟩ = some (.int .u64 (x.b : Int)))
        (first | go_keep | (((try dsimp only); (repeat' apply And.intro)) <;> (refine (Below.cell (w := W) (B := W.heap.size) ?_ (by first | exact hNW | exact hBW)).trans (by assumption); repeat (first | exact Below.refl _ _ | refine Below.drew ?_ | refine Below.alloc ?_ (by first | (simp; done) | (simp; omega) | (have hz := hb.size; simp at hz; simp; omega) | (have hz := hb.size; simp at hz; omega)) _ | refine Below.setCell ?_ (by first | (simp; done) | (simp; omega) | (have hz := hb.size; simp at hz; simp; omega) | (have hz := hb.size; simp at hz; omega)) _ | refine below_then ?_ (by first | (simp; done) | (simp; omega) | (have hz := hb.size; simp at hz; simp; omega) | (have hz := hb.size; simp at hz; omega)) hb))))
        (first | (go_at_call 38; refine (hlub t x _ _ ?_).out.mono ?_; (first | exact times_here (times_two' _ _ (by simp)) (by simp) | exact times_later (times_two' _ _ (by simp)) (by simp)); rintro e w1 ⟨rfl, hb⟩; obtain ⟨hcc, hff⟩ := olds hb))
      all_goals
        go_wp2_with fail
        go_meet
        have h1 : Below W.heap.size W w1 := by
          refine below_then ?_ (by simp) hb
          repeat (first | exact Below.refl _ _ | refine Below.drew ?_ | refine Below.alloc ?_ (by first | (simp; done) | (simp; omega)) _)
        obtain ⟨fb, ft, fr⟩ := HH.out
        have hbW : Below w.heap.size w w1 := fb.trans (h1.mono (by omega))
        have ft' := ft.past h1 hNW
        have fr' := fr.past h1 hsz
        have hz1 := h1.size
      · exact ⟨_, rfl, hbW.alloc hbW.size _, ft'.more _, fr'.more _, Own.made w1 _ (t.sup x).cells, by omega⟩
      · have hg : Own w1 (W.heap.size + 1) 26 [.int .u64 0, .int .u64 0, .int .u64 0] := by
          refine Own.past ?_ hb (by simp)
          have := (Own.made (W.alloc (.cells #[.int .u64 (t.e : Int), .int .u64 (t.a : Int), .int .u64 (t.b : Int), .int .u64 (x.e : Int), .int .u64 (x.a : Int), .int .u64 (x.b : Int)] 26)) 26 [.int .u64 0, .int .u64 0, .int .u64 0])
          simp only [World.size_alloc] at this
          exact this.draws 1
        exact ⟨_, rfl, below_set3 hbW (by omega) _ _ _, own_set3_other ft' (by omega) _ _ _, own_set3_other fr' (by omega) _ _ _, ((hg.set_ 0 _).set_ 1 _).set_ 2 _, by omega⟩
      · have hg : Own w1 W.heap.size 26 [.int .u64 0, .int .u64 0, .int .u64 0] := by
          refine Own.past ?_ hb (by simp; omega)
          exact ((Own.made W 26 [.int .u64 0, .int .u64 0, .int .u64 0]).more _).draws 1
        exact ⟨_, rfl, below_set3 hbW (by omega) _ _ _, own_set3_other ft' (by omega) _ _ _, own_set3_other fr' (by omega) _ _ _, ((hg.set_ 0 _).set_ 1 _).set_ 2 _, by omega⟩
    case rest =>
      obtain ⟨G, rfl, fb, ft, fr, fg, hG⟩ := hcut
      by_cases hc1 : c = 1
      · have hl0 : l = [] := List.eq_nil_of_length_eq_zero (by omega)
        subst hl0 hc1
        have f0 := fg.at_ 0
        have f1 := fg.at_ 1
        have f2 := fg.at_ 2
        have g0 := fr.open_ 0
        have g1 := fr.open_ 1
        have g2 := fr.open_ 2
        have e0 := fr.at_ 0
        have e1 := fr.at_ 1
        have e2 := fr.at_ 2
        generalize hg : t.sup x = g at *
        obtain ⟨d0, d1, d2⟩ := fr.stored3 (.int .u64 (g.e : Int)) (.int .u64 (g.a : Int)) (.int .u64 (g.b : Int))
        have H1 := Lib.hid (And.intro hg (And.intro fb (And.intro d0 (And.intro d1 d2))))
        simp only [Tm.cells, List.getElem?_cons_zero, List.getElem?_cons_succ] at f0 f1 f2 e0 e1 e2
        clear ft fr fg fb d0 d1 d2 hg
        go_wp2_with fail
        go_rounds 1
        obtain ⟨hg, hb, d0, d1, d2⟩ := H1.out
        refine bodyPost_ret (v := g.val) (by simp [results, Try.results13, go_sem, d0, d1, d2, Tm.val]) rfl ⟨congrArg (fun g : Tm => Ending.returned g.val) hg.symm, below_set3 hb (by omega) _ _ _⟩
      · have HH := Lib.hid (And.intro fb (And.intro ft (And.intro fr fg)))
        clear fb ft fr fg
        go_wp2_with fail
        go_loopw [21] (fun i wr => ∃ k : Nat, i = .int .i64 (k : Int) ∧ k ≤ l.length ∧ Below w.heap.size w wr ∧ Own wr w.heap.size 26 t.cells ∧ Own wr (w.heap.size + 1) 26 [.int .u64 0, .int .u64 0, .int .u64 0] ∧
            Own wr G 26 ((l.take k).foldl (fun a y => a.inf (t.sup y)) (t.sup x)).cells)
          (fun i _ => l.length - (intOf i).toNat)
        case atStart =>
          obtain ⟨fb, ft, fr, fg⟩ := HH.out
          exact ⟨0, rfl, by omega, fb, ft, fr, fg⟩
        case round =>
          obtain ⟨k, rfl, hk, fb, ft, fr, fg⟩ := hrel
          have hsz := fg.inside
          by_cases hlt : k < l.length
          · have hx : l[k]? = some l[k] := List.getElem?_eq_getElem hlt
            obtain ⟨c0, c1, c2⟩ := (Hl.out (k + 1) l[k] (by rw [List.getElem?_cons_succ]; exact hx)).past fb hB
            rw [show o + (k + 1) * 3 = o + 3 + k * 3 by omega] at c0 c1 c2
            have hsn := fold_take2 (fun a y => Tm.inf a (t.sup y)) (t.sup x) _ l k hx
            generalize l[k] = y at *
            generalize hg : (l.take k).foldl (fun a y => Tm.inf a (t.sup y)) (t.sup x) = g at *
            have t0 := ft.at_ 0
            have t1 := ft.at_ 1
            have t2 := ft.at_ 2
            have f0 := fg.at_ 0
            have f1 := fg.at_ 1
            have f2 := fg.at_ 2
            have g0 := fg.open_ 0
            have g1 := fg.open_ 1
            have g2 := fg.open_ 2
            simp only [Tm.cells, List.getElem?_cons_zero, List.getElem?_cons_succ] at t0 t1 t2 f0 f1 f2
            have HR := Lib.hid (And.intro fb (And.intro ft (And.intro fr (And.intro fg (And.intro hsn (And.intro hx hg))))))
            have hB2 : b < wr.heap.size := by have := fb.size; omega
            have hN2 : w.heap.size < wr.heap.size := by omega
            clear fb ft fr fg hsn hx hg
            go_wp2_with fail
            go_region_with (first | (go_at_call 38; refine (hlub t y _ _ ?_).out.mono ?_; (exact times_here (times_two' _ _ (by simp)) (by simp)); rintro e w1 ⟨rfl, hb⟩; have hz1 := hb.size; simp only [World.size_alloc, World.size_drew] at hz1; obtain ⟨hcc, hff⟩ := olds hb; have hf1 : Own w1 G 26 g.cells := (by refine Own.past ?_ hb (by simp; omega); repeat (first | exact HR.out.2.2.2.1 | refine own_drew ?_ | refine Own.more ?_ _)); have r0 := hf1.at_ 0; have r1 := hf1.at_ 1; have r2 := hf1.at_ 2; simp only [Tm.cells, List.getElem?_cons_zero, List.getElem?_cons_succ] at r0 r1 r2; have hf1 := Lib.hid hf1) | (go_at_call 39; refine (hglb g (lub [t, y]) _ _ ?_).out.mono ?_; (exact times_here (times_two' _ _ (by simp)) (by simp)); rintro e w2 ⟨rfl, hb2⟩; have hf2 : Own w2 G 26 g.cells := (by refine Own.past ?_ hb2 (by simp; omega); repeat (first | exact hf1.out | refine own_drew ?_ | refine Own.more ?_ _)); have s0 := hf2.open_ 0; have s1 := hf2.open_ 1; have s2 := hf2.open_ 2; have r0 := hf2.at_ 0; have r1 := hf2.at_ 1; have r2 := hf2.at_ 2; simp only [Tm.cells, List.getElem?_cons_zero, List.getElem?_cons_succ] at r0 r1 r2; have hf2 := Lib.hid hf2))
            all_goals
              go_wp2_with fail
              obtain ⟨fb, ft, fr, fg, hsn, hx, hg⟩ := HR.out
              have h1 : Below wr.heap.size wr w1 := by
                refine below_then ?_ (by simp) hb
                repeat (first | exact Below.refl _ _ | refine Below.drew ?_ | refine Below.alloc ?_ (by first | (simp; done) | (simp; omega)) _)
              have h2 : Below wr.heap.size wr w2 := by
                refine below_then ?_ (by simp) hb2
                repeat (first | exact h1 | refine Below.drew ?_ | refine Below.alloc ?_ (by first | exact h1.size | (simp; done) | (simp; omega)) _)
              go_roundw
              case rel => exact ⟨k + 1, by go_num, by omega, below_set3 (fb.trans (h2.mono fb.size)) (by omega) _ _ _, own_set3_other (ft.past h2 (by omega)) (by omega) _ _ _, own_set3_other (fr.past h2 (by omega)) (by omega) _ _ _, by rw [hsn]; exact ((hf2.out.set_ 0 _).set_ 1 _).set_ 2 _⟩
              case measure => simp [intOf]; omega
          · have hk2 : k = l.length := by omega
            have f0 := fg.at_ 0
            have f1 := fg.at_ 1
            have f2 := fg.at_ 2
            have g0 := fr.open_ 0
            have g1 := fr.open_ 1
            have g2 := fr.open_ 2
            have e0 := fr.at_ 0
            have e1 := fr.at_ 1
            have e2 := fr.at_ 2
            subst hk2
            rw [List.take_length] at *
            generalize hg : l.foldl (fun a y => Tm.inf a (t.sup y)) (t.sup x) = g at *
            obtain ⟨d0, d1, d2⟩ := fr.stored3 (.int .u64 (g.e : Int)) (.int .u64 (g.a : Int)) (.int .u64 (g.b : Int))
            have H1 := Lib.hid (And.intro hg (And.intro fb (And.intro d0 (And.intro d1 d2))))
            simp only [Tm.cells, List.getElem?_cons_zero, List.getElem?_cons_succ] at f0 f1 f2 e0 e1 e2
            clear ft fr fg fb d0 d1 d2 hg
            go_wp2_with fail
            obtain ⟨hg, hb, d0, d1, d2⟩ := H1.out
            refine bodyPost_ret (v := g.val) (by simp [results, Try.results13, go_sem, d0, d1, d2, Tm.val]) rfl ⟨congrArg (fun g : Tm => Ending.returned g.val) hg.symm, below_set3 hb (by omega) _ _ _⟩
end Go.Proofs.Ytfhlgdidobecaaa
namespace Go.Proofs.Ytfhlgdidobecaaa
open Go Go.RowKit

theorem infoTm : (Try.prog.info? 26).map (fun i => (i.zero, i.size, i.bytes)) = some (some (Tm.mk 0 0 0).val, 3, 24) := by kernel_rfl
theorem flat_at : ∀ (l : List Tm) (i : Nat) (t : Tm), l[i]? = some t → (l.flatMap Tm.cells)[i * 3]? = some (.int .u64 (t.e : Int)) ∧ (l.flatMap Tm.cells)[i * 3 + 1]? = some (.int .u64 (t.a : Int)) ∧ (l.flatMap Tm.cells)[i * 3 + 2]? = some (.int .u64 (t.b : Int))
  | [], i, t, h => by simp at h
  | x :: l, 0, t, h => by
    obtain rfl : x = t := by simpa using h
    simp [Tm.cells]
  | x :: l, i + 1, t, h => by
    have ih := flat_at l i t (by simpa using h)
    simp only [List.flatMap_cons, Tm.cells, show (i + 1) * 3 = i * 3 + 3 by omega, show i * 3 + 3 + 1 = i * 3 + 1 + 3 by omega, show i * 3 + 3 + 2 = i * 3 + 2 + 3 by omega]
    simpa using ih
theorem flat_len (l : List Tm) : (l.flatMap Tm.cells).length = l.length * 3 := by
  induction l with
  | nil => rfl
  | cons x l ih => rw [List.flatMap_cons, List.length_append, ih, List.length_cons]; simp [Tm.cells]; omega
theorem flatT_snoc (l : List Tm) (t : Tm) : l.flatMap Tm.cells ++ #[Value.int .u64 (t.e : Int), .int .u64 (t.a : Int), .int .u64 (t.b : Int)].toList = (l ++ [t]).flatMap Tm.cells := by
  simp [Tm.cells]
theorem times_of_own {w : World} {base : Nat} {v : Value} {l : List Tm} {n : Nat} (hn : n = l.length) (h : w.ownsRow base 26 3 v n (l.flatMap Tm.cells)) :
    ∃ A c, v = .slice A l.length c ∧ l.length ≤ c ∧ c ≤ maxLen ∧ Times w w.heap.size A l := by
  subst hn
  rcases h.2 with ⟨rfl, h0⟩ | ⟨g, cap, cur, rfl, hb, hg, h1, h2, h3, h4⟩
  · exact ⟨none, 0, by rw [h0], by omega, by omega, fun h => by omega⟩
  · refine ⟨_, cap, rfl, h1, h2, fun _ => ⟨g, 0, rfl, (Array.getElem?_eq_some_iff.1 hg).1, fun i t hi => ?_⟩⟩
    have hil : i < l.length := (List.getElem?_eq_some_iff.1 hi).1
    obtain ⟨a0, a1, a2⟩ := flat_at l i t hi
    have hc : ∀ j, j < l.length * 3 → w.cell? ⟨g, 0 + j, none⟩ = (l.flatMap Tm.cells)[j]? := fun j hj => by rw [Nat.zero_add]; exact h.cellAt j hj
    exact ⟨(hc _ (by omega)).trans a0, by rw [Nat.add_assoc]; exact (hc _ (by omega)).trans a1, by rw [Nat.add_assoc]; exact (hc _ (by omega)).trans a2⟩
end Go.Proofs.Ytfhlgdidobecaaa
namespace Go.Proofs.Ytfhlgdidobecaaa
open Go Go.RowKit Go.Sort Go.Lib
attribute [local go_sem ↓] Go.wp_at_zero Go.wp_at_succ

set_option maxRecDepth 100000 in
set_option maxHeartbeats 400000 in
theorem nan_any (x : Nat) (w : World) :
    Calls Try.prog 90 #[.int .u64 (x : Int)] w fun e w' => e = .returned (.bool false) ∧ w = w' := by
  go_enter Try.func90, Try.ntmps90
  go_wp2_with fail
  go_ret
  exact ⟨ret_bool (by simp), rfl⟩

set_option maxRecDepth 100000 in
set_option maxHeartbeats 800000 in
theorem cmpNat_any (x y : Nat) (w : World) :
    Calls Try.prog 61 #[.int .u64 (x : Int), .int .u64 (y : Int)] w fun e w' => e = .returned (.int .i64 (Tm.cmpN x y)) ∧ w = w' := by
  go_enter Try.func61, Try.ntmps61
  go_wp2_with (go_at_call 90; refine (nan_any _ _).mono ?_; rintro e w' ⟨rfl, rfl⟩)
  all_goals
    go_ret
    refine ⟨ret_i64 ?_, rfl⟩
    unfold Tm.cmpN
    repeat' split
    all_goals first | rfl | omega

/-- the first of two that is not 0 -/
def orI (x y : Int) : Int := if x = 0 then y else x

set_option maxRecDepth 100000 in
set_option maxHeartbeats 800000 in
theorem or_any (g : Nat) (x y : Int) (w : World) (h0 : w.cell? ⟨g, 0, none⟩ = some (.int .i64 x)) (h1 : w.cell? ⟨g, 1, none⟩ = some (.int .i64 y)) :
    Calls Try.prog 60 #[.slice (some ⟨g, 0, none⟩) 2 2] w fun e w' => e = .returned (.int .i64 (orI x y)) ∧ w = w' := by
  go_enter Try.func60, Try.ntmps60
  go_wp2_with fail
  go_rounds 3
  all_goals
    go_ret
    refine ⟨ret_i64 ?_, rfl⟩
    unfold orI
    simp_all

set_option maxRecDepth 100000 in
set_option maxHeartbeats 800000 in
theorem cmpRounds_any (g o h p : Nat) (a b x y : Nat) (w : World) (h0 : w.cell? ⟨g, o, none⟩ = some (.int .u64 (a : Int))) (h1 : w.cell? ⟨g, o + 1, none⟩ = some (.int .u64 (b : Int)))
    (k0 : w.cell? ⟨h, p, none⟩ = some (.int .u64 (x : Int))) (k1 : w.cell? ⟨h, p + 1, none⟩ = some (.int .u64 (y : Int))) :
    Calls Try.prog 62 #[.slice (some ⟨g, o, none⟩) 2 2, .slice (some ⟨h, p, none⟩) 2 2] w fun e w' => e = .returned (.int .i64 (orI (Tm.cmpN a x) (Tm.cmpN b y))) ∧ w = w' := by
  go_enter Try.func62, Try.ntmps62
  go_wp2_with fail
  refine wp_loop_rounds 3 ?_
  rw [rounds_succ]
  go_wp2_with (go_at_call 61; refine (cmpNat_any _ _ _).mono ?_; rintro e w' ⟨rfl, rfl⟩)
  · go_ret
    exact ⟨ret_i64 (by unfold orI; simp_all), rfl⟩
  · rw [rounds_succ]
    go_wp2_with (go_at_call 61; refine (cmpNat_any _ _ _).mono ?_; rintro e w' ⟨rfl, rfl⟩)
    · go_ret
      exact ⟨ret_i64 (by unfold orI; simp_all), rfl⟩
    · rw [rounds_succ]
      go_wp2_with fail
      go_ret
      exact ⟨ret_i64 (by unfold orI; simp_all), rfl⟩

theorem cmp_or (s t : Tm) : orI (Tm.cmpN s.e t.e) (orI (Tm.cmpN s.a t.a) (Tm.cmpN s.b t.b)) = s.cmp t := by
  have h : ∀ x y, Tm.cmpN x y = 0 ↔ x = y := fun x y => by unfold Tm.cmpN; repeat' split
                                                           all_goals omega
  unfold orI Tm.cmp
  simp only [h]
  repeat' split
  all_goals first | rfl | omega

set_option maxRecDepth 100000 in
set_option maxHeartbeats 1600000 in
theorem compare_grows (s t : Tm) (w : World) :
    Calls Try.prog 34 #[s.val, t.val] w fun e w' => e = .returned (.int .i64 (s.cmp t)) ∧ ∃ q os, w' = grow (w.drewN q) os := by
  have hor := Lib.hid (cmp_or s t)
  obtain ⟨a, b, c⟩ := s
  obtain ⟨x, y, z⟩ := t
  unfold Tm.val
  dsimp only at hor ⊢
  generalize Tm.cmp _ _ = r at hor ⊢
  go_enter Try.func34, Try.ntmps34
  go_wp2_with fail
  go_region_held3 (fun w' => w'.cell? ⟨w.heap.size, 0, none⟩ = some (.int .u64 (a : Int)) ∧ w'.cell? ⟨w.heap.size, 1, none⟩ = some (.int .u64 (b : Int)) ∧ w'.cell? ⟨w.heap.size, 2, none⟩ = some (.int .u64 (c : Int)) ∧
      w'.cell? ⟨w.heap.size + 1, 0, none⟩ = some (.int .u64 (x : Int)) ∧ w'.cell? ⟨w.heap.size + 1, 1, none⟩ = some (.int .u64 (y : Int)) ∧ w'.cell? ⟨w.heap.size + 1, 2, none⟩ = some (.int .u64 (z : Int)))
    (go_keep)
    (first | (go_at_call 61; refine (cmpNat_any _ _ _).mono ?_; rintro e w1 ⟨rfl, rfl⟩)
           | (go_at_call 62; refine (cmpRounds_any _ _ _ _ b c y z _ ?_ ?_ ?_ ?_).mono ?_; (simp [*]); (simp [*]); (simp [*]); (simp [*]); rintro e w1 ⟨rfl, rfl⟩)
           | (go_at_call 60; refine (or_any _ (Tm.cmpN a x) (orI (Tm.cmpN b y) (Tm.cmpN c z)) _ ?_ ?_).mono ?_; (simp [go_sem]); (simp [go_sem]); rintro e w1 ⟨rfl, rfl⟩))
  all_goals
    go_wp2_with fail
    go_ret
    exact ⟨ret_i64 hor.out, 1, _, by rw [alloc_eq_grow, alloc_eq_grow, alloc_eq_grow, grow_grow, grow_grow]; rfl⟩
theorem below_grow (w : World) (q : Nat) (os : Array Obj) : Below w.heap.size w (grow (w.drewN q) os) :=
  ⟨rfl, rfl, rfl, by simp, fun k hk => heap_grow_old (w.drewN q) os hk⟩
theorem compare_any (s t : Tm) (w : World) :
    Calls Try.prog 34 #[s.val, t.val] w fun e w' => e = .returned (.int .i64 (s.cmp t)) ∧ Below w.heap.size w w' :=
  (compare_grows s t w).mono fun e w' ⟨he, q, os, hw⟩ => ⟨he, hw ▸ below_grow w q os⟩
end Go.Proofs.Ytfhlgdidobecaaa
namespace Go.Proofs.Ytfhlgdidobecaaa
open Go Go.RowKit Go.Sort Go.Lib

theorem ltT (x y : Tm) : ltOf Tm.cmp x y = decide (x.e < y.e ∨ x.e = y.e ∧ (x.a < y.a ∨ x.a = y.a ∧ x.b < y.b)) := by
  unfold ltOf Tm.cmp Tm.cmpN
  rw [decide_eq_decide]
  repeat' split
  all_goals omega
theorem swoT : SWO (ltOf Tm.cmp) where
  irrefl x := by rw [ltT]; simp
  trans x y z h1 h2 := by rw [ltT] at *; simp at *; omega
  ntrans x y z h1 h2 := by rw [ltT] at *; simp at *; omega
theorem totT (x y : Tm) (h1 : ltOf Tm.cmp x y = false) (h2 : ltOf Tm.cmp y x = false) : x = y := by
  rw [ltT] at *
  simp at *
  obtain ⟨a, b, c⟩ := x
  obtain ⟨d, e, f⟩ := y
  simp at *
  omega
/-- sorted in the line of times -/
def sortT (l : List Tm) : List Tm := l.mergeSort fun x y => !(ltOf Tm.cmp) y x
theorem sortT_len (l : List Tm) : (sortT l).length = l.length := List.length_mergeSort _
theorem mem_sortT {l : List Tm} {t : Tm} : t ∈ sortT l ↔ t ∈ l := List.mem_mergeSort
theorem sortT_sorted (l : List Tm) : (sortT l).Pairwise fun x y => ltOf Tm.cmp y x = false := by
  have h := List.pairwise_mergeSort (le := fun x y => !(ltOf Tm.cmp) y x) (fun a b c h1 h2 => by
    simp only [Bool.not_eq_true'] at *; exact swoT.ntrans _ _ _ h2 h1) (fun a b => by
    simp only [Bool.or_eq_true, Bool.not_eq_true', ltT]; simp; omega) l
  exact h.imp fun h => by simpa using h
end Go.Proofs.Ytfhlgdidobecaaa
namespace Go.Proofs.Ytfhlgdidobecaaa
open Go Go.RowKit Go.Sort Go.Lib

theorem flat_inv : ∀ (l : List Tm) (j : Nat) (u : Value), (l.flatMap Tm.cells)[j]? = some u → ∃ i t, l[i]? = some t ∧ ((j = i * 3 ∧ u = .int .u64 (t.e : Int)) ∨ (j = i * 3 + 1 ∧ u = .int .u64 (t.a : Int)) ∨ (j = i * 3 + 2 ∧ u = .int .u64 (t.b : Int)))
  | [], j, u, h => by simp at h
  | x :: l, 0, u, h => ⟨0, x, rfl, .inl ⟨rfl, by simpa [Tm.cells] using h.symm⟩⟩
  | x :: l, 1, u, h => ⟨0, x, rfl, .inr (.inl ⟨rfl, by simpa [Tm.cells] using h.symm⟩)⟩
  | x :: l, 2, u, h => ⟨0, x, rfl, .inr (.inr ⟨rfl, by simpa [Tm.cells] using h.symm⟩)⟩
  | x :: l, j + 3, u, h => by
    obtain ⟨i, t, hi, hc⟩ := flat_inv l j u (by simpa [Tm.cells] using h)
    refine ⟨i + 1, t, by simpa using hi, ?_⟩
    rcases hc with ⟨h1, h2⟩ | ⟨h1, h2⟩ | ⟨h1, h2⟩
    · exact .inl ⟨by omega, h2⟩
    · exact .inr (.inl ⟨by omega, h2⟩)
    · exact .inr (.inr ⟨by omega, h2⟩)
theorem flat_one (l : List Tm) : ∀ u ∈ l.flatMap Tm.cells, u.oneCell' = true := by
  intro u hu
  obtain ⟨t, _, ht⟩ := List.mem_flatMap.1 hu
  simp [Tm.cells] at ht
  rcases ht with rfl | rfl | rfl <;> rfl
theorem times_news {w : World} {B : Nat} {ad : Addr} {l : List Tm} (h : Times w B (some ad) l) : ∀ j u, (l.flatMap Tm.cells)[j]? = some u → w.cell? (ad.add j) = some u := by
  intro j u hu
  obtain ⟨i, t, hi, hc⟩ := flat_inv l j u hu
  have hpos : 0 < l.length := by have := (List.getElem?_eq_some_iff.1 hi).1; omega
  obtain ⟨b, o, e, _, ht⟩ := h hpos
  obtain rfl : ad = ⟨b, o, none⟩ := by injection e
  obtain ⟨a0, a1, a2⟩ := ht i t hi
  have ea : (⟨b, o, none⟩ : Addr).add j = ⟨b, o + j, none⟩ := by unfold Addr.add; split <;> simp_all
  rw [ea]
  rcases hc with ⟨rfl, rfl⟩ | ⟨rfl, rfl⟩ | ⟨rfl, rfl⟩
  · exact a0
  · rw [← Nat.add_assoc]; exact a1
  · rw [← Nat.add_assoc]; exact a2

set_option maxRecDepth 100000 in
set_option maxHeartbeats 800000 in
theorem clone_any (A : Option Addr) (c : Nat) (l : List Tm) (w : World) (hl : Times w w.heap.size A l) (hn : l.length * 24 ≤ 140737488351232) :
    Calls Try.prog 32 #[.slice A l.length c] w fun e w' => ∃ v, e = .returned v ∧ w'.ownsRow w.heap.size 26 3 v l.length (l.flatMap Tm.cells) ∧ Below w.heap.size w w' := by
  have q26 := fun (w : World) (a : Option Addr) (n c n' c' : Nat) => Lib.run_eql_slice_nil (P := Try.prog) w _ _ a n c n' c' Try.underlying22
  have hU := Try.underlying22
  obtain ⟨i0, hi, hz0, hz1, hz2⟩ := info_parts infoTm
  cases A with
  | none =>
    have h0 : l = [] := by
      cases l with
      | nil => rfl
      | cons x l => obtain ⟨_, _, e, _⟩ := hl (by simp); cases e
    subst h0
    clear hl
    go_enter Try.func32, Try.ntmps32
    go_wp2_with fail
    go_ret
    exact ⟨_, rfl, World.ownsRow_nil _ _ _ _, Below.refl _ _⟩
  | some ad =>
    have hnews := times_news hl
    have HN := Lib.hid hnews
    clear hnews hl
    go_enter Try.func32, Try.ntmps32
    go_wp2_with (at_builtin; refine wpList_append_own_at _ rfl _ _ 22 rfl w.heap.size 26 i0 _ 3 24 hU hi hz0 hz1 hz2 rfl (by decide) _ _ _ rfl (World.ownsRow_made w #[] 0 (Nat.le_refl _) (Nat.zero_le _) rfl) ad l.length c (l.flatMap Tm.cells) rfl ?c1 ?c2 ?c3 ?c4 ?c5 ?c6 ?_)
    case c1 => rw [flat_len]
    case c2 => exact fun j u hu => (World.cell?_alloc_some _ _ _ (by rw [HN.out j u hu]; rfl)).trans (HN.out j u hu)
    case c3 => exact flat_one l
    case c4 => unfold maxLen; omega
    case c5 => omega
    case c6 => simp
    intro v' w' ho' hg' _ _
    have hb : Below w.heap.size w w' := ((Below.refl _ _).alloc (Nat.le_refl _) _).grown hg' (by simp) (by simp [Value.ownBlock])
    go_wp2
    go_ret
    exact ⟨_, rfl, ho', hb⟩

theorem getElem!_some {l : List Tm} {i : Nat} {t : Tm} (h : l[i]? = some t) : l.toArray[i]! = t := by
  obtain ⟨hi, h⟩ := List.getElem?_eq_some_iff.1 h
  rw [getElem!_pos _ i (by simpa using hi)]
  simpa using h
/-- the row sorted in place; blocks below it are as they were -/
theorem sort_any (g c : Nat) (l : List Tm) (w : World) (base : Nat) (h : w.ownsRow base 26 3 (.slice (some ⟨g, 0, none⟩) l.length c) l.length (l.flatMap Tm.cells)) (hn : l.length * 24 ≤ 140737488351232) :
    Calls Try.prog 33 #[.slice (some ⟨g, 0, none⟩) l.length c, .func (.func 34) #[] #[]] w fun e w' => e = .returned (.tuple #[]) ∧ Times w' w'.heap.size (some ⟨g, 0, none⟩) (sortT l) ∧ Below g w w' := by
  have eg : ∀ args w, (callFunc 34 args).run Try.prog w = .ok (.enter 34 args) w := enters_of Try.func34 (by kernel_rfl) rfl
  have hg : g < w.heap.size := by
    rcases h.2 with ⟨h, _⟩ | ⟨g', _, _, e, _, hg, _⟩
    · simp at h
    · injection e with e _ _
      injection e with e
      injection e with e
      subst e
      exact (Array.getElem?_eq_some_iff.1 hg).1
  have hcell : ∀ i c, i < l.length → c < 3 → w.cell? ⟨g, 0 + (i * 3 + c), none⟩ = some (Tm.cells l.toArray[i]!)[c]! ∧ w.frozen? ⟨g, 0 + (i * 3 + c), none⟩ = false := by
    intro i c hi hc
    refine ⟨?_, h.frozenAt _⟩
    rw [Nat.zero_add, h.cellAt _ (by omega)]
    have hx : l[i]? = some l[i] := List.getElem?_eq_getElem hi
    obtain ⟨a0, a1, a2⟩ := flat_at l i _ hx
    rw [getElem!_some hx]
    rcases (by omega : c = 0 ∨ c = 1 ∨ c = 2) with rfl | rfl | rfl
    · simpa [Tm.cells] using a0
    · simpa [Tm.cells] using a1
    · simpa [Tm.cells] using a2
  have hH : HoldsK Tm.cells 3 w g 0 l.toArray := by
    intro j hj
    rw [size_flatK] at hj
    rw [get_flatK _ _ _ _ hj]
    have hs : l.toArray.size = l.length := by simp
    have := hcell (j / 3) (j % 3) (by omega) (by omega)
    rwa [Nat.div_add_mod' j 3] at this
  have hcon := AnyQ.slices_SortFunc_total Try.sortTm 3 Try.isAgg26 Try.sizeOf26 Tm.cells (fun _ => rfl) (fun x v hv => by simp [Tm.cells] at hv; rcases hv with rfl | rfl | rfl <;> rfl) Tm.cmp swoT 34 #[] g 0 c l.toArray w eg
    (fun m os dk _ x y => compare_grows x y _) hH hg (by simp; omega) totT
  change Calls Try.prog 33 _ _ _ at hcon
  simp only [List.size_toArray] at hcon
  refine hcon.mono ?_
  rintro e w' ⟨rfl, n, os, rfl⟩
  have hlen : (sortT l).toArray.size = l.toArray.size := by simp [sortT_len]
  have hH' := holdsK_sortWorldK_c Tm.cells 3 w g 0 l.toArray (sortT l).toArray n os hH hg hlen
  refine ⟨rfl, fun _ => ⟨g, 0, rfl, Nat.lt_of_lt_of_le hg (size_sortWorldK_c Tm.cells 3 w g 0 n _ os), fun i t hi => ?_⟩, ?_⟩
  · have hil := (List.getElem?_eq_some_iff.1 hi).1
    have hq := fun c hc => (HoldsK.cell hH' (i := i) (c := c) (by simpa using hil) hc).1
    rw [getElem!_some hi] at hq
    exact ⟨hq 0 (by omega), hq 1 (by omega), hq 2 (by omega)⟩
  · unfold sortWorldK putRowK putRow mapBlock
    refine ⟨rfl, rfl, rfl, by simp [grow, ahead], fun k hk => ?_⟩
    show (_ ++ os)[k]? = _
    rw [Array.getElem?_append_left (by simp [ahead]; omega), Array.getElem?_modify, if_neg (by omega)]
    rfl
end Go.Proofs.Ytfhlgdidobecaaa
namespace Go.Proofs.Ytfhlgdidobecaaa
open Go Go.RowKit

theorem eqIn_rounds (d : Nat) (a b c e : Int) (w : World) : (Op.equalIn (d + 2) 24 (.agg #[.int .u64 a, .int .u64 b]) (.agg #[.int .u64 c, .int .u64 e])).run Try.prog w = .ok ((a == c) && (b == e)) w := by
  have u := Try.underlying24
  have u1 := Try.underlying23
  have z1 := Try.sizeOf23
  have a1 := Try.isAgg23
  unfold Op.equalIn
  simp only [Sem.run_bind, run_underlying u, Result.andThen_ok, z1]
  by_cases h1 : a = c <;> by_cases h2 : b = e <;>
    simp [h1, h2, part, a1, z1, run_equalIn_int w _ _ _ _ _ _ u1, Std.Legacy.Range.forIn_eq_forIn_range', Std.Legacy.Range.size, List.range', go_sem]
theorem eql_rounds (a b c e : Int) (w : World) : (binOp .eql 24 (.agg #[.int .u64 a, .int .u64 b]) (.agg #[.int .u64 c, .int .u64 e])).run Try.prog w = .ok (.bool ((a == c) && (b == e))) w := by
  rw [run_eql_struct, show (10000 : Nat) = 9998 + 2 from rfl, eqIn_rounds]; rfl
theorem grd_rounds (op : BinOp) (x y : Operand) (xs ys : Array Value) (w : World) : (eqGuard op 24 x y (.agg xs) (.agg ys)).run Try.prog w = .ok () w := run_eqGuard_agg w op _ x y xs ys (by kernel_rfl)
theorem grd_time (op : BinOp) (x y : Operand) (xs ys : Array Value) (w : World) : (eqGuard op 26 x y (.agg xs) (.agg ys)).run Try.prog w = .ok () w := run_eqGuard_agg w op _ x y xs ys (by kernel_rfl)
def eqT (s t : Tm) : Bool := (s.e == t.e) && ((s.a == t.a) && (s.b == t.b))
theorem eqT_iff {s t : Tm} : eqT s t = true ↔ s = t := by
  cases s; cases t; simp [eqT]
theorem eqT_decide (s t : Tm) : eqT s t = decide (s = t) := by
  rw [Bool.eq_iff_iff, eqT_iff]; simp
theorem eqIn_time (s t : Tm) (w : World) : (Op.equalIn 10000 26 s.val t.val).run Try.prog w = .ok (eqT s t) w := by
  have u1 := Try.underlying23
  have z1 := Try.sizeOf23
  have a1 := Try.isAgg23
  have z2 := Try.sizeOf24
  have a2 := Try.isAgg24
  have hS : Try.prog.underlying 26 = some (.struct (Try.prog.fieldsOf 26)) := by kernel_rfl
  have hp : Try.prog.stoodInHeld 26 = false := by kernel_rfl
  unfold Tm.val
  rw [show (10000 : Nat) = 9996 + 1 + 2 + 1 from rfl, run_equalIn_agg w _ _ _ _ hS hp]
  simp only [Program.fieldsOf, Try.underlying26, eqT]
  have i0 : ∀ x y : Nat, ((x : Int) = (y : Int)) = (x = y) := fun x y => by simp; omega
  by_cases h1 : s.e = t.e
  · simp [Op.eqFields, part, a1, a2, z1, z2, h1, i0, run_equalIn_int w _ _ _ _ _ _ u1, go_sem]
    rw [show (9999 : Nat) = 9997 + 2 from rfl, eqIn_rounds]
    cases hq : ((s.a : Int) == (t.a : Int)) && ((s.b : Int) == (t.b : Int)) <;> simp_all
  · have h2 : (s.e == t.e) = false := by simpa using h1
    simp [Op.eqFields, part, a1, a2, z1, z2, h1, h2, i0, run_equalIn_int w _ _ _ _ _ _ u1, go_sem]
theorem eql_time (s t : Tm) (w : World) : (binOp .eql 26 s.val t.val).run Try.prog w = .ok (.bool (eqT s t)) w := by
  have h := eqIn_time s t w
  unfold Tm.val at h ⊢
  rw [run_eql_struct, h]; rfl
theorem neq_time (s t : Tm) (w : World) : (binOp .neq 26 s.val t.val).run Try.prog w = .ok (.bool (!eqT s t)) w := by
  have h := eqIn_time s t w
  unfold Tm.val at h ⊢
  rw [run_neq_struct, h]; rfl
end Go.Proofs.Ytfhlgdidobecaaa
namespace Go.Proofs.Ytfhlgdidobecaaa
open Go Go.RowKit
attribute [local go_sem ↓] Go.wp_at_zero Go.wp_at_succ

theorem max_le (a b c d : Nat) : ((((max a c : Nat) : Int) == (c : Int)) && (((max b d : Nat) : Int) == (d : Int))) = (decide (a ≤ c) && decide (b ≤ d)) := by
  rw [Bool.eq_iff_iff]; simp only [Bool.and_eq_true, beq_iff_eq, decide_eq_true_eq]; omega

set_option maxRecDepth 100000 in
set_option maxHeartbeats 800000 in
theorem ahead_any (s t : Tm) (w : World) :
    Calls Try.prog 37 #[s.val, t.val] w fun e w' => e = .returned (.bool (s.le t)) ∧ Below w.heap.size w w' := by
  obtain ⟨a, b, c⟩ := s
  obtain ⟨x, y, z⟩ := t
  unfold Tm.val Tm.le
  dsimp only
  by_cases h : a ≤ x
  · have heq := eql_rounds ((max b y : Nat) : Int) ((max c z : Nat) : Int) (y : Int) (z : Int)
    have hgd := fun (x1 y1 : Operand) (xs ys : Array Value) (w : World) => grd_rounds .eql x1 y1 xs ys w
    have hle : decide ((a : Int) ≤ (x : Int)) = true := by simp; omega
    have hm := max_le b c y z
    simp only [hm] at heq
    have hr : (decide (a ≤ x) && (decide (b ≤ y) && decide (c ≤ z))) = (decide (b ≤ y) && decide (c ≤ z)) := by simp [h]
    rw [hr]
    clear hm hr
    generalize (decide (b ≤ y) && decide (c ≤ z)) = r at heq
    go_enter Try.func37, Try.ntmps37
    go_wp2_with fail
    go_region_held3 (fun w' => w'.cell? ⟨w.heap.size, 0, none⟩ = some (.int .u64 (a : Int)) ∧ w'.cell? ⟨w.heap.size, 1, none⟩ = some (.int .u64 (b : Int)) ∧ w'.cell? ⟨w.heap.size, 2, none⟩ = some (.int .u64 (c : Int)) ∧
        w'.cell? ⟨w.heap.size + 1, 0, none⟩ = some (.int .u64 (x : Int)) ∧ w'.cell? ⟨w.heap.size + 1, 1, none⟩ = some (.int .u64 (y : Int)) ∧ w'.cell? ⟨w.heap.size + 1, 2, none⟩ = some (.int .u64 (z : Int)))
      (first | go_keep | (refine ⟨?_, ?_, ?_, ?_, ?_, ?_⟩ <;> (refine (hb.cell (by first | (simp; done) | (simp; omega))).trans ?_; simp [go_sem])))
      (first | (go_at_call 63; refine (each_greater _ _ _ _ _).mono ?_; rintro e w1 ⟨rfl, hb⟩))
    go_wp2_with fail
    go_ret
    exact ⟨rfl, ((((Below.refl _ _).alloc (Nat.le_refl _) _).alloc (by simp) _).drew).trans (hb.mono (by simp; omega))⟩
  · have hr : (decide (a ≤ x) && (decide (b ≤ y) && decide (c ≤ z))) = false := by simp [h]
    have hn : decide (a ≤ x) = false := by simpa using h
    rw [hr]
    clear hr h
    go_enter Try.func37, Try.ntmps37
    go_wp2_with fail
    go_quiet (fail)
    go_wp2_with fail
    go_ret
    exact ⟨rfl, below_draws (((Below.refl _ _).alloc (Nat.le_refl _) _).alloc (by simp) _) _⟩
end Go.Proofs.Ytfhlgdidobecaaa
namespace Go.Proofs.Ytfhlgdidobecaaa
open Go Go.RowKit

set_option maxRecDepth 100000 in
set_option maxHeartbeats 800000 in
theorem refAhead_any (s t : Tm) (w : World) :
    Calls Try.prog 35 #[s.val, t.val] w fun e w' => e = .returned (.bool (s.le t)) ∧ Below w.heap.size w w' := by
  obtain ⟨a, b, c⟩ := s
  obtain ⟨x, y, z⟩ := t
  unfold Tm.val Tm.le
  dsimp only
  have i0 : ∀ w, (Instr.index 24 (.agg #[.int .u64 (b : Int), .int .u64 (c : Int)]) (.int .i64 0)).run Try.prog w = .ok (.int .u64 (b : Int)) w := fun _ => by kernel_rfl
  have i1 : ∀ w, (Instr.index 24 (.agg #[.int .u64 (b : Int), .int .u64 (c : Int)]) (.int .i64 1)).run Try.prog w = .ok (.int .u64 (c : Int)) w := fun _ => by kernel_rfl
  have hB := fun (o1 o2 : Obj) => (((Below.refl w.heap.size w).alloc (Nat.le_refl _) o1).alloc (by simp) o2)
  have HB := Lib.hid hB
  clear hB
  go_enter Try.func35, Try.ntmps35
  go_wp2_with fail
  go_rounds 3
  all_goals
    go_ret
    refine ⟨ret_bool ?_, HB.out _ _⟩
    rw [Bool.eq_iff_iff]; simp only [Bool.and_eq_true, decide_eq_true_eq, Bool.false_eq_true, true_iff, false_iff, iff_true, iff_false]; omega
end Go.Proofs.Ytfhlgdidobecaaa
namespace Go.Proofs.Ytfhlgdidobecaaa
open Go Go.RowKit

/-- one of l is ahead of t -/
def beyond (l : List Tm) (t : Tm) : Bool := l.any (·.le t)
theorem beyond_snoc {l : List Tm} {t s : Tm} {k : Nat} (h : l[k]? = some s) : beyond (l.take (k + 1)) t = (beyond (l.take k) t || s.le t) := by
  unfold beyond
  rw [List.take_add_one, h]
  simp
theorem beyond_hit {l : List Tm} {t s : Tm} {k : Nat} (h : l[k]? = some s) (hs : s.le t = true) : beyond l t = true := by
  unfold beyond
  rw [List.any_eq_true]
  exact ⟨s, List.mem_of_getElem? h, hs⟩

set_option maxRecDepth 100000 in
set_option maxHeartbeats 800000 in
theorem beyond_any (A : Option Addr) (c : Nat) (l : List Tm) (t : Tm) (w : World) (hl : Times w w.heap.size A l) (hn : l.length ≤ maxLen) :
    Calls Try.prog 11 #[.slice A l.length c, t.val] w fun e w' => e = .returned (.bool (beyond l t)) ∧ Below w.heap.size w w' := by
  unfold maxLen at hn
  have hcall := fun (s : Tm) (W : World) => Lib.hid (ahead_any s t W)
  unfold Tm.val at hcall ⊢
  have Hl := Lib.hid hl
  clear hl
  go_enter Try.func11, Try.ntmps11
  go_wp2_with fail
  go_loopw [9] (fun i wr => ∃ k : Nat, i = .int .i64 (k : Int) ∧ k ≤ l.length ∧ beyond (l.take k) t = false ∧ Below w.heap.size w wr ∧ w.heap.size < wr.heap.size ∧ TmAt wr w.heap.size 0 t)
    (fun i _ => l.length - (intOf i).toNat)
  case atStart =>
    exact ⟨0, rfl, by omega, rfl, (Below.refl _ _).alloc (Nat.le_refl _) _, by simp, by simp [TmAt, go_sem]⟩
  case round =>
    obtain ⟨k, rfl, hk, hno, hb, hs, ht⟩ := hrel
    obtain ⟨t0, t1, t2⟩ := ht
    by_cases hlt : k < l.length
    · have hx : l[k]? = some l[k] := List.getElem?_eq_getElem hlt
      obtain ⟨b, o, rfl, hB, hc⟩ := Hl.out (by omega)
      obtain ⟨c0, c1, c2⟩ := (hc k _ hx).past hb hB
      have hsn := beyond_snoc (t := t) hx
      have hhit := fun h => beyond_hit (t := t) hx h
      generalize l[k] = s at *
      have hbs : b < w.heap.size := hB
      have HH := Lib.hid (And.intro hno (And.intro hsn (And.intro hhit (And.intro hx (And.intro hb (And.intro t0 (And.intro t1 t2)))))))
      clear hno hsn hhit hx hc hB hb
      by_cases hle : s.le t = true
      · have hcall := fun W => hcall s W
        simp only [hle] at hcall
        have HL := Lib.hid hle
        clear hle
        go_wp2_with fail
        refine (hcall _).out.mono ?_
        rintro e w1 ⟨rfl, h1⟩
        go_wp2_with fail
        go_ret
        obtain ⟨hno, hsn, hhit, hx, hb, t0, t1, t2⟩ := HH.out
        exact ⟨ret_bool (hhit HL.out).symm, hb.trans (((Below.refl _ _).alloc (by omega) _).trans (h1.mono (by simp; omega)))⟩
      · have hle : s.le t = false := by simpa using hle
        have hcall := fun W => hcall s W
        simp only [hle] at hcall
        have HL := Lib.hid hle
        clear hle
        go_wp2_with fail
        refine (hcall _).out.mono ?_
        rintro e w1 ⟨rfl, h1⟩
        go_wp2_with fail
        obtain ⟨hno, hsn, hhit, hx, hb, t0, t1, t2⟩ := HH.out
        have h2 : Below w.heap.size w w1 := hb.trans (((Below.refl _ _).alloc (by omega) _).trans (h1.mono (by simp; omega)))
        have h3 : Below wr.heap.size wr w1 := ((Below.refl _ _).alloc (Nat.le_refl _) _).trans (h1.mono (by simp))
        go_roundw
        case rel => exact ⟨k + 1, by go_num, by omega, by rw [hsn, hno, HL.out]; rfl, h2, by have := h3.size; omega, (TmAt.past ⟨t0, t1, t2⟩ h3 hs)⟩
        case measure => simp [intOf]; omega
    · have hk2 : k = l.length := by omega
      have HH := Lib.hid (And.intro hno (And.intro hb hk2))
      clear hno hb hk2
      go_wp2_with fail
      go_ret
      obtain ⟨hno, hb, rfl⟩ := HH.out
      exact ⟨ret_bool (by rw [← hno]; simp), hb⟩

set_option maxRecDepth 100000 in
set_option maxHeartbeats 800000 in
theorem refBeyond_any (A : Option Addr) (c : Nat) (l : List Tm) (t : Tm) (w : World) (hl : Times w w.heap.size A l) (hn : l.length ≤ maxLen) :
    Calls Try.prog 12 #[.slice A l.length c, t.val] w fun e w' => e = .returned (.bool (beyond l t)) ∧ Below w.heap.size w w' := by
  unfold maxLen at hn
  have hcall := fun (s : Tm) (W : World) => Lib.hid (refAhead_any s t W)
  unfold Tm.val at hcall ⊢
  have Hl := Lib.hid hl
  clear hl
  go_enter Try.func12, Try.ntmps12
  go_wp2_with fail
  go_loopw [9] (fun i wr => ∃ k : Nat, i = .int .i64 (k : Int) ∧ k ≤ l.length ∧ beyond (l.take k) t = false ∧ Below w.heap.size w wr ∧ w.heap.size < wr.heap.size ∧ TmAt wr w.heap.size 0 t)
    (fun i _ => l.length - (intOf i).toNat)
  case atStart =>
    exact ⟨0, rfl, by omega, rfl, (Below.refl _ _).alloc (Nat.le_refl _) _, by simp, by simp [TmAt, go_sem]⟩
  case round =>
    obtain ⟨k, rfl, hk, hno, hb, hs, ht⟩ := hrel
    obtain ⟨t0, t1, t2⟩ := ht
    by_cases hlt : k < l.length
    · have hx : l[k]? = some l[k] := List.getElem?_eq_getElem hlt
      obtain ⟨b, o, rfl, hB, hc⟩ := Hl.out (by omega)
      obtain ⟨c0, c1, c2⟩ := (hc k _ hx).past hb hB
      have hsn := beyond_snoc (t := t) hx
      have hhit := fun h => beyond_hit (t := t) hx h
      generalize l[k] = s at *
      have hbs : b < w.heap.size := hB
      have HH := Lib.hid (And.intro hno (And.intro hsn (And.intro hhit (And.intro hx (And.intro hb (And.intro t0 (And.intro t1 t2)))))))
      clear hno hsn hhit hx hc hB hb
      by_cases hle : s.le t = true
      · have hcall := fun W => hcall s W
        simp only [hle] at hcall
        have HL := Lib.hid hle
        clear hle
        go_wp2_with fail
        refine (hcall _).out.mono ?_
        rintro e w1 ⟨rfl, h1⟩
        go_wp2_with fail
        go_ret
        obtain ⟨hno, hsn, hhit, hx, hb, t0, t1, t2⟩ := HH.out
        exact ⟨ret_bool (hhit HL.out).symm, hb.trans (((Below.refl _ _).alloc (by omega) _).trans (h1.mono (by simp; omega)))⟩
      · have hle : s.le t = false := by simpa using hle
        have hcall := fun W => hcall s W
        simp only [hle] at hcall
        have HL := Lib.hid hle
        clear hle
        go_wp2_with fail
        refine (hcall _).out.mono ?_
        rintro e w1 ⟨rfl, h1⟩
        go_wp2_with fail
        obtain ⟨hno, hsn, hhit, hx, hb, t0, t1, t2⟩ := HH.out
        have h2 : Below w.heap.size w w1 := hb.trans (((Below.refl _ _).alloc (by omega) _).trans (h1.mono (by simp; omega)))
        have h3 : Below wr.heap.size wr w1 := ((Below.refl _ _).alloc (Nat.le_refl _) _).trans (h1.mono (by simp))
        go_roundw
        case rel => exact ⟨k + 1, by go_num, by omega, by rw [hsn, hno, HL.out]; rfl, h2, by have := h3.size; omega, (TmAt.past ⟨t0, t1, t2⟩ h3 hs)⟩
        case measure => simp [intOf]; omega
    · have hk2 : k = l.length := by omega
      have HH := Lib.hid (And.intro hno (And.intro hb hk2))
      clear hno hb hk2
      go_wp2_with fail
      go_ret
      obtain ⟨hno, hb, rfl⟩ := HH.out
      exact ⟨ret_bool (by rw [← hno]; simp), hb⟩
end Go.Proofs.Ytfhlgdidobecaaa
