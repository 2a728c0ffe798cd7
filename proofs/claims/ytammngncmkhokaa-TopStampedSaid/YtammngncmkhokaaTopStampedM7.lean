/- Part 7 of the texts on which TopStamped rests: facts and contracts. -/
import Derived.Test.YtammngncmkhokaaTopStampedM6
import Derived.StillTail
import Derived.Deep.Quiet
import Derived.Deep.QuietTactic
import Derived.BigQuiet
import Derived.Lib.MinMax
import Derived.OneCell
import Derived.Test.YtammngncmkhokaaProg
import Derived.Outline
import Derived.Deep.RegionHeld3
namespace Go.Proofs.Ytammngncmkhokaa
open Go Go.RowKit

section
variable {P : Program} {ops : Array Oper} {md : Region.Mode} {C : World → Prop}
def wpAnyT (P : Program) (md : Region.Mode) (ops : Array Oper) (C : World → Prop) (n : Nat) (L : Array Bool → Act → Prop) : Nat → Array Bool → Act → Prop
  | 0, listed, a => L listed a
  | f + 1, listed, a =>
    Region.ready md ops listed ≠ [] ∧ ∀ i ∈ Region.ready md ops listed, i < n ∧ qOp P ops C i (wpAnyT P md ops C n L f (listed.setIfInBounds i true)) a
theorem wpAny_of_headT {n g : Nat} {L : Array Bool → Act → Prop} {Q' : Exit → Act → World → Prop} (hL : ∀ listed a w, C w → L listed a → wpAny P md ops Q' g listed a w) :
    ∀ (f : Nat) (listed : Array Bool) (a : Act) (w : World), C w → wpAnyT P md ops C n L f listed a → wpAny P md ops Q' (f + g) listed a w
  | 0, listed, a, w, hw, h => by rw [Nat.zero_add]; exact hL _ _ _ hw h
  | f + 1, listed, a, w, hw, h => by
    rw [show f + 1 + g = (f + g) + 1 by omega]
    exact ⟨fun h0 => absurd h0 h.1, fun i hi => wpOp_of_qOp hw (fun a' w' hw' h' => wpAny_of_headT hL f _ a' w' hw' h') (h.2 i hi).2⟩
theorem wpAnyT_first {n i : Nat} {oi : Oper} {v : Value} {L : Array Bool → Act → Prop} (hi : ops[i]? = some oi) (hsel : ∀ (j : Nat) (o : Oper) cs b, ops[j]? = some o → o.op ≠ .select cs b)
    (hs : Region.sinkB md ops n = true) (hc : Region.chainB md ops n = true) (hn : n < ops.size) (hin : i < n)
    (hdone : ∀ listed a, L listed a → ∀ j ∈ Region.ready md ops listed, n ≤ j) :
    ∀ (f : Nat) (listed : Array Bool) (a : Act), HeadInv md ops n listed →
      (∀ j oj, ops[j]? = some oj → j ≠ i → listed.getD j true = false → (∀ e ∈ oj.after, Region.binds md e = true → e.on ≠ i) → oi.apart ops oj = true) →
      i ∈ Region.ready md ops listed → YieldsIn P ops C oi v a →
      wpAnyT P md ops C n L f (listed.setIfInBounds i true) (a.put oi.dst v) → wpAnyT P md ops C n L (f + 1) listed a := by
  intro f
  induction f with
  | zero =>
    intro listed a inv _ hr hy H
    have hun := (mem_ready.1 hr).1
    refine ⟨fun h => (by rw [h] at hr; cases hr), fun j hj => ?_⟩
    have hjn : j < n := by
      rcases Nat.lt_or_ge j n with h | h
      · exact h
      · exact absurd hj (tail_waits hs hc hn inv _ i rfl hin hun j h)
    refine ⟨hjn, ?_⟩
    by_cases hji : j = i
    · subst hji; exact hy.qOp hi H
    · have := hdone _ _ H j (ready_mono hj hji)
      omega
  | succ f ih =>
    intro listed a inv hfree hr hy H
    have hun := (mem_ready.1 hr).1
    refine ⟨fun h => (by rw [h] at hr; cases hr), fun j hj => ?_⟩
    have hjn : j < n := by
      rcases Nat.lt_or_ge j n with h | h
      · exact h
      · exact absurd hj (tail_waits hs hc hn inv _ i rfl hin hun j h)
    refine ⟨hjn, ?_⟩
    by_cases hji : j = i
    · subst hji; exact hy.qOp hi H
    · have h1 := (H.2 j (ready_mono hj hji)).2
      obtain ⟨hjun, oj, hoj, hall⟩ := mem_ready.1 hj
      have hnot : ∀ e ∈ oj.after, Region.binds md e = true → e.on ≠ i := fun e he hb heq => by
        have h1 := hall e he hb
        rw [heq, getD_both hun] at h1
        cases h1
      have h2 := qOp_put hoj (hfree j oj hoj hji hjun hnot) (fun cs b => hsel i oi cs b hi) (fun cs b => hsel j oj cs b hoj) hy h1
      have hfree' : ∀ k ok, ops[k]? = some ok → k ≠ i → (listed.setIfInBounds j true).getD k true = false →
          (∀ e ∈ ok.after, Region.binds md e = true → e.on ≠ i) → oi.apart ops ok = true := fun k ok hk hki hun hno => by
        refine hfree k ok hk hki ?_ hno
        by_cases hjk : j = k
        · subst hjk; exact hjun
        · rw [getD_set_ne true hjk] at hun; exact hun
      refine qOp_mono (fun a' h3 => ih (listed.setIfInBounds j true) a' (inv.set hj hjn) hfree' (ready_mono hr (Ne.symm hji)) h3.1 ?_) h2
      rw [Array.setIfInBounds_comm _ _ hji]
      exact h3.2
theorem wpAnyT_lex {n g : Nat} {Lq : Act → Prop} (hsel : Region.noSelect ops = true) (hs : Region.sinkB md ops n = true) (hc : Region.chainB md ops n = true) (hn : n < ops.size) :
    ∀ (l : List Oper) (k : Nat) (listed : Array Bool) (a : Act), (∀ j, j < l.length → l[j]? = ops[k + j]?) → k + l.length = n → HeadInv md ops n listed →
    Region.lexHead md ops g l.length k listed = true → wpQuiet P ops C Lq l a →
    wpAnyT P md ops C n (fun listed' a' => Region.seqB md ops g n listed' = true ∧ Lq a') l.length listed a
  | [], k, listed, a, _, hk, _, hB, h => by
    have : k = n := by simpa using hk
    subst this
    exact ⟨by simpa [Region.lexHead] using hB, h⟩
  | o :: l, k, listed, a, hl, hk, inv, hB, h => by
    have h0 : ops[k]? = some o := by simpa using (hl 0 (by simp)).symm
    simp only [List.length_cons, Region.lexHead, Bool.and_eq_true] at hB
    obtain ⟨⟨hr, hf⟩, hB'⟩ := hB
    have hkn : k < n := by simp only [List.length_cons] at hk; omega
    have hr' : k ∈ Region.ready md ops listed := by simpa using hr
    have hst : qOp P ops C k (wpQuiet P ops C Lq l) a := by unfold qOp; simp only [h0]; exact h
    obtain ⟨v, hy, hK⟩ := yieldsIn_of_qOp h0 hst
    exact wpAnyT_first h0 (Region.noSelect_spec hsel) hs hc hn hkn (fun listed' a' hL => seqB_ready hL.1) l.length listed a inv (Region.free_spec h0 hf) hr' hy
      (wpAnyT_lex hsel hs hc hn l (k + 1) _ _ (fun j hj => by have := hl (j + 1) (by simp; omega); simpa [Nat.add_assoc, Nat.add_comm 1 j] using this) (by simp only [List.length_cons] at hk; omega) (inv.set hr' hkn) hB' hK)
theorem wp_region_quiet_tail {id : Nat} {Q : Exit → Act → World → Prop} {a : Act} {w : World} {l : List Oper} (n : Nat) (hm : P.follows .mixedOrders = true) (hB : Region.lexTailB .any l.toArray n = true) (hC : C { w with drawn := w.drawn + 1 })
    (h : wpQuiet P l.toArray C (fun a' => ∀ w', C w' → wpList P l.toArray Q (l.drop n) a' w') (l.take n) a) : (Code.region id l.toArray true).wp P Q a w := by
  simp only [Region.lexTailB, Bool.and_eq_true, decide_eq_true_eq] at hB
  obtain ⟨⟨⟨⟨hsel, hn⟩, hs⟩, hc⟩, hlex⟩ := hB
  have hn' : n < l.length := by simpa using hn
  have htl : (l.take n).length = n := by simp; omega
  have hdl : (l.drop n).length = l.toArray.size - n := by simp
  have inv0 : HeadInv .any l.toArray n (Array.replicate l.toArray.size false) :=
    ⟨by simp, fun j oj _ hl => (by rw [getD_replicate_false] at hl; cases hl), fun t _ ht => getD_in (by simpa using ht) (getD_replicate_false _ _)⟩
  have H := wpAnyT_lex (md := .any) (g := l.toArray.size - n) hsel hs hc hn (l.take n) 0 _ a (fun j hj => by
    have hj' : j < n := by rw [htl] at hj; exact hj
    simp [hj']) (by simpa using htl) inv0 (by rw [htl]; exact hlex) h
  refine wp_region_any hm ?_
  have := wpAny_of_headT (Q' := Q) (g := l.toArray.size - n) (C := C) (fun listed a' w' hw' hL => by
    have := wpAny_of_seq (Q' := Q) (l.drop n) n listed a' w' (fun j => by simp) (by rw [hdl]; exact hL.1) (hL.2 w' hw')
    rwa [hdl] at this) _ _ _ _ hC H
  rw [htl, show n + (l.toArray.size - n) = l.toArray.size by omega] at this
  exact this
end
theorem wp_region_past_tail {P : Program} {id : Nat} {Q : Exit → Act → World → Prop} {a : Act} {w : World} {l : List Oper} (V : World) (n : Nat) (hm : P.follows .mixedOrders = true) (hB : Region.lexTailB .any l.toArray n = true) (hV : Below V.heap.size V w)
    (h : wpQuiet P l.toArray (fun w' => ∃ p : Past V, w' = p.w) (fun a' => ∀ w', (∃ p : Past V, w' = p.w) → wpList P l.toArray Q (l.drop n) a' w') (l.take n) a) : (Code.region id l.toArray true).wp P Q a w :=
  wp_region_quiet_tail (C := fun w' => ∃ p : Past V, w' = p.w) n hm hB ⟨⟨_, hV.drew⟩, rfl⟩ h
end Go.Proofs.Ytammngncmkhokaa
namespace Go.Proofs.Ytammngncmkhokaa
open Go Go.RowKit

theorem lies_take {w : World} {B : Nat} {A : Option Addr} {l : List Wr} {q : Nat} (h : Lies 4 Wr.cells w B A l) : Lies 4 Wr.cells w B A (l.take q) := fun hp => by
  have hl : 0 < l.length := by rw [List.length_take] at hp; omega
  obtain ⟨b, o, e, hb, hc⟩ := h hl
  refine ⟨b, o, e, hb, fun i x hi j u hj => hc i x ?_ j u hj⟩
  rw [List.getElem?_take] at hi
  split at hi
  · exact hi
  · cases hi
theorem visbox (w : World) : Below w.heap.size w (w.alloc (.cells #[.slice none 0 0, .int .i64 0] 83)).drew ∧ Own (w.alloc (.cells #[.slice none 0 0, .int .i64 0] 83)).drew w.heap.size 83 [.slice none 0 0, .int .i64 0] :=
  ⟨Below.drew ((Below.refl _ _).alloc (Nat.le_refl _) _), Own.made w _ _⟩
def CrashMid (w1 wx : World) (G : Nat) (m : List Fl) (b : Nat) : Prop :=
  ∃ A c l, VisAt wx w1.heap.size G 0 83 [.slice A l.length c, .int .i64 (szF (flV l) : Int)] A c l ∧ flV l = m ∧ wtV l ≤ b ∧ Below w1.heap.size w1 wx ∧ w1.heap.size ≤ G
theorem left_eq {x : Dl} {keep tear : Int} {q : Nat} (hq : q = keepN keep x.waits.length) : leftD x.d keep tear = tornF (lookF x.files (x.waits.take q)) x.waits[q]? tear := by
  rw [hq]; rfl
def CrashEnd (w wx w1 : World) (G : Nat) (x : Dl) (keep tear : Int) : Prop :=
  ∃ A c l cs, VisAt wx w1.heap.size G 0 83 cs A c l ∧ flV l = leftD x.d keep tear ∧ Own wx w.heap.size 44 x.cells ∧ Own wx (w.heap.size + 1) 44 zero5 ∧ Below w.heap.size w wx ∧ w1.heap.size ≤ G
theorem crash_mid1 {w1 W w2 : World} {A : Option Addr} {c b b' : Nat} {l : List Vf} {m : List Fl} (bW : Below w1.heap.size w1 W) (ob : Own w2 w1.heap.size 83 [.slice none 0 0, .int .i64 0]) (hv : Vis w2 W.heap.size A c l) (hfl : flV l = m) (hs : SortedN (namesV l)) (hwt : wtV l ≤ b') (hB : Below W.heap.size W w2) (hb : b ≤ 1099511627776) (hbb : b' ≤ b) (hin : w1.heap.size < W.heap.size := by simp) :
    CrashMid w1 ((w2.setCell ⟨w1.heap.size, 0, none⟩ (.slice A l.length c)).setCell ⟨w1.heap.size, 1, none⟩ (.int .i64 (szF (flV l) : Int))) w1.heap.size m b := by
  have kk : Kept w2 ((w2.setCell ⟨w1.heap.size, 0, none⟩ (.slice A l.length c)).setCell ⟨w1.heap.size, 1, none⟩ (.int .i64 (szF (flV l) : Int))) (fun k => k = w1.heap.size) := ((Kept.refl w2 (fun k => k = w1.heap.size)).set_ (.inl rfl) _).set_ (.inl rfl) _
  have hb2 : Below w1.heap.size w1 w2 := bW.trans (hB.mono bW.size)
  refine ⟨A, c, l, ⟨(ob.set_ 0 _).set_ 1 _, rfl, rfl, (hv.kept kk (fun k e he => by have := (hv.lt k e).1; omega)).lower (by omega), fun e => by have := (hv.lt _ e).1; omega, hs, by omega, Nat.le_trans hb2.size kk.size⟩, hfl, by omega, hb2.trans (kk.below (fun k e => by omega) hb2.size), Nat.le_refl _⟩
theorem crash_mid2 {w1 w2 : World} {A : Option Addr} {c b b' : Nat} {l : List Vf} {m : List Fl} (hv : Vis w2 w1.heap.size A c l) (hfl : flV l = m) (hs : SortedN (namesV l)) (hwt : wtV l ≤ b') (hB : Below w1.heap.size w1 w2) (hb : b ≤ 1099511627776) (hbb : b' ≤ b) :
    CrashMid w1 (w2.alloc (.cells #[.slice A l.length c, .int .i64 (szF (flV l) : Int)] 83)) w2.heap.size m b := by
  obtain ⟨V, hV, h1, h2, h3, h4⟩ := looked_box 83 hv hs hwt (by omega) hB
  rw [← hV]
  exact ⟨A, c, l, h4, hfl, by omega, h1, hB.size⟩
end Go.Proofs.Ytammngncmkhokaa
namespace Go.Proofs.Ytammngncmkhokaa
open Go Go.RowKit

def nA : ByteArray := ⟨#[97]⟩
def nB : ByteArray := ⟨#[98]⟩
def nC : ByteArray := ⟨#[99]⟩
def tX : ByteArray := ⟨#[120]⟩
def tYZ : ByteArray := ⟨#[121, 122]⟩
def tXYZ : ByteArray := ⟨#[120, 121, 122]⟩
def tXY : ByteArray := ⟨#[120, 121]⟩
def t7 : ByteArray := ⟨#[49, 50, 51, 52, 53, 54, 55]⟩
def e0 : ByteArray := ⟨#[]⟩
def wA : Wr := ⟨1, nA, e0, tX⟩
def wB : Wr := ⟨1, nA, e0, tYZ⟩
def wC : Wr := ⟨2, nA, nB, e0⟩
def wD : Wr := ⟨1, nC, e0, t7⟩
def k0 : Dk := ⟨[], [], 9, false, -1⟩
def k1 : Dk := ⟨[], [wA], 9, false, -1⟩
def k2 : Dk := ⟨[⟨nA, tX⟩], [], 9, false, -1⟩
def k3 : Dk := ⟨[⟨nA, tX⟩], [wB, wC], 9, false, -1⟩
def k4 : Dk := ⟨[⟨nA, tXY⟩], [], 9, false, -1⟩
theorem lv1 : doD k0 [wA] = (k1, 0) := by kernel_rfl
theorem lv2 : syncD k1 = (k2, 0) := by kernel_rfl
theorem lv3 : doD k2 [wB, wC] = (k3, 0) := by kernel_rfl
theorem lv4 : readD k3 nB = (tXYZ, 0) := by kernel_rfl
theorem lv5 : crashD k3 0 1 = (k4, 0) := by kernel_rfl
theorem lv6 : readD k4 nA = (tXY, 0) := by kernel_rfl
theorem lv7 : (doD k3 [wD]).2 = 9 := by kernel_rfl
end Go.Proofs.Ytammngncmkhokaa
namespace Go.Proofs.Ytammngncmkhokaa
open Go Go.RowKit

theorem lies4_own {W : World} {G : Nat} {t : TypeId} {l : List Wr} (h : Own W G t (l.flatMap Wr.cells)) : Lies 4 Wr.cells W W.heap.size (some ⟨G, 0, none⟩) l := fun _ =>
  ⟨G, 0, rfl, h.inside, fun i x hi j u hj => by rw [show 0 + i * 4 + j = i * 4 + j by omega, h.at_]; exact flat_of (size := 4) (cells := Wr.cells) (fun _ => rfl) l i j x u hi hj⟩
structure DTold (k : Dk) (n : Nat) : Prop where
  wt : wtD k + n ≤ 1099511627776
  fuse : -9223372036854775808 ≤ k.fuse ∧ k.fuse ≤ 9223372036854775807
theorem DTold.ok {y : Dl} {k : Dk} {n : Nat} (h : DTold k n) (e : y.d = k) : DOk y := by
  subst e; exact ⟨by have := h.wt; omega, h.fuse⟩
/-- a disk told and an error, handed back -/
def Gv (w w' : World) (e : Ending) (k : Dk) (n : Int) : Prop :=
  Below w.heap.size w w' ∧ ∃ z : Dl, e = .returned (.tuple #[.agg #[.slice z.fA z.files.length z.fc, .slice z.wA z.waits.length z.wc, .int .i64 z.room, .bool z.down, .int .i64 z.fuse], .int .i64 n]) ∧ z.d = k ∧ DIn w' w'.heap.size z
theorem do_at {W : World} {y : Dl} {k k' : Dk} {n : Int} {ws : List Wr} {B : Option Addr} (c : Nat) (hd : DIn W W.heap.size y) (hk : y.d = k) (hs : doD k ws = (k', n)) (hws : Lies 4 Wr.cells W W.heap.size B ws) (ht : DTold k (wtW ws)) :
    RowKit.Hid (Calls Try.prog 12 #[.agg #[.slice y.fA y.files.length y.fc, .slice y.wA y.waits.length y.wc, .int .i64 y.room, .bool y.down, .int .i64 y.fuse], .slice B ws.length c] W fun e w' => Gv W w' e k' n) := by
  subst hk
  have h := do_any y B c ws W hd hws (ht.ok rfl) ht.wt
  rw [hs] at h
  exact Lib.hid h
theorem read_at {W : World} {y : Dl} {k : Dk} {n : Int} {s : ByteArray} (a : ByteArray) (hd : DIn W W.heap.size y) (hk : y.d = k) (hs : readD k a = (s, n)) (ht : DTold k 0) :
    RowKit.Hid (Calls Try.prog 13 #[.agg #[.slice y.fA y.files.length y.fc, .slice y.wA y.waits.length y.wc, .int .i64 y.room, .bool y.down, .int .i64 y.fuse], .string a] W fun e w' => e = .returned (.tuple #[.string s, .int .i64 n]) ∧ Below W.heap.size W w') := by
  subst hk
  have h := dread_any y a W hd (ht.ok rfl)
  rw [hs] at h
  exact Lib.hid h
/-- the same, in new memory -/
def GvN (w w' : World) (e : Ending) (k : Dk) (n : Int) : Prop :=
  Below w.heap.size w w' ∧ ∃ z : Dl, e = .returned (.tuple #[.agg #[.slice z.fA z.files.length z.fc, .slice z.wA z.waits.length z.wc, .int .i64 z.room, .bool z.down, .int .i64 z.fuse], .int .i64 n]) ∧ z.d = k ∧ DIn w' w'.heap.size z ∧ NewD w.heap.size z
theorem do_atN {W : World} {y : Dl} {k k' : Dk} {n : Int} {ws : List Wr} {B : Option Addr} (c : Nat) (hd : DIn W W.heap.size y) (hk : y.d = k) (hs : doD k ws = (k', n)) (hws : Lies 4 Wr.cells W W.heap.size B ws) (ht : DTold k (wtW ws)) :
    RowKit.Hid (Calls Try.prog 12 #[.agg #[.slice y.fA y.files.length y.fc, .slice y.wA y.waits.length y.wc, .int .i64 y.room, .bool y.down, .int .i64 y.fuse], .slice B ws.length c] W fun e w' => GvN W w' e k' n) := by
  subst hk
  have h := do_anyN y B c ws W hd hws (ht.ok rfl) ht.wt
  rw [hs] at h
  exact Lib.hid h
/-- what lies as files or writes lies in no variable of a disk -/
theorem off_files {w : World} {B G : Nat} {t : TypeId} {y : Dl} {A : Option Addr} {l : List Fl} (h : Lies 2 Fl.cells w B A l) (o : Own w G t y.cells) : 0 < l.length → ∀ b q, A = some ⟨b, q, none⟩ → b ≠ G := fun hp b q e hb => by
  subst hb
  obtain ⟨b', q', e', _, hc⟩ := h hp
  rw [e] at e'
  obtain ⟨rfl, rfl⟩ : b = b' ∧ q = q' := by
    injection e' with e'; injection e' with e1 e2; exact ⟨e1, e2⟩
  have h0 := hc 0 l[0] (List.getElem?_eq_getElem hp) 0 _ rfl
  rw [o.at_] at h0
  unfold Dl.cells at h0
  match q, h0 with
  | 0, h0 => cases h0
  | 1, h0 => cases h0
  | 2, h0 => cases h0
  | 3, h0 => cases h0
  | 4, h0 => cases h0
  | q + 5, h0 => simp at h0
theorem off_waits {w : World} {B G : Nat} {t : TypeId} {y : Dl} {A : Option Addr} {l : List Wr} (h : Lies 4 Wr.cells w B A l) (o : Own w G t y.cells) : 0 < l.length → ∀ b q, A = some ⟨b, q, none⟩ → b ≠ G := fun hp b q e hb => by
  subst hb
  obtain ⟨b', q', e', _, hc⟩ := h hp
  rw [e] at e'
  obtain ⟨rfl, rfl⟩ : b = b' ∧ q = q' := by
    injection e' with e'; injection e' with e1 e2; exact ⟨e1, e2⟩
  have h0 := hc 0 l[0] (List.getElem?_eq_getElem hp) 0 _ rfl
  rw [o.at_] at h0
  unfold Dl.cells at h0
  match q, h0 with
  | 0, h0 => cases h0
  | 1, h0 => cases h0
  | 2, h0 => cases h0
  | 3, h0 => cases h0
  | 4, h0 => cases h0
  | q + 5, h0 => simp at h0
theorem kept_cell {w w' : World} {S : Nat → Prop} {b q : Nat} {u : Value} (k : Kept w w' S) (hn : ¬ S b) (hb : b < w.heap.size) (h : w.cell? ⟨b, q, none⟩ = some u) : w'.cell? ⟨b, q, none⟩ = some u := by
  have e := k.block b hb hn
  unfold World.cell? at h ⊢
  dsimp only at h ⊢
  rw [e]; exact h
/-- a variable that holds a disk, another one stored to it -/
theorem var_set {w : World} {G : Nat} {y z : Dl} (o : Own w G 44 y.cells) (h : DIn w w.heap.size z) :
    ∃ W, W = ((((w.setCell ⟨G, 0, none⟩ (.slice z.fA z.files.length z.fc)).setCell ⟨G, 1, none⟩ (.slice z.wA z.waits.length z.wc)).setCell ⟨G, 2, none⟩ (.int .i64 z.room)).setCell ⟨G, 3, none⟩ (.bool z.down)).setCell ⟨G, 4, none⟩ (.int .i64 z.fuse) ∧
      Own W G 44 z.cells ∧ DIn W W.heap.size z ∧ (∀ B, B ≤ G → Below B w W) := by
  have k := set5_kept w G (.slice z.fA z.files.length z.fc) (.slice z.wA z.waits.length z.wc) (.int .i64 z.room) (.bool z.down) (.int .i64 z.fuse)
  have oE := set5_own o (.slice z.fA z.files.length z.fc) (.slice z.wA z.waits.length z.wc) (.int .i64 z.room) (.bool z.down) (.int .i64 z.fuse)
  refine ⟨_, rfl, oE, ⟨fun hp => ?_, fun hp => ?_, h.cap⟩, fun B hB => k.below (fun b e => by omega) (by have := o.inside; omega)⟩
  · obtain ⟨b, q, e, hb, hc⟩ := h.files hp
    exact ⟨b, q, e, Nat.lt_of_lt_of_le hb k.size, fun i x hi j u hj => kept_cell k (off_files h.files o hp b q e) hb (hc i x hi j u hj)⟩
  · obtain ⟨b, q, e, hb, hc⟩ := h.waits hp
    exact ⟨b, q, e, Nat.lt_of_lt_of_le hb k.size, fun i x hi j u hj => kept_cell k (off_waits h.waits o hp b q e) hb (hc i x hi j u hj)⟩
theorem var_new {w : World} {z : Dl} (h : DIn w w.heap.size z) :
    ∃ W, W = w.alloc (.cells #[.slice z.fA z.files.length z.fc, .slice z.wA z.waits.length z.wc, .int .i64 z.room, .bool z.down, .int .i64 z.fuse] 44) ∧
      Own W w.heap.size 44 z.cells ∧ DIn W W.heap.size z ∧ Below w.heap.size w W := by
  obtain ⟨W, hW, hb, _, o⟩ := dbox w z
  exact ⟨W, hW, o, h.keep hb, hb⟩
end Go.Proofs.Ytammngncmkhokaa
namespace Go.Proofs.Ytammngncmkhokaa
open Go.RowKit

/-- the register shifted by one bit -/
def bitS (c : Nat) : Nat := if c % 2 = 1 then c / 2 ^^^ 2197175160 else c / 2
def bitsS : Nat → Nat → Nat
  | 0, c => c
  | n + 1, c => bitsS n (bitS c)
/-- a byte taken in -/
def byteS (c b : Nat) : Nat := bitsS 8 (c ^^^ b)
def regS (c : Nat) (l : List UInt8) : Nat := l.foldl (fun c b => byteS c b.toNat) c
/-- the checksum -/
def sumS (l : List UInt8) : Nat := 4294967295 - regS 4294967295 l

theorem xor_lt {a b : Nat} (ha : a < 4294967296) (hb : b < 4294967296) : a ^^^ b < 4294967296 := Nat.xor_lt_two_pow (n := 32) ha hb
theorem bitS_lt {c : Nat} (h : c < 4294967296) : bitS c < 4294967296 := by
  unfold bitS; split
  · exact xor_lt (by omega) (by omega)
  · omega
theorem bitsS_lt : ∀ (n c : Nat), c < 4294967296 → bitsS n c < 4294967296
  | 0, _, h => h
  | n + 1, _, h => bitsS_lt n _ (bitS_lt h)
theorem bitsS_succ : ∀ (n c : Nat), bitsS (n + 1) c = bitS (bitsS n c)
  | 0, _ => rfl
  | n + 1, c => by rw [bitsS, bitsS_succ n, ← bitsS]
theorem byteS_lt {c b : Nat} (hc : c < 4294967296) (hb : b < 256) : byteS c b < 4294967296 := bitsS_lt 8 _ (xor_lt hc (by omega))
theorem regS_lt : ∀ (l : List UInt8) (c : Nat), c < 4294967296 → regS c l < 4294967296
  | [], _, h => h
  | b :: l, c, h => regS_lt l _ (byteS_lt h b.toNat_lt)
theorem sumS_lt (l : List UInt8) : sumS l < 4294967296 := by unfold sumS; omega
theorem regS_snoc (c : Nat) (l : List UInt8) (b : UInt8) : regS c (l ++ [b]) = byteS (regS c l) b.toNat := by simp [regS]
theorem take_snoc (s : ByteArray) (k : Nat) (h : k < s.size) : s.data.toList.take (k + 1) = s.data.toList.take k ++ [s[k]] := by
  rw [List.take_succ_eq_append_getElem (by simpa using h)]; rfl
theorem regS_at (s : ByteArray) (k : Nat) (h : k < s.size) : regS 4294967295 (s.data.toList.take (k + 1)) = byteS (regS 4294967295 (s.data.toList.take k)) s[k].toNat := by
  rw [take_snoc s k h, regS_snoc]

theorem xor_walk {a b : Nat} (ha : a < 4294967296) (hb : b < 4294967296) : bits .xor .u32 (a : Int) (b : Int) = ((a ^^^ b : Nat) : Int) := u32_xor_nat a b ha hb
theorem and1_walk {a : Nat} (ha : a < 4294967296) : bits .and .u32 (a : Int) 1 = ((a % 2 : Nat) : Int) := by
  have := u32_and_nat a 1 ha (by omega)
  rw [Nat.and_one_is_mod] at this
  exact this
theorem bitS_odd {c : Nat} (h : c % 2 = 1) : bitS c = c / 2 ^^^ 2197175160 := by unfold bitS; rw [if_pos h]
theorem bitS_even {c : Nat} (h : ¬ c % 2 = 1) : bitS c = c / 2 := by unfold bitS; rw [if_neg h]
theorem grown_set {w w' : World} {b : Nat} (h : w.grownBy w' (some b)) (o : Nat) (v : Value) : w.grownBy (w'.setCell ⟨b, o, none⟩ v) (some b) :=
  ⟨h.os, h.tape, h.output, by simpa [World.setCell] using h.size, fun k hk hne => (Below.heap_setCell _ _ _ _ (by rintro rfl; exact hne rfl)).trans (h.block k hk hne)⟩
theorem grown_same {a b c : World} {r : Option Nat} (h : a.grownBy b r) (k : b.grownBy c r) : a.grownBy c r :=
  ⟨k.os.trans h.os, k.tape.trans h.tape, k.output.trans h.output, Nat.le_trans h.size k.size, fun i hi hne => (k.block i (Nat.lt_of_lt_of_le hi h.size) hne).trans (h.block i hi hne)⟩
theorem not_nat {d : Nat} (h : d < 4294967296) : 4294967295 ^^^ d = 4294967295 - d := by
  have h1 : (~~~ (BitVec.ofNat 32 d)).toNat = 4294967295 - d := by
    rw [BitVec.toNat_not, BitVec.toNat_ofNat, Nat.mod_eq_of_lt h]
  have h2 : ~~~ (BitVec.ofNat 32 d) = BitVec.allOnes 32 ^^^ BitVec.ofNat 32 d := by
    rw [BitVec.allOnes_xor]
  rw [h2, BitVec.toNat_xor, BitVec.toNat_allOnes, BitVec.toNat_ofNat, Nat.mod_eq_of_lt h] at h1
  exact h1
theorem not_walk {d : Nat} (h : d < 4294967296) : bits .xor .u32 IntKind.u32.max (d : Int) = ((4294967295 - d : Nat) : Int) := by
  rw [← not_nat h]
  exact xor_walk (a := 4294967295) (by omega) h
end Go.Proofs.Ytammngncmkhokaa
namespace Go.Proofs.Ytammngncmkhokaa
open Go.RowKit

/-- block b is the register alone -/
def IsReg (w : World) (b c : Nat) : Prop := w.heap[b]? = some (.cells #[.int .u32 (c : Int)] 90 (0, 0))

set_option maxRecDepth 100000 in
set_option maxHeartbeats 400000 in
theorem step_any (b c x : Nat) (w : World) (hr : IsReg w b c) (hc : c < 4294967296) (hx : x < 256) :
    Calls Try.prog 36 #[.pointer (some ⟨b, 0, none⟩), .int .u8 (x : Int)] w fun e w' => e = .returned (.tuple #[]) ∧ IsReg w' b (byteS c x) ∧ w.grownBy w' (some b) := by
  have hcell := cell_of_one hr
  have hfree := free_of_one hr
  have hxor := xor_walk hc (show x < 4294967296 by omega)
  go_enter Try.func36, Try.ntmps36
  go_wp2
  have h0 : c ^^^ x < 4294967296 := xor_lt hc (by omega)
  go_loopw [12] (fun i wr => ∃ k : Nat, k ≤ 8 ∧ i = .int .i64 (k : Int) ∧ IsReg wr b (bitsS k (c ^^^ x)) ∧ w.grownBy wr (some b)) (fun i _ => 8 - (intOf i).toNat)
  case atStart => exact ⟨0, by omega, rfl, one_setCell hr, grown_set (World.grownBy.refl w _) _ _⟩
  case round =>
    obtain ⟨k, hk, rfl, hr', hg⟩ := hrel
    clear hcell hfree hxor
    have hlt := bitsS_lt k _ h0
    have hs := bitsS_succ k (c ^^^ x)
    have Hr := Lib.hid hr'
    generalize hd : bitsS k (c ^^^ x) = d at hr' hlt hs
    have Hd := Lib.hid hd; clear hd
    have hcell := cell_of_one hr'
    have hfree := free_of_one hr'
    have hand := and1_walk hlt
    have hxor : bits .xor .u32 ((d : Int) / 2) 2197175160 = ((d / 2 ^^^ 2197175160 : Nat) : Int) := xor_walk (show d / 2 < 4294967296 by omega) (show 2197175160 < 4294967296 by omega)
    have Hs := Lib.hid hs; clear hs
    by_cases h8 : k < 8
    · by_cases ho : d % 2 = 1
      · have ht : (((d : Int) % 2) == 1) = true := by simp; omega
        have hs := Lib.hid (Hs.out.trans (bitS_odd ho))
        go_wp2
        go_roundw
        case rel => exact ⟨k + 1, by omega, by go_num, by rw [hs.out]; exact one_setCell (one_setCell hr'), grown_set (grown_set hg _ _) _ _⟩
        case measure => simp [intOf]; omega
      · have ht : (((d : Int) % 2) == 1) = false := by simp; omega
        have hs := Lib.hid (Hs.out.trans (bitS_even ho))
        go_wp2
        go_roundw
        case rel => exact ⟨k + 1, by omega, by go_num, by rw [hs.out]; exact one_setCell hr', grown_set hg _ _⟩
        case measure => simp [intOf]; omega
    · obtain rfl : k = 8 := by omega
      go_wp2
      go_end0
      exact ⟨rfl, Hr.out, hg⟩

set_option maxRecDepth 100000 in
set_option maxHeartbeats 400000 in
theorem each_any (b : Nat) (s : ByteArray) (w : World) (hr : IsReg w b 4294967295) (hs : s.size ≤ maxLen) :
    Calls Try.prog 35 #[.string s, .func (.func 36) #[.pointer (some ⟨b, 0, none⟩)] #[]] w fun e w' => e = .returned (.tuple #[]) ∧ IsReg w' b (regS 4294967295 s.data.toList) ∧ w.grownBy w' (some b) := by
  unfold maxLen at hs
  go_enter Try.func35, Try.ntmps35
  go_wp2
  go_loopw [7] (fun i wr => ∃ k : Nat, k ≤ s.size ∧ i = .int .i64 (k : Int) ∧ IsReg wr b (regS 4294967295 (s.data.toList.take k)) ∧ w.grownBy wr (some b)) (fun i _ => s.size - (intOf i).toNat)
  case atStart => exact ⟨0, by omega, rfl, hr, World.grownBy.refl w _⟩
  case round =>
    obtain ⟨k, hk, rfl, hr', hg⟩ := hrel
    have hlt := regS_lt (s.data.toList.take k) 4294967295 (by omega)
    by_cases hk' : k < s.size
    · have Hs := Lib.hid (regS_at s k hk')
      have Hr := Lib.hid hr'; clear hr'
      generalize regS 4294967295 (s.data.toList.take k) = d at hlt Hs Hr
      have hb : s[k].toNat < 256 := s[k].toNat_lt
      go_wp2_with fail
      refine (step_any b d s[k].toNat _ Hr.out hlt hb).mono ?_
      rintro e w1 ⟨rfl, hr1, hg1⟩
      go_wp2_with fail
      go_roundw
      case rel => exact ⟨k + 1, by omega, by go_num, by rw [Hs.out]; exact hr1, grown_same hg hg1⟩
      case measure => simp [intOf]; omega
    · obtain rfl : k = s.size := by omega
      rw [List.take_of_length_le (by simp)] at hr'
      have Hr := Lib.hid hr'; clear hr'
      go_wp2
      go_end0
      exact ⟨rfl, Hr.out, hg⟩

set_option maxRecDepth 100000 in
set_option maxHeartbeats 400000 in
theorem sum_any (s : ByteArray) (w : World) (hs : s.size ≤ maxLen) :
    Calls Try.prog 14 #[.string s] w fun e w' => e = .returned (.int .u32 (sumS s.data.toList : Int)) ∧ Below w.heap.size w w' := by
  have hmf : ∀ (fn : Fn) (first cap : Array Value) (w : World), (Instr.makeFunc fn first cap).run Try.prog w = .ok (.func fn first cap) w := fun _ _ _ _ => rfl
  have hsl := Lib.hid (regS_lt s.data.toList 4294967295 (by omega))
  have hdef : sumS s.data.toList = 4294967295 - regS 4294967295 s.data.toList := rfl
  have Hdef := Lib.hid hdef; clear hdef
  go_enter Try.func14, Try.ntmps14
  go_wp2_with fail
  refine (each_any w.heap.size s _ (heap_alloc_new w _) hs).mono ?_
  rintro e w1 ⟨rfl, hr1, hg1⟩
  have hcell := cell_of_one hr1
  have hb : Below w.heap.size w w1 := ((Below.refl _ _).alloc (Nat.le_refl _) _).grown hg1 (by simp) (by simp)
  generalize regS 4294967295 s.data.toList = d at hsl Hdef hcell
  have hlt := hsl.out
  go_wp2
  go_ret
  refine ⟨?_, hb⟩
  rw [Hdef.out, ← not_walk hlt]
  rfl
end Go.Proofs.Ytammngncmkhokaa
namespace Go.Proofs.Ytammngncmkhokaa
open Go.RowKit

theorem sumS_digits : sumS [49, 50, 51, 52, 53, 54, 55, 56, 57] = 3808858755 := by decide +kernel

end Go.Proofs.Ytammngncmkhokaa
namespace Go.Proofs.Ytammngncmkhokaa
open Go Go.RowKit

def kB0 : Dk := ⟨[], [], 1099511627776, false, -1⟩
def kB1 : Dk := ⟨[], [wA], 1099511627776, false, -1⟩
theorem bg1 : doD kB0 [wA] = (kB1, 0) := by kernel_rfl
theorem bg2 : readD kB1 nA = (tX, 0) := by kernel_rfl
theorem bt0 : DTold kB0 (wtW [wA]) := ⟨by decide, by decide⟩
theorem bt1 : DTold kB1 0 := ⟨by decide, by decide⟩
theorem sum_nine : sumS (⟨#[49, 50, 51, 52, 53, 54, 55, 56, 57]⟩ : ByteArray).data.toList = 3808858755 := sumS_digits
set_option maxRecDepth 100000 in
set_option maxHeartbeats 3200000 in
theorem begins_true (w : World) : Calls Try.prog 4 #[] w fun e w' => e = .returned (.bool true) ∧ Below w.heap.size w w' := by
  obtain ⟨V1, hV1, bV1, sV1, oV1⟩ := wrbox w ⟨1, ⟨#[97]⟩, ⟨#[]⟩, ⟨#[120]⟩⟩
  have hc := do_at (W := V1) (y := ⟨none, 0, [], none, 0, [], 1099511627776, false, -1⟩) (B := some ⟨w.heap.size, 0, none⟩) 1 ⟨fun h => absurd h (by decide), fun h => absurd h (by decide), Nat.le_refl _⟩ rfl bg1 (lies4_own (t := 49) (l := [wA]) oV1) bt0
  have tx : (tX.toList == [120]) = true := by kernel_rfl
  have hsum := Lib.hid (fun W => sum_any ⟨#[49, 50, 51, 52, 53, 54, 55, 56, 57]⟩ W (by decide))
  rw [sum_nine] at hsum
  have H1 := Lib.hid bV1
  clear bV1 sV1 oV1
  go_enter Try.func4, Try.ntmps4
  go_wp2_with fail
  rw [← hV1]
  clear hV1
  refine hc.out.mono ?_
  rintro _ w2 ⟨b2, z1, rfl, hz1, iz1⟩
  obtain ⟨W2, hW2, o2, i2, bW2⟩ := var_new iz1
  have hc2 := read_at ⟨#[97]⟩ i2 hz1 bg2 bt1
  have H2 := Lib.hid ((H1.out.trans (b2.mono H1.out.size)).trans (bW2.mono (Nat.le_trans H1.out.size b2.size)))
  obtain ⟨d0, d1, d2, d3, d4⟩ := own5 o2
  clear b2 hz1 iz1 bW2 i2 o2 hc
  go_upto_region 2 with fail
  rw [← hW2]
  clear hW2
  go_wp2_with fail
  refine hc2.out.mono ?_
  rintro _ w3 ⟨rfl, b3⟩
  have H3 := Lib.hid (H2.out.trans (b3.mono H2.out.size))
  clear b3 d0 d1 d2 d3 d4 hc2
  go_wp2_with fail
  refine (hsum.out _).mono ?_
  rintro _ w4 ⟨rfl, b4⟩
  have H4 := Lib.hid (H3.out.trans (b4.mono H3.out.size))
  clear b4
  go_wp2_with fail
  go_ret
  exact ⟨rfl, H4.out⟩
end Go.Proofs.Ytammngncmkhokaa
namespace Go.Proofs.Ytammngncmkhokaa
open Go Go.RowKit

theorem u8_eq {a b : UInt8} (h1 : ¬ a < b) (h2 : ¬ b < a) : a = b := by
  rw [UInt8.lt_iff_toNat_lt] at h1 h2
  exact UInt8.toNat_inj.1 (by omega)
theorem cmpB_cases : ∀ a b : List UInt8, (Lib.compareBytes a b = -1 ∧ Op.bytesLess a b = true) ∨ (Lib.compareBytes a b = 0 ∧ Op.bytesLess a b = false ∧ a = b) ∨ (Lib.compareBytes a b = 1 ∧ Op.bytesLess a b = false ∧ a ≠ b)
  | [], [] => .inr (.inl ⟨rfl, rfl, rfl⟩)
  | [], _ :: _ => .inl ⟨rfl, rfl⟩
  | _ :: _, [] => .inr (.inr ⟨rfl, rfl, by simp⟩)
  | x :: a, y :: b => by
    have ih := cmpB_cases a b
    unfold Lib.compareBytes Op.bytesLess
    by_cases h1 : x < y
    · left; simp [h1]
    · by_cases h2 : y < x
      · have hne : x ≠ y := fun e => by subst e; exact h1 h2
        right; right; simp [h1, h2, hne]
      · have he := u8_eq h1 h2
        subst he
        simpa [h1] using ih

end Go.Proofs.Ytammngncmkhokaa
namespace Go.Proofs.Ytammngncmkhokaa
open Go Go.RowKit

theorem cmpRows_same : ∀ (k : Nat) (a b : List Vl) , k ≤ a.length → k ≤ b.length → (∀ (j : Nat) (x y : Vl), j < k → a[j]? = some x → b[j]? = some y → x.cmp y = 0) → cmpRows a b = cmpRows (a.drop k) (b.drop k)
  | 0, a, b, _, _, _ => by simp
  | k + 1, [], b, h, _, _ => by simp at h
  | k + 1, x :: a, [], _, h, _ => by simp at h
  | k + 1, x :: a, y :: b, h, h', hs => by
    have h0 := hs 0 x y (by omega) rfl rfl
    rw [cmpRows, if_pos h0, List.drop_succ_cons, List.drop_succ_cons]
    exact cmpRows_same k a b (by simpa using h) (by simpa using h') fun j z u hj hz hu => hs (j + 1) z u (by omega) (by simpa using hz) (by simpa using hu)
theorem cmpRows_at {a b : List Vl} {k : Nat} {x y : Vl} (hs : ∀ (j : Nat) (x y : Vl), j < k → a[j]? = some x → b[j]? = some y → x.cmp y = 0) (hx : a[k]? = some x) (hy : b[k]? = some y) (h : x.cmp y ≠ 0) : cmpRows a b = x.cmp y := by
  obtain ⟨h1, e1⟩ := List.getElem?_eq_some_iff.1 hx
  obtain ⟨h2, e2⟩ := List.getElem?_eq_some_iff.1 hy
  rw [cmpRows_same k a b (by omega) (by omega) hs, List.drop_eq_getElem_cons h1, List.drop_eq_getElem_cons h2, cmpRows, e1, e2, if_neg h]
theorem cmpRows_end {a b : List Vl} {k : Nat} (hs : ∀ (j : Nat) (x y : Vl), j < k → a[j]? = some x → b[j]? = some y → x.cmp y = 0) (h1 : k ≤ a.length) (h2 : k ≤ b.length) (h : k = a.length ∨ k = b.length) :
    cmpRows a b = if a.length < b.length then -1 else if b.length < a.length then 1 else 0 := by
  rw [cmpRows_same k a b h1 h2 hs]
  rcases h with rfl | rfl
  · rw [List.drop_length]
    by_cases h3 : a.length < b.length
    · rw [if_pos h3, List.drop_eq_getElem_cons h3]; rfl
    · rw [if_neg h3, if_neg (by omega), List.drop_of_length_le (by omega)]; rfl
  · rw [List.drop_length]
    by_cases h3 : b.length < a.length
    · rw [if_neg (by omega), if_pos h3, List.drop_eq_getElem_cons h3]; rfl
    · rw [if_neg (by omega), if_neg h3, List.drop_of_length_le (by omega)]; rfl

set_option maxRecDepth 100000 in
set_option maxHeartbeats 1600000 in
theorem cmpFunc_any (A A' : Option Addr) (c c' : Nat) (l m : List Vl) (w : World) (hl : Vals w w.heap.size A l) (hm : Vals w w.heap.size A' m) (hn : l.length ≤ maxLen) (hn' : m.length ≤ maxLen) :
    Calls Try.prog 26 #[.slice A l.length c, .slice A' m.length c', .func (.func 27) #[] #[]] w fun e w' => e = .returned (.int .i64 (cmpRows l m)) ∧ Below w.heap.size w w' := by
  unfold maxLen at hn hn'
  have Hl := Lib.hid (And.intro hl hm)
  clear hl hm
  have hcmp := fun x y W => Lib.hid (vcompare_any x y W)
  unfold Vl.val at hcmp
  go_enter Try.func26, Try.ntmps26
  go_wp2_with fail
  go_loopw [13] (fun i wr => ∃ k : Nat, i = .int .i64 (k : Int) ∧ k ≤ l.length ∧ k ≤ m.length ∧ Below w.heap.size w wr ∧ ∀ (j : Nat) (x y : Vl), j < k → l[j]? = some x → m[j]? = some y → x.cmp y = 0)
    (fun i _ => l.length - (intOf i).toNat)
  case atStart => exact ⟨0, rfl, by omega, by omega, Below.refl _ _, fun j x y hj => absurd hj (by omega)⟩
  case round =>
    obtain ⟨k, rfl, hk, hk', hb, hs⟩ := hrel
    by_cases hlt : k < l.length
    · have hx : l[k]? = some l[k] := List.getElem?_eq_getElem hlt
      obtain ⟨b, o, rfl, hB, hl⟩ := Hl.out.1 (by omega)
      obtain ⟨c0, c1, c2⟩ := (hl k _ hx).past hb hB
      have hB2 : b < wr.heap.size := by have := hb.size; omega
      by_cases hltm : k < m.length
      · have hy : m[k]? = some m[k] := List.getElem?_eq_getElem hltm
        obtain ⟨b', o', rfl, hB', hm⟩ := Hl.out.2 (by omega)
        obtain ⟨d0, d1, d2⟩ := (hm k _ hy).past hb hB'
        have hB3 : b' < wr.heap.size := by have := hb.size; omega
        have hB4 : b' < wr.heap.size + 1 := by omega
        have hat := fun h => cmpRows_at hs hx hy h
        generalize l[k] = x at *
        generalize m[k] = y at *
        have hcall := fun W => hcmp x y W
        have HH := Lib.hid (And.intro hb (And.intro hs (And.intro hx (And.intro hy hat))))
        clear hb hs hx hy hl hm hat hcmp
        have q0 : decide (m.length ≤ k) = false := by simp; omega
        by_cases hz : x.cmp y = 0
        · simp only [hz] at hcall
          have HZ := Lib.hid hz
          clear hz
          go_wp2_with fail
          refine (hcall _).out.mono ?_
          rintro e w1 ⟨rfl, h1⟩
          have H1 := Lib.hid (below_then (((Below.refl wr.heap.size wr).alloc (Nat.le_refl _) _).alloc (by simp) _) (by simp) h1)
          clear h1
          go_wp2_with fail
          obtain ⟨hb, hs, hx, hy, hat⟩ := HH.out
          go_roundw
          case rel =>
            refine ⟨k + 1, by go_num, by omega, by omega, hb.trans (H1.out.mono hb.size), fun j u v hj hu hv => ?_⟩
            by_cases hjk : j = k
            · subst hjk
              rw [hx] at hu; rw [hy] at hv
              injection hu with hu; injection hv with hv
              subst hu hv
              exact HZ.out
            · exact hs j u v (by omega) hu hv
          case measure => simp [intOf]; omega
        · have hzb : (x.cmp y != 0) = true := by simpa using hz
          have hrr := HH.out.2.2.2.2 hz
          generalize x.cmp y = r at hcall hzb hrr
          have HZ := Lib.hid hrr
          clear hz hrr
          go_wp2_with fail
          refine (hcall _).out.mono ?_
          rintro e w1 ⟨rfl, h1⟩
          have H1 := Lib.hid (below_then (((Below.refl wr.heap.size wr).alloc (Nat.le_refl _) _).alloc (by simp) _) (by simp) h1)
          clear h1
          go_wp2_with fail
          go_ret
          obtain ⟨hb, hs, hx, hy, hat⟩ := HH.out
          exact ⟨ret_i64 HZ.out.symm, hb.trans (H1.out.mono hb.size)⟩
      · have hkm : k = m.length := by omega
        have hend := cmpRows_end hs (by omega) (by omega) (.inr hkm)
        rw [if_neg (by omega), if_pos (by omega)] at hend
        have HH := Lib.hid (And.intro hb hend)
        have q0 : decide (m.length ≤ k) = true := by simp; omega
        generalize l[k] = x at *
        clear hb hs hx hl hend hkm
        go_wp2_with fail
        go_ret
        exact ⟨ret_i64 HH.out.2.symm, HH.out.1.trans ((Below.refl _ _).alloc HH.out.1.size _)⟩
    · have hkl : k = l.length := by omega
      have hend := cmpRows_end hs (by omega) (by omega) (.inl hkl)
      rw [if_neg (show ¬ m.length < l.length by omega)] at hend
      have HH := Lib.hid (And.intro hb (And.intro hend hkl))
      clear hb hs hend
      by_cases hlm : l.length < m.length
      · have q1 : decide (l.length < m.length) = true := by simpa using hlm
        have HE := Lib.hid hlm
        clear hlm hkl
        go_wp2_with fail
        go_ret
        exact ⟨ret_i64 (by rw [HH.out.2.1, if_pos HE.out]), HH.out.1⟩
      · have q1 : decide (l.length < m.length) = false := by simpa using hlm
        have HE := Lib.hid hlm
        clear hlm hkl
        go_wp2_with fail
        go_ret
        exact ⟨ret_i64 (by rw [HH.out.2.1, if_neg HE.out]), HH.out.1⟩
end Go.Proofs.Ytammngncmkhokaa
namespace Go.Proofs.Ytammngncmkhokaa
open Go Go.RowKit
theorem past_vl {V : World} {b o : Nat} {v : Vl} (h : VlAt V b o v) (hb : b < V.heap.size) :
    (∀ p : Past V, p.w.cell? ⟨b, o, none⟩ = some (.bool v.t)) ∧ (∀ p : Past V, p.w.cell? ⟨b, o + 1, none⟩ = some (.int .i64 v.n)) ∧ (∀ p : Past V, p.w.cell? ⟨b, o + 2, none⟩ = some (.string v.s)) :=
  ⟨fun p => (h.past p.h hb).1, fun p => (h.past p.h hb).2.1, fun p => (h.past p.h hb).2.2⟩
theorem past_vals {V : World} {A : Option Addr} {l : List Vl} (h : Vals V V.heap.size A l) (p : Past V) : Vals p.w p.w.heap.size A l := vals_keep h p.h
end Go.Proofs.Ytammngncmkhokaa
namespace Go.Proofs.Ytammngncmkhokaa
open Go Go.RowKit

set_option maxRecDepth 100000 in
set_option maxHeartbeats 400000 in
theorem rows_any (A A' : Option Addr) (c c' : Nat) (l m : List Vl) (w : World) (hl : Vals w w.heap.size A l) (hm : Vals w w.heap.size A' m) (hn : l.length ≤ maxLen) (hn' : m.length ≤ maxLen) :
    Calls Try.prog 8 #[.slice A l.length c, .slice A' m.length c'] w fun e w' => e = .returned (.int .i64 (cmpRows l m)) ∧ Below w.heap.size w w' := by
  have hcall := Lib.hid (cmpFunc_any A A' c c' l m w hl hm hn hn')
  clear hl hm
  generalize cmpRows l m = r at *
  go_enter Try.func8, Try.ntmps8
  go_wp2_with fail
  refine hcall.out.mono ?_
  rintro e w1 ⟨rfl, h1⟩
  go_wp2_with fail
  go_ret
  exact ⟨rfl, h1⟩

end Go.Proofs.Ytammngncmkhokaa
namespace Go.Proofs.Ytammngncmkhokaa
open Go Go.RowKit

theorem tm_box (w : World) (t : Tm) : ∃ V, V = w.alloc (.cells #[.int .u64 (t.e : Int), .int .u64 (t.a : Int), .int .u64 (t.b : Int)] 32) ∧ Below w.heap.size w V ∧ V.heap.size = w.heap.size + 1 ∧ Own V w.heap.size 32 t.cells :=
  ⟨_, rfl, (Below.refl _ _).alloc (Nat.le_refl _) _, by simp, Own.made w 32 t.cells⟩
theorem own3 {w : World} {P : Nat} {t : TypeId} {a0 a1 a2 : Value} (h : Own w P t [a0, a1, a2]) : w.cell? ⟨P, 0, none⟩ = some a0 ∧ w.cell? ⟨P, 1, none⟩ = some a1 ∧ w.cell? ⟨P, 2, none⟩ = some a2 := ⟨h.at_ 0, h.at_ 1, h.at_ 2⟩
end Go.Proofs.Ytammngncmkhokaa
namespace Go.Proofs.Ytammngncmkhokaa
open Go Go.RowKit

theorem keepTS {W W' : World} {b o G : Nat} {t z : Tm} (h : TmAt W b o t) (hb : b < W.heap.size) (ho : Own W G 32 z.cells) (k : Below W.heap.size W W') :
    Below W.heap.size W W' ∧ W'.cell? ⟨b, o, none⟩ = some (.int .u64 (t.e : Int)) ∧ W'.cell? ⟨b, o + 1, none⟩ = some (.int .u64 (t.a : Int)) ∧ W'.cell? ⟨b, o + 2, none⟩ = some (.int .u64 (t.b : Int)) ∧
      W'.cell? ⟨G, 0, none⟩ = some (.int .u64 (z.e : Int)) ∧ W'.cell? ⟨G, 1, none⟩ = some (.int .u64 (z.a : Int)) ∧ W'.cell? ⟨G, 2, none⟩ = some (.int .u64 (z.b : Int)) := by
  obtain ⟨c0, c1, c2⟩ := h.past k hb
  obtain ⟨d0, d1, d2⟩ := own3 (ho.past k ho.inside)
  exact ⟨k, c0, c1, c2, d0, d1, d2⟩
set_option maxRecDepth 100000 in
set_option maxHeartbeats 25600000 in
theorem stamped_top (A : Option Addr) (c : Nat) (L : List (List Vl)) (A' : Option Addr) (c' : Nat) (T : List Tm) (w : World) (hl : RowsAt w w.heap.size A L) (hc : L.length ≤ c) (hm : c ≤ maxLen) (hok : (∀ l ∈ L, l.length ≤ maxLen) ∧ ∀ l ∈ L, ∀ v ∈ l, VOk v) (ht : Times w w.heap.size A' T) (hc' : T.length ≤ c') (hm' : c' ≤ maxLen) :
    Calls Try.prog 3 #[.slice A L.length c, .slice A' T.length c'] w fun e w' => e = .returned (.bool true) ∧ Below w.heap.size w w' := by
  obtain ⟨i1, hi1, hz10, hz11, hz12⟩ := info_parts infoRowS
  obtain ⟨i2, hi2, hz20, hz21, hz22⟩ := info_parts infoTm
  have HI1 := Lib.hid (And.intro hi1 (And.intro hz10 (And.intro hz11 hz12)))
  have HI2 := Lib.hid (And.intro hi2 (And.intro hz20 (And.intro hz21 hz22)))
  have y0 := Lib.hid begins_true
  have HL := Lib.hid (And.intro hl (And.intro hok ht))
  unfold maxLen at hm hm'
  have hn : L.length ≤ 9223372036854775807 := Nat.le_trans hc hm
  have hn' : T.length ≤ 9223372036854775807 := Nat.le_trans hc' hm'
  clear hl hok ht hi1 hz10 hz11 hz12 hi2 hz20 hz21 hz22 hc hm hc' hm'
  go_enter Try.func3, Try.ntmps3
  go_wp2_with fail
  refine (y0.out _).mono ?_
  rintro _ w1 ⟨rfl, b1⟩
  have h0 : PAt w w1 (.slice none 0 0) (.slice none 0 0) [] [] := ⟨b1, World.ownsRow_nil _ _ _ _, World.ownsRow_nil _ _ _ _, by simp [Value.ownBlock], rfl, by simp, fun q hq => by cases hq⟩
  have H0 := Lib.hid h0
  clear b1 h0
  go_wp2_with fail
  go_loopw [5, 6, 7, 22] (fun s v6 v7 i wr => ∃ (Q : List RowV) (U : List Tm), i = .int .i64 (Q.length : Int) ∧ Q.length ≤ L.length ∧ s = .string ⟨(catQ Q).toArray⟩ ∧ PAt w wr v6 v7 Q U)
    (fun _ _ _ i _ => L.length - (intOf i).toNat)
  case atStart => exact ⟨[], [], rfl, by simp, rfl, H0.out⟩
  case round =>
    obtain ⟨Q, U, rfl, hk, rfl, hat⟩ := hrel
    have Hat := Lib.hid hat
    have hle := hat.le
    have HUQ := Lib.hid hat.len
    obtain ⟨A6, c6, rfl⟩ := hat.form6
    obtain ⟨A7, c7, rfl⟩ := hat.form7
    by_cases hlt : Q.length < L.length
    · have hx : L[Q.length]? = some L[Q.length] := List.getElem?_eq_getElem hlt
      obtain ⟨l, hl⟩ : ∃ l, l = L[Q.length] := ⟨_, rfl⟩
      rw [← hl] at hx
      obtain ⟨b, o, hA, hB, hrows⟩ := HL.out.1 (by omega)
      obtain ⟨Ar, cr, hcell, hvr⟩ := hrows _ l hx
      have x0 := (hat.below.cell (p := ⟨b, o + Q.length, none⟩) hB).trans hcell
      have hll := HL.out.2.1.1 l (List.mem_of_getElem? hx)
      have hlo := HL.out.2.1.2 l (List.mem_of_getElem? hx)
      have hen := fun W (hb : Below w.heap.size w W) => Lib.hid (encode_any Ar cr l W (vals_keep hvr hb) hll hlo)
      have q0 : (0 : Int) ≤ (Q.length : Int) := by omega
      have q1 : (Q.length : Int) < (L.length : Int) := by omega
      have HA := Lib.hid hA
      have HQ := Lib.hid (And.intro hvr (And.intro hlo hll))
      rw [hA]
      clear hat hx hl hA hrows hcell hvr hll hlo
      by_cases h40 : Q.length = 40
      · have t1 : ((Q.length : Int) == 40) = true := by rw [h40]; rfl
        clear h40
        go_wp2_with fail
        refine (hen _ Hat.out.below).out.mono ?_
        rintro _ w2 ⟨rfl, b2⟩
        have H2 := Lib.hid b2
        clear b2 x0
        go_upto_region 14 with fail
        have hatE := (PAt.past Hat.out H2.out)
        have HU24 := Lib.hid (show U.length * 24 ≤ 140737488351232 by have := HUQ.out; omega)
        have lub1 := Lib.hid (lub_any A7 c7 U _ hatE.times.2.2 hatE.times.1 hatE.times.2.1)
        have hlz : ∀ t ∈ U, t.le (lub U) = true := fun t ht => le_lubS ht
        obtain ⟨z, hz⟩ : ∃ z, lub U = z := ⟨_, rfl⟩
        rw [hz] at lub1 hlz
        have HatE := Lib.hid (And.intro hatE hlz)
        unfold Tm.val at lub1
        clear hatE hlz hz
        go_wp2_with fail
        refine lub1.out.mono ?_
        rintro _ w5 ⟨rfl, b5⟩
        obtain ⟨V, hV, bV, sV, oV⟩ := tm_box w5 z
        have HV := Lib.hid (And.intro (PAt.past HatE.out.1 (belows b5 bV)) (And.intro oV HatE.out.2))
        clear b5 bV sV oV lub1
        go_upto_region 15 with fail
        rw [← hV]
        clear hV
        go_wp2_with fail
        go_loopw [5, 63] (fun s i wq => ∃ n : Nat, i = .int .i64 (n : Int) ∧ n ≤ Q.length ∧ s = .string ⟨(catQ (Q.drop n)).toArray⟩ ∧ Below V.heap.size V wq)
          (fun _ i _ => Q.length + 1 - (intOf i).toNat)
        case atStart => exact ⟨0, rfl, by omega, rfl, Below.refl _ _⟩
        case round =>
          obtain ⟨n, rfl, hn2, rfl, hb⟩ := hrel
          by_cases hnl : n < Q.length
          · obtain ⟨q, hx⟩ : ∃ q, Q[n]? = some q := ⟨_, List.getElem?_eq_getElem hnl⟩
            obtain ⟨t, htx⟩ : ∃ t, U[n]? = some t := ⟨_, List.getElem?_eq_getElem (by have := HUQ.out; omega)⟩
            have okq := HV.out.1.ok q (List.mem_of_getElem? hx)
            have htl := HV.out.2.2 t (List.mem_of_getElem? htx)
            have hby := beyond_self (List.mem_of_getElem? htx)
            obtain ⟨b6, o6, hA6, hg6, hc6⟩ := HV.out.1.rows hx
            subst hA6
            have c0 := (hb.cell (p := ⟨b6, o6 + n, none⟩) hg6).trans hc6
            have htms := HV.out.1.times
            obtain ⟨b7, o7, hA7, hB7, ht7⟩ := htms.2.2 (by have := HUQ.out; omega)
            subst hA7
            have htm := ht7 n t htx
            have hcl := catQ_len (Q.drop n) fun x hx => HV.out.1.ok x (List.mem_of_mem_drop hx)
            have hdl : (Q.drop n).length * 1000 ≤ 40 * 1000 := Nat.mul_le_mul_right _ (by rw [List.length_drop]; omega)
            have hdr := catQ_drop hx
            have yT : ∀ W, Hid (Calls Try.prog 7 #[.string ⟨(catQ (Q.drop n)).toArray⟩] W fun e w' => ∃ v, e = .returned (.tuple #[v, .string ⟨(catQ (Q.drop (n + 1))).toArray⟩, .int .i64 0]) ∧ w'.ownsRow W.heap.size 64 3 v q.l.length (q.l.flatMap Vl.cells) ∧ Below W.heap.size W w') := fun W => by
              have := take_any ⟨(catQ (Q.drop n)).toArray⟩ W (by rw [sizeL]; unfold maxLen; omega)
              rw [show (⟨(catQ (Q.drop n)).toArray⟩ : ByteArray).data.toList = encS q.l ++ catQ (Q.drop (n + 1)) from hdr, takeR_back okq.chk okq.ok] at this
              unfold TakePost rowOf restOf whyOf at this
              dsimp only at this
              exact Lib.hid this
            have HX := Lib.hid (And.intro okq (And.intro htl (And.intro hby (And.intro htm (And.intro hB7 (And.intro htms hb))))))
            have q2 : (n : Int) < (Q.length : Int) := by omega
            have q3 : (0 : Int) ≤ (n : Int) := by omega
            have q4 : (n : Int) < (U.length : Int) := by have := HUQ.out; omega
            clear okq htl hby hx htx hc6 hg6 htms hB7 ht7 htm hcl hdl hdr hb
            go_wp2_with fail
            refine (yT _).out.mono ?_
            rintro _ w3 ⟨v3, rfl, o3, b3⟩
            obtain ⟨A3, c3, rfl, _, _, u3⟩ := vals_of_own rfl o3
            have hbV := belows HX.out.2.2.2.2.2.2 b3
            have z1 := fun W (hb : Below w3.heap.size w3 W) => Lib.hid (rows_any A3 q.A c3 q.c q.l q.l W (vals_keep u3 hb) (vals_keep HX.out.1.vals (HV.out.1.below.trans ((belows hbV hb).mono HV.out.1.below.size))) HX.out.1.len HX.out.1.len)
            rw [cmpRows_selfS] at z1
            have z2 := fun W => Lib.hid (ahead_any t z W)
            rw [HX.out.2.1] at z2
            have z3 := fun W (hb : Below w3.heap.size w3 W) => Lib.hid (front_any (some ⟨b7, o7, none⟩) c7 U W (times_keep HX.out.2.2.2.2.2.1.2.2 (belows hbV hb)) HU24.out)
            have hfl : (frontL U).length ≤ maxLen := by
              have := frontTo_len (sortT U) (sortT U).length (Nat.le_refl _)
              rw [sortT_len] at this
              show (frontTo (sortT U) (sortT U).length).length ≤ _
              rw [sortT_len]
              have := HUQ.out
              unfold maxLen; omega
            have z4 := fun A c W h => Lib.hid (beyond_any A c (frontL U) t W h hfl)
            rw [HX.out.2.2.1] at z4
            unfold Tm.val at z2 z4
            have HM := Lib.hid (HX.out.2.2.2.1.past hbV HX.out.2.2.2.2.1)
            have HN := Lib.hid (Nat.lt_of_lt_of_le HX.out.2.2.2.2.1 hbV.size)
            have HO := Lib.hid (HV.out.2.1.past hbV HV.out.2.1.inside)
            have H3 := Lib.hid hbV
            clear o3 b3 hbV u3 hfl c0
            go_upto_region 19 with fail
            go_region_held3 (fun w' => Below w3.heap.size w3 w' ∧ w'.cell? ⟨b7, o7 + n * 3, none⟩ = some (.int .u64 (t.e : Int)) ∧ w'.cell? ⟨b7, o7 + n * 3 + 1, none⟩ = some (.int .u64 (t.a : Int)) ∧ w'.cell? ⟨b7, o7 + n * 3 + 2, none⟩ = some (.int .u64 (t.b : Int)) ∧
                w'.cell? ⟨w5.heap.size, 0, none⟩ = some (.int .u64 (z.e : Int)) ∧ w'.cell? ⟨w5.heap.size, 1, none⟩ = some (.int .u64 (z.a : Int)) ∧ w'.cell? ⟨w5.heap.size, 2, none⟩ = some (.int .u64 (z.b : Int)))
              ((refine keepTS HM.out HN.out HO.out ?_; repeat (first | exact Below.refl _ _ | (apply And.left; assumption) | refine below_new ?_ _ | refine Below.drew ?_ | refine belows ?_ hb)))
              (first | (go_at_call 8; refine (z1 _ ?_).out.mono ?_; (repeat (first | exact Below.refl _ _ | (apply And.left; assumption) | refine below_new ?_ _ | refine Below.drew ?_ | refine belows ?_ hb)); rintro e w' ⟨rfl, hb⟩) | (go_at_call 9; refine (z2 _).out.mono ?_; rintro e w' ⟨rfl, hb⟩) | (go_at_call 11; refine (z3 _ ?_).out.mono ?_; (repeat (first | exact Below.refl _ _ | (apply And.left; assumption) | refine below_new ?_ _ | refine Below.drew ?_ | refine belows ?_ hb)); rintro e w' ⟨vf, rfl, hof, hb⟩; obtain ⟨Af, cf, rfl, _, _, htf⟩ := times_of_own rfl hof; have HFr := Lib.hid htf; clear hof htf) | (go_at_call 10; refine (z4 _ _ _ ?_).out.mono ?_; (first | exact HFr.out | exact times_keep HFr.out (Below.refl _ _).drew); rintro e w' ⟨rfl, hb⟩))
            all_goals (go_wp2_with fail; go_roundw)
            all_goals first
              | (refine ⟨n + 1, by go_num, by omega, rfl, belows H3.out ?_⟩; repeat (first | exact Below.refl _ _ | (apply And.left; assumption) | refine below_new ?_ _ | refine Below.drew ?_ | refine belows ?_ hb))
              | (simp [intOf]; omega)
          · have hnE : n = Q.length := by omega
            have hdr : Q.drop n = [] := List.drop_eq_nil_of_le (by omega)
            rw [hdr]
            rw [show (⟨(catQ []).toArray⟩ : ByteArray) = ⟨#[]⟩ from rfl]
            have H7 := Lib.hid (HV.out.1.below.trans (hb.mono HV.out.1.below.size))
            clear hb hdr hnl
            go_wp2_with fail
            go_ret
            exact ⟨rfl, H7.out⟩
      · have t1 : ((Q.length : Int) == 40) = false := beq_eq_false_iff_ne.2 (by omega)
        by_cases hkT : Q.length < T.length
        · have t2 : decide ((Q.length : Int) ≥ (T.length : Int)) = false := decide_eq_false (by omega)
          have t2' : decide (T.length ≤ Q.length) = false := decide_eq_false (by omega)
          rcases chk_cases l with hz | hz
          · rw [hz] at hen
            obtain ⟨t, htx⟩ : ∃ t, T[Q.length]? = some t := ⟨_, List.getElem?_eq_getElem hkT⟩
            obtain ⟨b', o', hA', hB', hts⟩ := HL.out.2.2 (by omega)
            have htm := hts _ t htx
            have HT := Lib.hid (And.intro htm hB')
            have HA' := Lib.hid hA'
            have HZ := Lib.hid hz
            rw [hA']
            clear htx hA' hts htm hz
            go_wp2_with fail
            refine (hen _ Hat.out.below).out.mono ?_
            rintro _ w2 ⟨rfl, b2⟩
            have H2 := Lib.hid (PAt.past Hat.out b2)
            have hcq := catQ_len Q Hat.out.ok
            have hel := encS_leS HQ.out.2.1
            have hs1 := sizeL (catQ Q)
            have hs2 := sizeL (encS l)
            clear b2 x0
            go_upto_region 12 with fail
            have hbs := H2.out.below.size
            refine wp_two (by kernel_rfl) (by decide) (by decide) (by decide) (by decide) 105 rfl (by decide) w.heap.size hbs
              i1 _ 24 Try.underlying22 HI1.out.1 HI1.out.2.1 HI1.out.2.2.1 HI1.out.2.2.2 rfl
              i2 _ 3 24 Try.underlying23 HI2.out.1 HI2.out.2.1 HI2.out.2.2.1 HI2.out.2.2.2 rfl (by decide)
              (.slice A6 Q.length c6) Q.length (Q.flatMap rowC) rfl H2.out.r6 (by unfold maxLen; omega) (by omega)
              (.slice A7 U.length c7) U.length (U.flatMap Tm.cells) rfl H2.out.r7 (by have := HUQ.out; unfold maxLen; omega) (by have := HUQ.out; omega)
              H2.out.off (.slice Ar l.length cr) rfl rfl b' o' T.length c' Q.length rfl rfl hkT t.cells rfl (tm_oneS t) hB' (range_tm (HT.out.1.past H2.out.below HT.out.2)) _ Try.underlying32 rfl (bsR1 _ ⟨_, _, _, rfl⟩) (bsT1 t) ?_
            intro z0 z1 z2 z3 z4 z5 z6 z7 z8 z9 z10 w9 b9 r6 r7 off9
            simp only [Act.put, List.setIfInBounds_toArray, List.set_cons_zero, List.set_cons_succ]
            have hat9 : PAt w w9 z3 z10 (Q ++ [⟨Ar, cr, l⟩]) (U ++ [t]) := by
              refine ⟨H2.out.below.trans b9, ?_, ?_, off9, by simp [HUQ.out], by simp; omega, ?_⟩
              · rw [List.flatMap_append, List.length_append]; exact r6
              · rw [List.flatMap_append, List.length_append, List.flatMap_cons, List.flatMap_nil, List.append_nil]; exact r7
              · intro q hq
                rcases List.mem_append.1 hq with hq | hq
                · exact H2.out.ok q hq
                · rw [show q = ⟨Ar, cr, l⟩ from by simpa using hq]
                  exact ⟨HQ.out.1, HQ.out.2.1, HQ.out.2.2, HZ.out⟩
            have H9 := Lib.hid hat9
            clear b9 r6 r7 off9 hat9
            go_wp2_with fail
            go_roundw
            case rel => exact ⟨Q ++ [⟨Ar, cr, l⟩], U ++ [t], by rw [List.length_append]; go_num, by rw [List.length_append]; show Q.length + 1 ≤ _; omega, by rw [← catQ_snoc], H9.out⟩
            case measure => simp [intOf]; omega
          · rw [hz] at hen
            clear hz
            go_wp2_with fail
            refine (hen _ Hat.out.below).out.mono ?_
            rintro _ w2 ⟨rfl, b2⟩
            have H2 := Lib.hid b2
            clear b2 x0
            go_upto_region 14 with fail
            have hatE := (PAt.past Hat.out H2.out)
            have HU24 := Lib.hid (show U.length * 24 ≤ 140737488351232 by have := HUQ.out; omega)
            have lub1 := Lib.hid (lub_any A7 c7 U _ hatE.times.2.2 hatE.times.1 hatE.times.2.1)
            have hlz : ∀ t ∈ U, t.le (lub U) = true := fun t ht => le_lubS ht
            obtain ⟨z, hz⟩ : ∃ z, lub U = z := ⟨_, rfl⟩
            rw [hz] at lub1 hlz
            have HatE := Lib.hid (And.intro hatE hlz)
            unfold Tm.val at lub1
            clear hatE hlz hz
            go_wp2_with fail
            refine lub1.out.mono ?_
            rintro _ w5 ⟨rfl, b5⟩
            obtain ⟨V, hV, bV, sV, oV⟩ := tm_box w5 z
            have HV := Lib.hid (And.intro (PAt.past HatE.out.1 (belows b5 bV)) (And.intro oV HatE.out.2))
            clear b5 bV sV oV lub1
            go_upto_region 15 with fail
            rw [← hV]
            clear hV
            go_wp2_with fail
            go_loopw [5, 63] (fun s i wq => ∃ n : Nat, i = .int .i64 (n : Int) ∧ n ≤ Q.length ∧ s = .string ⟨(catQ (Q.drop n)).toArray⟩ ∧ Below V.heap.size V wq)
              (fun _ i _ => Q.length + 1 - (intOf i).toNat)
            case atStart => exact ⟨0, rfl, by omega, rfl, Below.refl _ _⟩
            case round =>
              obtain ⟨n, rfl, hn2, rfl, hb⟩ := hrel
              by_cases hnl : n < Q.length
              · obtain ⟨q, hx⟩ : ∃ q, Q[n]? = some q := ⟨_, List.getElem?_eq_getElem hnl⟩
                obtain ⟨t, htx⟩ : ∃ t, U[n]? = some t := ⟨_, List.getElem?_eq_getElem (by have := HUQ.out; omega)⟩
                have okq := HV.out.1.ok q (List.mem_of_getElem? hx)
                have htl := HV.out.2.2 t (List.mem_of_getElem? htx)
                have hby := beyond_self (List.mem_of_getElem? htx)
                obtain ⟨b6, o6, hA6, hg6, hc6⟩ := HV.out.1.rows hx
                subst hA6
                have c0 := (hb.cell (p := ⟨b6, o6 + n, none⟩) hg6).trans hc6
                have htms := HV.out.1.times
                obtain ⟨b7, o7, hA7, hB7, ht7⟩ := htms.2.2 (by have := HUQ.out; omega)
                subst hA7
                have htm := ht7 n t htx
                have hcl := catQ_len (Q.drop n) fun x hx => HV.out.1.ok x (List.mem_of_mem_drop hx)
                have hdl : (Q.drop n).length * 1000 ≤ 40 * 1000 := Nat.mul_le_mul_right _ (by rw [List.length_drop]; omega)
                have hdr := catQ_drop hx
                have yT : ∀ W, Hid (Calls Try.prog 7 #[.string ⟨(catQ (Q.drop n)).toArray⟩] W fun e w' => ∃ v, e = .returned (.tuple #[v, .string ⟨(catQ (Q.drop (n + 1))).toArray⟩, .int .i64 0]) ∧ w'.ownsRow W.heap.size 64 3 v q.l.length (q.l.flatMap Vl.cells) ∧ Below W.heap.size W w') := fun W => by
                  have := take_any ⟨(catQ (Q.drop n)).toArray⟩ W (by rw [sizeL]; unfold maxLen; omega)
                  rw [show (⟨(catQ (Q.drop n)).toArray⟩ : ByteArray).data.toList = encS q.l ++ catQ (Q.drop (n + 1)) from hdr, takeR_back okq.chk okq.ok] at this
                  unfold TakePost rowOf restOf whyOf at this
                  dsimp only at this
                  exact Lib.hid this
                have HX := Lib.hid (And.intro okq (And.intro htl (And.intro hby (And.intro htm (And.intro hB7 (And.intro htms hb))))))
                have q2 : (n : Int) < (Q.length : Int) := by omega
                have q3 : (0 : Int) ≤ (n : Int) := by omega
                have q4 : (n : Int) < (U.length : Int) := by have := HUQ.out; omega
                clear okq htl hby hx htx hc6 hg6 htms hB7 ht7 htm hcl hdl hdr hb
                go_wp2_with fail
                refine (yT _).out.mono ?_
                rintro _ w3 ⟨v3, rfl, o3, b3⟩
                obtain ⟨A3, c3, rfl, _, _, u3⟩ := vals_of_own rfl o3
                have hbV := belows HX.out.2.2.2.2.2.2 b3
                have z1 := fun W (hb : Below w3.heap.size w3 W) => Lib.hid (rows_any A3 q.A c3 q.c q.l q.l W (vals_keep u3 hb) (vals_keep HX.out.1.vals (HV.out.1.below.trans ((belows hbV hb).mono HV.out.1.below.size))) HX.out.1.len HX.out.1.len)
                rw [cmpRows_selfS] at z1
                have z2 := fun W => Lib.hid (ahead_any t z W)
                rw [HX.out.2.1] at z2
                have z3 := fun W (hb : Below w3.heap.size w3 W) => Lib.hid (front_any (some ⟨b7, o7, none⟩) c7 U W (times_keep HX.out.2.2.2.2.2.1.2.2 (belows hbV hb)) HU24.out)
                have hfl : (frontL U).length ≤ maxLen := by
                  have := frontTo_len (sortT U) (sortT U).length (Nat.le_refl _)
                  rw [sortT_len] at this
                  show (frontTo (sortT U) (sortT U).length).length ≤ _
                  rw [sortT_len]
                  have := HUQ.out
                  unfold maxLen; omega
                have z4 := fun A c W h => Lib.hid (beyond_any A c (frontL U) t W h hfl)
                rw [HX.out.2.2.1] at z4
                unfold Tm.val at z2 z4
                have HM := Lib.hid (HX.out.2.2.2.1.past hbV HX.out.2.2.2.2.1)
                have HN := Lib.hid (Nat.lt_of_lt_of_le HX.out.2.2.2.2.1 hbV.size)
                have HO := Lib.hid (HV.out.2.1.past hbV HV.out.2.1.inside)
                have H3 := Lib.hid hbV
                clear o3 b3 hbV u3 hfl c0
                go_upto_region 19 with fail
                go_region_held3 (fun w' => Below w3.heap.size w3 w' ∧ w'.cell? ⟨b7, o7 + n * 3, none⟩ = some (.int .u64 (t.e : Int)) ∧ w'.cell? ⟨b7, o7 + n * 3 + 1, none⟩ = some (.int .u64 (t.a : Int)) ∧ w'.cell? ⟨b7, o7 + n * 3 + 2, none⟩ = some (.int .u64 (t.b : Int)) ∧
                    w'.cell? ⟨w5.heap.size, 0, none⟩ = some (.int .u64 (z.e : Int)) ∧ w'.cell? ⟨w5.heap.size, 1, none⟩ = some (.int .u64 (z.a : Int)) ∧ w'.cell? ⟨w5.heap.size, 2, none⟩ = some (.int .u64 (z.b : Int)))
                  ((refine keepTS HM.out HN.out HO.out ?_; repeat (first | exact Below.refl _ _ | (apply And.left; assumption) | refine below_new ?_ _ | refine Below.drew ?_ | refine belows ?_ hb)))
                  (first | (go_at_call 8; refine (z1 _ ?_).out.mono ?_; (repeat (first | exact Below.refl _ _ | (apply And.left; assumption) | refine below_new ?_ _ | refine Below.drew ?_ | refine belows ?_ hb)); rintro e w' ⟨rfl, hb⟩) | (go_at_call 9; refine (z2 _).out.mono ?_; rintro e w' ⟨rfl, hb⟩) | (go_at_call 11; refine (z3 _ ?_).out.mono ?_; (repeat (first | exact Below.refl _ _ | (apply And.left; assumption) | refine below_new ?_ _ | refine Below.drew ?_ | refine belows ?_ hb)); rintro e w' ⟨vf, rfl, hof, hb⟩; obtain ⟨Af, cf, rfl, _, _, htf⟩ := times_of_own rfl hof; have HFr := Lib.hid htf; clear hof htf) | (go_at_call 10; refine (z4 _ _ _ ?_).out.mono ?_; (first | exact HFr.out | exact times_keep HFr.out (Below.refl _ _).drew); rintro e w' ⟨rfl, hb⟩))
                all_goals (go_wp2_with fail; go_roundw)
                all_goals first
                  | (refine ⟨n + 1, by go_num, by omega, rfl, belows H3.out ?_⟩; repeat (first | exact Below.refl _ _ | (apply And.left; assumption) | refine below_new ?_ _ | refine Below.drew ?_ | refine belows ?_ hb))
                  | (simp [intOf]; omega)
              · have hnE : n = Q.length := by omega
                have hdr : Q.drop n = [] := List.drop_eq_nil_of_le (by omega)
                rw [hdr]
                rw [show (⟨(catQ []).toArray⟩ : ByteArray) = ⟨#[]⟩ from rfl]
                have H7 := Lib.hid (HV.out.1.below.trans (hb.mono HV.out.1.below.size))
                clear hb hdr hnl
                go_wp2_with fail
                go_ret
                exact ⟨rfl, H7.out⟩
        · have t2 : decide ((Q.length : Int) ≥ (T.length : Int)) = true := decide_eq_true (by omega)
          have t2' : decide (T.length ≤ Q.length) = true := decide_eq_true (by omega)
          go_wp2_with fail
          refine (hen _ Hat.out.below).out.mono ?_
          rintro _ w2 ⟨rfl, b2⟩
          have H2 := Lib.hid b2
          clear b2 x0
          go_upto_region 14 with fail
          have hatE := (PAt.past Hat.out H2.out)
          have HU24 := Lib.hid (show U.length * 24 ≤ 140737488351232 by have := HUQ.out; omega)
          have lub1 := Lib.hid (lub_any A7 c7 U _ hatE.times.2.2 hatE.times.1 hatE.times.2.1)
          have hlz : ∀ t ∈ U, t.le (lub U) = true := fun t ht => le_lubS ht
          obtain ⟨z, hz⟩ : ∃ z, lub U = z := ⟨_, rfl⟩
          rw [hz] at lub1 hlz
          have HatE := Lib.hid (And.intro hatE hlz)
          unfold Tm.val at lub1
          clear hatE hlz hz
          go_wp2_with fail
          refine lub1.out.mono ?_
          rintro _ w5 ⟨rfl, b5⟩
          obtain ⟨V, hV, bV, sV, oV⟩ := tm_box w5 z
          have HV := Lib.hid (And.intro (PAt.past HatE.out.1 (belows b5 bV)) (And.intro oV HatE.out.2))
          clear b5 bV sV oV lub1
          go_upto_region 15 with fail
          rw [← hV]
          clear hV
          go_wp2_with fail
          go_loopw [5, 63] (fun s i wq => ∃ n : Nat, i = .int .i64 (n : Int) ∧ n ≤ Q.length ∧ s = .string ⟨(catQ (Q.drop n)).toArray⟩ ∧ Below V.heap.size V wq)
            (fun _ i _ => Q.length + 1 - (intOf i).toNat)
          case atStart => exact ⟨0, rfl, by omega, rfl, Below.refl _ _⟩
          case round =>
            obtain ⟨n, rfl, hn2, rfl, hb⟩ := hrel
            by_cases hnl : n < Q.length
            · obtain ⟨q, hx⟩ : ∃ q, Q[n]? = some q := ⟨_, List.getElem?_eq_getElem hnl⟩
              obtain ⟨t, htx⟩ : ∃ t, U[n]? = some t := ⟨_, List.getElem?_eq_getElem (by have := HUQ.out; omega)⟩
              have okq := HV.out.1.ok q (List.mem_of_getElem? hx)
              have htl := HV.out.2.2 t (List.mem_of_getElem? htx)
              have hby := beyond_self (List.mem_of_getElem? htx)
              obtain ⟨b6, o6, hA6, hg6, hc6⟩ := HV.out.1.rows hx
              subst hA6
              have c0 := (hb.cell (p := ⟨b6, o6 + n, none⟩) hg6).trans hc6
              have htms := HV.out.1.times
              obtain ⟨b7, o7, hA7, hB7, ht7⟩ := htms.2.2 (by have := HUQ.out; omega)
              subst hA7
              have htm := ht7 n t htx
              have hcl := catQ_len (Q.drop n) fun x hx => HV.out.1.ok x (List.mem_of_mem_drop hx)
              have hdl : (Q.drop n).length * 1000 ≤ 40 * 1000 := Nat.mul_le_mul_right _ (by rw [List.length_drop]; omega)
              have hdr := catQ_drop hx
              have yT : ∀ W, Hid (Calls Try.prog 7 #[.string ⟨(catQ (Q.drop n)).toArray⟩] W fun e w' => ∃ v, e = .returned (.tuple #[v, .string ⟨(catQ (Q.drop (n + 1))).toArray⟩, .int .i64 0]) ∧ w'.ownsRow W.heap.size 64 3 v q.l.length (q.l.flatMap Vl.cells) ∧ Below W.heap.size W w') := fun W => by
                have := take_any ⟨(catQ (Q.drop n)).toArray⟩ W (by rw [sizeL]; unfold maxLen; omega)
                rw [show (⟨(catQ (Q.drop n)).toArray⟩ : ByteArray).data.toList = encS q.l ++ catQ (Q.drop (n + 1)) from hdr, takeR_back okq.chk okq.ok] at this
                unfold TakePost rowOf restOf whyOf at this
                dsimp only at this
                exact Lib.hid this
              have HX := Lib.hid (And.intro okq (And.intro htl (And.intro hby (And.intro htm (And.intro hB7 (And.intro htms hb))))))
              have q2 : (n : Int) < (Q.length : Int) := by omega
              have q3 : (0 : Int) ≤ (n : Int) := by omega
              have q4 : (n : Int) < (U.length : Int) := by have := HUQ.out; omega
              clear okq htl hby hx htx hc6 hg6 htms hB7 ht7 htm hcl hdl hdr hb
              go_wp2_with fail
              refine (yT _).out.mono ?_
              rintro _ w3 ⟨v3, rfl, o3, b3⟩
              obtain ⟨A3, c3, rfl, _, _, u3⟩ := vals_of_own rfl o3
              have hbV := belows HX.out.2.2.2.2.2.2 b3
              have z1 := fun W (hb : Below w3.heap.size w3 W) => Lib.hid (rows_any A3 q.A c3 q.c q.l q.l W (vals_keep u3 hb) (vals_keep HX.out.1.vals (HV.out.1.below.trans ((belows hbV hb).mono HV.out.1.below.size))) HX.out.1.len HX.out.1.len)
              rw [cmpRows_selfS] at z1
              have z2 := fun W => Lib.hid (ahead_any t z W)
              rw [HX.out.2.1] at z2
              have z3 := fun W (hb : Below w3.heap.size w3 W) => Lib.hid (front_any (some ⟨b7, o7, none⟩) c7 U W (times_keep HX.out.2.2.2.2.2.1.2.2 (belows hbV hb)) HU24.out)
              have hfl : (frontL U).length ≤ maxLen := by
                have := frontTo_len (sortT U) (sortT U).length (Nat.le_refl _)
                rw [sortT_len] at this
                show (frontTo (sortT U) (sortT U).length).length ≤ _
                rw [sortT_len]
                have := HUQ.out
                unfold maxLen; omega
              have z4 := fun A c W h => Lib.hid (beyond_any A c (frontL U) t W h hfl)
              rw [HX.out.2.2.1] at z4
              unfold Tm.val at z2 z4
              have HM := Lib.hid (HX.out.2.2.2.1.past hbV HX.out.2.2.2.2.1)
              have HN := Lib.hid (Nat.lt_of_lt_of_le HX.out.2.2.2.2.1 hbV.size)
              have HO := Lib.hid (HV.out.2.1.past hbV HV.out.2.1.inside)
              have H3 := Lib.hid hbV
              clear o3 b3 hbV u3 hfl c0
              go_upto_region 19 with fail
              go_region_held3 (fun w' => Below w3.heap.size w3 w' ∧ w'.cell? ⟨b7, o7 + n * 3, none⟩ = some (.int .u64 (t.e : Int)) ∧ w'.cell? ⟨b7, o7 + n * 3 + 1, none⟩ = some (.int .u64 (t.a : Int)) ∧ w'.cell? ⟨b7, o7 + n * 3 + 2, none⟩ = some (.int .u64 (t.b : Int)) ∧
                  w'.cell? ⟨w5.heap.size, 0, none⟩ = some (.int .u64 (z.e : Int)) ∧ w'.cell? ⟨w5.heap.size, 1, none⟩ = some (.int .u64 (z.a : Int)) ∧ w'.cell? ⟨w5.heap.size, 2, none⟩ = some (.int .u64 (z.b : Int)))
                ((refine keepTS HM.out HN.out HO.out ?_; repeat (first | exact Below.refl _ _ | (apply And.left; assumption) | refine below_new ?_ _ | refine Below.drew ?_ | refine belows ?_ hb)))
                (first | (go_at_call 8; refine (z1 _ ?_).out.mono ?_; (repeat (first | exact Below.refl _ _ | (apply And.left; assumption) | refine below_new ?_ _ | refine Below.drew ?_ | refine belows ?_ hb)); rintro e w' ⟨rfl, hb⟩) | (go_at_call 9; refine (z2 _).out.mono ?_; rintro e w' ⟨rfl, hb⟩) | (go_at_call 11; refine (z3 _ ?_).out.mono ?_; (repeat (first | exact Below.refl _ _ | (apply And.left; assumption) | refine below_new ?_ _ | refine Below.drew ?_ | refine belows ?_ hb)); rintro e w' ⟨vf, rfl, hof, hb⟩; obtain ⟨Af, cf, rfl, _, _, htf⟩ := times_of_own rfl hof; have HFr := Lib.hid htf; clear hof htf) | (go_at_call 10; refine (z4 _ _ _ ?_).out.mono ?_; (first | exact HFr.out | exact times_keep HFr.out (Below.refl _ _).drew); rintro e w' ⟨rfl, hb⟩))
              all_goals (go_wp2_with fail; go_roundw)
              all_goals first
                | (refine ⟨n + 1, by go_num, by omega, rfl, belows H3.out ?_⟩; repeat (first | exact Below.refl _ _ | (apply And.left; assumption) | refine below_new ?_ _ | refine Below.drew ?_ | refine belows ?_ hb))
                | (simp [intOf]; omega)
            · have hnE : n = Q.length := by omega
              have hdr : Q.drop n = [] := List.drop_eq_nil_of_le (by omega)
              rw [hdr]
              rw [show (⟨(catQ []).toArray⟩ : ByteArray) = ⟨#[]⟩ from rfl]
              have H7 := Lib.hid (HV.out.1.below.trans (hb.mono HV.out.1.below.size))
              clear hb hdr hnl
              go_wp2_with fail
              go_ret
              exact ⟨rfl, H7.out⟩
    · have hE : Q.length = L.length := by omega
      clear hlt hat
      go_upto_region 14 with fail
      have hatE := Hat.out
      have HU24 := Lib.hid (show U.length * 24 ≤ 140737488351232 by have := HUQ.out; omega)
      have lub1 := Lib.hid (lub_any A7 c7 U _ hatE.times.2.2 hatE.times.1 hatE.times.2.1)
      have hlz : ∀ t ∈ U, t.le (lub U) = true := fun t ht => le_lubS ht
      obtain ⟨z, hz⟩ : ∃ z, lub U = z := ⟨_, rfl⟩
      rw [hz] at lub1 hlz
      have HatE := Lib.hid (And.intro hatE hlz)
      unfold Tm.val at lub1
      clear hatE hlz hz
      go_wp2_with fail
      refine lub1.out.mono ?_
      rintro _ w5 ⟨rfl, b5⟩
      obtain ⟨V, hV, bV, sV, oV⟩ := tm_box w5 z
      have HV := Lib.hid (And.intro (PAt.past HatE.out.1 (belows b5 bV)) (And.intro oV HatE.out.2))
      clear b5 bV sV oV lub1
      go_upto_region 15 with fail
      rw [← hV]
      clear hV
      go_wp2_with fail
      go_loopw [5, 63] (fun s i wq => ∃ n : Nat, i = .int .i64 (n : Int) ∧ n ≤ Q.length ∧ s = .string ⟨(catQ (Q.drop n)).toArray⟩ ∧ Below V.heap.size V wq)
        (fun _ i _ => Q.length + 1 - (intOf i).toNat)
      case atStart => exact ⟨0, rfl, by omega, rfl, Below.refl _ _⟩
      case round =>
        obtain ⟨n, rfl, hn2, rfl, hb⟩ := hrel
        by_cases hnl : n < Q.length
        · obtain ⟨q, hx⟩ : ∃ q, Q[n]? = some q := ⟨_, List.getElem?_eq_getElem hnl⟩
          obtain ⟨t, htx⟩ : ∃ t, U[n]? = some t := ⟨_, List.getElem?_eq_getElem (by have := HUQ.out; omega)⟩
          have okq := HV.out.1.ok q (List.mem_of_getElem? hx)
          have htl := HV.out.2.2 t (List.mem_of_getElem? htx)
          have hby := beyond_self (List.mem_of_getElem? htx)
          obtain ⟨b6, o6, hA6, hg6, hc6⟩ := HV.out.1.rows hx
          subst hA6
          have c0 := (hb.cell (p := ⟨b6, o6 + n, none⟩) hg6).trans hc6
          have htms := HV.out.1.times
          obtain ⟨b7, o7, hA7, hB7, ht7⟩ := htms.2.2 (by have := HUQ.out; omega)
          subst hA7
          have htm := ht7 n t htx
          have hcl := catQ_len (Q.drop n) fun x hx => HV.out.1.ok x (List.mem_of_mem_drop hx)
          have hdl : (Q.drop n).length * 1000 ≤ 40 * 1000 := Nat.mul_le_mul_right _ (by rw [List.length_drop]; omega)
          have hdr := catQ_drop hx
          have yT : ∀ W, Hid (Calls Try.prog 7 #[.string ⟨(catQ (Q.drop n)).toArray⟩] W fun e w' => ∃ v, e = .returned (.tuple #[v, .string ⟨(catQ (Q.drop (n + 1))).toArray⟩, .int .i64 0]) ∧ w'.ownsRow W.heap.size 64 3 v q.l.length (q.l.flatMap Vl.cells) ∧ Below W.heap.size W w') := fun W => by
            have := take_any ⟨(catQ (Q.drop n)).toArray⟩ W (by rw [sizeL]; unfold maxLen; omega)
            rw [show (⟨(catQ (Q.drop n)).toArray⟩ : ByteArray).data.toList = encS q.l ++ catQ (Q.drop (n + 1)) from hdr, takeR_back okq.chk okq.ok] at this
            unfold TakePost rowOf restOf whyOf at this
            dsimp only at this
            exact Lib.hid this
          have HX := Lib.hid (And.intro okq (And.intro htl (And.intro hby (And.intro htm (And.intro hB7 (And.intro htms hb))))))
          have q2 : (n : Int) < (Q.length : Int) := by omega
          have q3 : (0 : Int) ≤ (n : Int) := by omega
          have q4 : (n : Int) < (U.length : Int) := by have := HUQ.out; omega
          clear okq htl hby hx htx hc6 hg6 htms hB7 ht7 htm hcl hdl hdr hb
          go_wp2_with fail
          refine (yT _).out.mono ?_
          rintro _ w3 ⟨v3, rfl, o3, b3⟩
          obtain ⟨A3, c3, rfl, _, _, u3⟩ := vals_of_own rfl o3
          have hbV := belows HX.out.2.2.2.2.2.2 b3
          have z1 := fun W (hb : Below w3.heap.size w3 W) => Lib.hid (rows_any A3 q.A c3 q.c q.l q.l W (vals_keep u3 hb) (vals_keep HX.out.1.vals (HV.out.1.below.trans ((belows hbV hb).mono HV.out.1.below.size))) HX.out.1.len HX.out.1.len)
          rw [cmpRows_selfS] at z1
          have z2 := fun W => Lib.hid (ahead_any t z W)
          rw [HX.out.2.1] at z2
          have z3 := fun W (hb : Below w3.heap.size w3 W) => Lib.hid (front_any (some ⟨b7, o7, none⟩) c7 U W (times_keep HX.out.2.2.2.2.2.1.2.2 (belows hbV hb)) HU24.out)
          have hfl : (frontL U).length ≤ maxLen := by
            have := frontTo_len (sortT U) (sortT U).length (Nat.le_refl _)
            rw [sortT_len] at this
            show (frontTo (sortT U) (sortT U).length).length ≤ _
            rw [sortT_len]
            have := HUQ.out
            unfold maxLen; omega
          have z4 := fun A c W h => Lib.hid (beyond_any A c (frontL U) t W h hfl)
          rw [HX.out.2.2.1] at z4
          unfold Tm.val at z2 z4
          have HM := Lib.hid (HX.out.2.2.2.1.past hbV HX.out.2.2.2.2.1)
          have HN := Lib.hid (Nat.lt_of_lt_of_le HX.out.2.2.2.2.1 hbV.size)
          have HO := Lib.hid (HV.out.2.1.past hbV HV.out.2.1.inside)
          have H3 := Lib.hid hbV
          clear o3 b3 hbV u3 hfl c0
          go_upto_region 19 with fail
          go_region_held3 (fun w' => Below w3.heap.size w3 w' ∧ w'.cell? ⟨b7, o7 + n * 3, none⟩ = some (.int .u64 (t.e : Int)) ∧ w'.cell? ⟨b7, o7 + n * 3 + 1, none⟩ = some (.int .u64 (t.a : Int)) ∧ w'.cell? ⟨b7, o7 + n * 3 + 2, none⟩ = some (.int .u64 (t.b : Int)) ∧
              w'.cell? ⟨w5.heap.size, 0, none⟩ = some (.int .u64 (z.e : Int)) ∧ w'.cell? ⟨w5.heap.size, 1, none⟩ = some (.int .u64 (z.a : Int)) ∧ w'.cell? ⟨w5.heap.size, 2, none⟩ = some (.int .u64 (z.b : Int)))
            ((refine keepTS HM.out HN.out HO.out ?_; repeat (first | exact Below.refl _ _ | (apply And.left; assumption) | refine below_new ?_ _ | refine Below.drew ?_ | refine belows ?_ hb)))
            (first | (go_at_call 8; refine (z1 _ ?_).out.mono ?_; (repeat (first | exact Below.refl _ _ | (apply And.left; assumption) | refine below_new ?_ _ | refine Below.drew ?_ | refine belows ?_ hb)); rintro e w' ⟨rfl, hb⟩) | (go_at_call 9; refine (z2 _).out.mono ?_; rintro e w' ⟨rfl, hb⟩) | (go_at_call 11; refine (z3 _ ?_).out.mono ?_; (repeat (first | exact Below.refl _ _ | (apply And.left; assumption) | refine below_new ?_ _ | refine Below.drew ?_ | refine belows ?_ hb)); rintro e w' ⟨vf, rfl, hof, hb⟩; obtain ⟨Af, cf, rfl, _, _, htf⟩ := times_of_own rfl hof; have HFr := Lib.hid htf; clear hof htf) | (go_at_call 10; refine (z4 _ _ _ ?_).out.mono ?_; (first | exact HFr.out | exact times_keep HFr.out (Below.refl _ _).drew); rintro e w' ⟨rfl, hb⟩))
          all_goals (go_wp2_with fail; go_roundw)
          all_goals first
            | (refine ⟨n + 1, by go_num, by omega, rfl, belows H3.out ?_⟩; repeat (first | exact Below.refl _ _ | (apply And.left; assumption) | refine below_new ?_ _ | refine Below.drew ?_ | refine belows ?_ hb))
            | (simp [intOf]; omega)
        · have hnE : n = Q.length := by omega
          have hdr : Q.drop n = [] := List.drop_eq_nil_of_le (by omega)
          rw [hdr]
          rw [show (⟨(catQ []).toArray⟩ : ByteArray) = ⟨#[]⟩ from rfl]
          have H7 := Lib.hid (HV.out.1.below.trans (hb.mono HV.out.1.below.size))
          clear hb hdr hnl
          go_wp2_with fail
          go_ret
          exact ⟨rfl, H7.out⟩
end Go.Proofs.Ytammngncmkhokaa
