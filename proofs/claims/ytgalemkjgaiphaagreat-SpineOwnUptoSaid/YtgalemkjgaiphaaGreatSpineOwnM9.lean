/- Part 9 of the texts on which SpineOwn rests: facts and contracts. -/
import Derived.Test.YtgalemkjgaiphaaGreatSpineOwnM8
import Derived.Lib.Bytealg
import Derived.Laws.CopyRow
import Derived.Laws.CopyOwn
import Derived.OwnWalk
import Derived.Lib.AppendZerosOnto
import Derived.Lib.Overlaps
import Derived.Laws.Externs
import Derived.Test.YtgalemkjgaiphaaGreatProg
import Derived.Deep.Draws
import Derived.Deep.RegionLaw
import Derived.Outline
import Derived.Handy
import Derived.Lib.SlBuf
namespace Go.Proofs.YtgalemkjgaiphaaGreat
open Go Go.RowKit

def EndSaysO (m : Mg) (w : World) (x : Ending) (w' : World) : Prop :=
  ∃ (b : Bt) (E : Int), x = .returned (.tuple #[b.val, .int .i64 E]) ∧ (E = 0 ∧ EndOk m ∧ b.f = m.f ∧ b.l.map Up.p = m.o.map Up.p ∨ E = 8 ∧ ¬ EndOk m ∧ b = Bt.nil) ∧ BtIn w' w'.heap.size b ∧ BtOk b ∧ BtLo w.heap.size b ∧ Below w.heap.size w w' ∧ LOpn w' w.heap.size b.uA b.l
set_option maxRecDepth 100000 in
set_option maxHeartbeats 12800000 in
theorem end_anyO (m : Mg) (w : World) (hm : MgIn w w.heap.size m) (hok : MgOk m) (no : m.o.length ≤ 274877906944) :
    Calls Tryz.prog 98 #[m.val] w (EndSaysO m w) := by
  obtain ⟨V, hV, hvb, hvo, hvz⟩ := en_box w m
  have hin := hm.keep hvb
  have y1 := Lib.hid (checkM_any m V hin hok)
  have HB := Lib.hid (And.intro hvb (And.intro hvo hvz))
  have HK := Lib.hid (And.intro hin (And.intro hok no))
  have hmv : m.val = .agg #[.slice m.aA m.a.length m.ac, .slice m.bA m.b.length m.bc, .int .i64 m.i, .int .i64 m.j, .slice m.sA m.f.length m.sc, .slice m.oA m.o.length m.oc] := rfl
  rw [hmv] at y1 ⊢
  obtain ⟨d0, d1, d2, d3, d4, d5⟩ := own6 hvo
  clear hm hok hvb hvo hvz hin hmv no
  go_enter Tryz.func98, Tryz.ntmps98
  go_upto_region 1 with fail
  rw [← hV]
  clear hV
  go_wp2_with fail
  refine y1.out.mono ?_
  rintro _ w1 ⟨n, rfl, hn, b1⟩
  have H1 := Lib.hid (And.intro hn (And.intro (HB.out.1.trans (b1.mono HB.out.1.size)) (And.intro (HB.out.2.1.past b1 HB.out.2.1.inside) (And.intro (HB.out.2.2.past b1 HB.out.2.2.inside) (HK.out.1.keep b1)))))
  clear d0 d1 d2 d3 d4 d5 b1 y1 hn
  by_cases h0 : n = 0
  case neg =>
    have t1 : (n != 0) = true := bne_iff_ne.2 h0
    have hz := H1.out.2.2.2.1
    have f0 := hz.open_ 0
    have f1 := hz.open_ 1
    obtain ⟨d0, d1⟩ := own2 hz
    have hX := (hz.set_ 0 (.slice none 0 0)).set_ 1 (.slice none 0 0)
    have HX := Lib.hid (And.intro (H1.out.2.1.setCell (p := ⟨w.heap.size + 1, 0, none⟩) (Nat.le_succ _) (.slice none 0 0) |>.setCell (p := ⟨w.heap.size + 1, 1, none⟩) (Nat.le_succ _) (.slice none 0 0)) hX)
    have H0 := Lib.hid (show n = 8 ∧ ¬ MOk m from by
      rcases H1.out.1 with ⟨_, e⟩ | ⟨e, e2⟩
      · exact absurd e h0
      · exact ⟨e2, e⟩)
    clear h0 hz hX
    go_wp2_with fail
    obtain ⟨x0, x1⟩ := own2 HX.out.2
    exact bodyPost_ret (v := .tuple #[.agg #[.slice none 0 0, .slice none 0 0], .int .i64 n]) (by simp [results, Tryz.results98, go_sem, x0, x1]) rfl ⟨Bt.nil, n, rfl, .inr ⟨H0.out.1, fun h => H0.out.2 h.1, rfl⟩, bt_nil_in _ _, bt_nil_ok, bt_nil_lo _, HX.out.1, lopn_nil _ _⟩
  subst h0
  have hmok : MOk m := by
    rcases H1.out.1 with ⟨e, _⟩ | ⟨_, e⟩
    · exact e
    · omega
  obtain ⟨i, hi⟩ : ∃ i : Nat, m.i = (i : Int) := ⟨m.i.toNat, by have := hmok.da.lo; omega⟩
  obtain ⟨j, hj⟩ : ∃ j : Nat, m.j = (j : Int) := ⟨m.j.toNat, by have := hmok.db.lo; omega⟩
  have hil : i ≤ m.a.length := by have := hmok.da.hi; omega
  have hjl : j ≤ m.b.length := by have := hmok.db.hi; omega
  have hna := HK.out.2.1.a.n
  have hnb := HK.out.2.1.b.n
  obtain ⟨d0, d1, d2, d3, d4, d5⟩ := own6 H1.out.2.2.1
  rw [hi] at d2
  rw [hj] at d3
  obtain ⟨V2, hV2⟩ : ∃ V2, V2 = w1.alloc (.cells #[.slice m.aA m.a.length m.ac, .slice m.bA m.b.length m.bc, .int .i64 (i : Int), .int .i64 (j : Int), .slice m.sA m.f.length m.sc, .slice m.oA m.o.length m.oc, .int .i64 0] 129) := ⟨_, rfl⟩
  have hbV : Below w1.heap.size w1 V2 := by rw [hV2]; exact (Below.refl _ _).alloc (Nat.le_refl _) _
  have hP : Own V2 w1.heap.size 129 (mcells m i j (.slice m.oA m.o.length m.oc) 0) := by rw [hV2]; exact Own.made w1 _ (mcells m i j (.slice m.oA m.o.length m.oc) 0)
  have y2 := Lib.hid (left_any w1.heap.size m i j 0 _ V2 hP (by omega) (by omega) hna hnb)
  have H2 := Lib.hid (And.intro (H1.out.2.1.trans (hbV.mono H1.out.2.1.size)) (And.intro (H1.out.2.2.1.past hbV H1.out.2.2.1.inside) (And.intro (H1.out.2.2.2.1.past hbV H1.out.2.2.2.1.inside) (And.intro (H1.out.2.2.2.2.keep hbV) (And.intro hmok (And.intro hi hj))))))
  have HR := Lib.hid hV2
  clear hbV hP hmok hi hj hV2
  by_cases hlf : i < m.a.length ∨ j < m.b.length
  case pos =>
    have hD : decide (i < m.a.length ∨ j < m.b.length) = true := decide_eq_true hlf
    rw [hD] at y2
    have H0 := Lib.hid (show ¬ EndOk m from fun h => by have h1 := h.2.1; have h2 := h.2.2; rw [H2.out.2.2.2.2.2.1] at h1; rw [H2.out.2.2.2.2.2.2] at h2; omega)
    clear hD hlf
    go_wp2_with fail
    rw [← HR.out]
    refine y2.out.mono ?_
    rintro _ wl ⟨rfl, q, hq⟩
    have hz : Own wl (w.heap.size + 1) 39 [.slice none 0 0, .slice none 0 0] := hq ▸ H2.out.2.2.1.draws q
    have hb9 : Below w.heap.size w wl := hq ▸ below_draws H2.out.1 q
    have f0 := hz.open_ 0
    have f1 := hz.open_ 1
    clear d0 d1 d2 d3 d4 d5 hq y2
    obtain ⟨d0, d1⟩ := own2 hz
    have hX := (hz.set_ 0 (.slice none 0 0)).set_ 1 (.slice none 0 0)
    have HX := Lib.hid (And.intro (hb9.setCell (p := ⟨w.heap.size + 1, 0, none⟩) (Nat.le_succ _) (.slice none 0 0) |>.setCell (p := ⟨w.heap.size + 1, 1, none⟩) (Nat.le_succ _) (.slice none 0 0)) hX)
    clear hz hX hb9
    go_wp2_with fail
    obtain ⟨x0, x1⟩ := own2 HX.out.2
    exact bodyPost_ret (v := .tuple #[.agg #[.slice none 0 0, .slice none 0 0], .int .i64 8]) (by simp [results, Tryz.results98, go_sem, x0, x1]) rfl ⟨Bt.nil, 8, rfl, .inr ⟨rfl, H0.out, rfl⟩, bt_nil_in _ _, bt_nil_ok, bt_nil_lo _, HX.out.1, lopn_nil _ _⟩
  have hD : decide (i < m.a.length ∨ j < m.b.length) = false := decide_eq_false hlf
  rw [hD] at y2
  have H0 := Lib.hid (show EndOk m from ⟨H2.out.2.2.2.2.1, by rw [H2.out.2.2.2.2.2.1]; omega, by rw [H2.out.2.2.2.2.2.2]; omega⟩)
  clear hD hlf
  go_wp2_with fail
  rw [← HR.out]
  refine y2.out.mono ?_
  rintro _ wl ⟨rfl, q, hq⟩
  have hz : Own wl (w.heap.size + 1) 39 [.slice none 0 0, .slice none 0 0] := hq ▸ H2.out.2.2.1.draws q
  have hm9 : Own wl w.heap.size 41 m.cells := hq ▸ H2.out.2.1.draws q
  have hb9 : Below w.heap.size w wl := hq ▸ below_draws H2.out.1 q
  have hi9 : MgIn wl wl.heap.size m := hq ▸ H2.out.2.2.2.1.keep (below_draws (Below.refl _ _) q)
  clear d0 d1 d2 d3 d4 d5 hq y2
  obtain ⟨d0, d1, d2, d3, d4, d5⟩ := own6 hm9
  have y3 := Lib.hid (copyB_anyO ⟨m.sA, m.sc, m.f, m.oA, m.oc, m.o⟩ wl ⟨hi9.f, hi9.o⟩ ⟨HK.out.2.1.f, HK.out.2.1.o⟩ H0.out.1.even.2.2.2.2 HK.out.2.2)
  rw [show (Bt.mk m.sA m.sc m.f m.oA m.oc m.o).val = .agg #[.slice m.sA m.f.length m.sc, .slice m.oA m.o.length m.oc] from rfl] at y3
  have H9 := Lib.hid (And.intro hz hb9)
  clear hz hm9 hb9 hi9
  go_wp2_with fail
  refine y3.out.mono ?_
  rintro _ w5 ⟨b, rfl, hs5, hi5, ho5, hl5, b5, hop⟩
  have hz := H9.out.1.past b5 H9.out.1.inside
  have f0 := hz.open_ 0
  have f1 := hz.open_ 1
  clear d0 d1 d2 d3 d4 d5 y3
  obtain ⟨d0, d1⟩ := own2 hz
  have hX := (hz.set_ 0 (.slice b.sA b.f.length b.sc)).set_ 1 (.slice b.uA b.l.length b.uc)
  obtain ⟨s1, s2⟩ := set2_other w5 (w.heap.size + 1) (.slice b.sA b.f.length b.sc) (.slice b.uA b.l.length b.uc)
  have hin9 := H9.out.1.inside
  have hw9 := H9.out.2.size
  have HOP := Lib.hid ((hop.other (P := w.heap.size + 1) hin9 s2).low hw9)
  clear hop
  have HX := Lib.hid (And.intro ((H9.out.2.trans (b5.mono H9.out.2.size)).setCell (p := ⟨w.heap.size + 1, 0, none⟩) (Nat.le_succ _) (.slice b.sA b.f.length b.sc) |>.setCell (p := ⟨w.heap.size + 1, 1, none⟩) (Nat.le_succ _) (.slice b.uA b.l.length b.uc)) (And.intro hX (And.intro (And.intro (times_other hi5.since (hl5.f.mono (by omega)) s1 s2) (ups_other hi5.ups (hl5.l.mono (by omega)) s1 s2)) (And.intro (hl5.mono (by omega)) (And.intro ho5 hs5)))))
  clear hz hX s1 s2 hin9 hw9 hs5 hi5 ho5 hl5 b5
  unfold Bt.val
  go_wp2_with fail
  obtain ⟨x0, x1⟩ := own2 HX.out.2.1
  exact bodyPost_ret (v := .tuple #[.agg #[.slice b.sA b.f.length b.sc, .slice b.uA b.l.length b.uc], .int .i64 0]) (by simp [results, Tryz.results98, go_sem, x0, x1]) rfl ⟨b, 0, rfl, .inl ⟨rfl, H0.out, HX.out.2.2.2.2.2.f, HX.out.2.2.2.2.2.l⟩, ⟨HX.out.2.2.1.1, HX.out.2.2.1.2⟩, HX.out.2.2.2.2.1, HX.out.2.2.2.1, HX.out.1, HOP.out⟩
end Go.Proofs.YtgalemkjgaiphaaGreat
namespace Go.Proofs.YtgalemkjgaiphaaGreat
open Go Go.RowKit

def SpoilR (W : World) (B : Nat) (A : Option Addr) (n : Nat) : Prop := 0 < n → ∃ b o, A = some (⟨b, o, none⟩ : Addr) ∧ B ≤ b ∧ ∀ k, k < n → (∃ x : Int, W.cell? ⟨b, o + k * 3 + 1, none⟩ = some (.int .i64 x)) ∧ W.frozen? ⟨b, o + k * 3 + 1, none⟩ = false
structure SpoilU (W : World) (B b o : Nat) (u : Up) : Prop where
  row : W.cell? ⟨b, o + 1, none⟩ = some (.slice u.rA u.row.length u.rc)
  diff : ∃ x : Int, W.cell? ⟨b, o + 5, none⟩ = some (.int .i64 x)
  free : W.frozen? ⟨b, o + 5, none⟩ = false
  vals : SpoilR W B u.rA u.row.length
def SpoilL (W : World) (B : Nat) (A : Option Addr) (l : List Up) : Prop := 0 < l.length → ∃ b o, A = some (⟨b, o, none⟩ : Addr) ∧ B ≤ b ∧ ∀ i u, l[i]? = some u → SpoilU W B b (o + i * 6) u
theorem SpoilR.past {B n : Nat} {V W : World} {A : Option Addr} (h : SpoilR V B A n) (k : IntsOnly B V W) : SpoilR W B A n := fun hp => by
  obtain ⟨b, o, e, hb, hc⟩ := h hp
  refine ⟨b, o, e, hb, fun i hi => ?_⟩
  obtain ⟨⟨x, hx⟩, hf⟩ := hc i hi
  exact ⟨k.int hx, (k.open_ _).trans hf⟩
theorem SpoilU.past {B b o : Nat} {V W : World} {u : Up} (h : SpoilU V B b o u) (k : IntsOnly B V W) : SpoilU W B b o u := by
  obtain ⟨x, hx⟩ := h.diff
  exact ⟨k.slice h.row, k.int hx, (k.open_ _).trans h.free, h.vals.past k⟩
theorem SpoilL.past {B : Nat} {V W : World} {A : Option Addr} {l : List Up} (h : SpoilL V B A l) (k : IntsOnly B V W) : SpoilL W B A l := fun hp => by
  obtain ⟨b, o, e, hb, hc⟩ := h hp
  exact ⟨b, o, e, hb, fun i u hu => (hc i u hu).past k⟩
theorem spoil_row {W : World} {B : Nat} {A : Option Addr} {l : List Vl} (h : Vals W W.heap.size A l) (ho : OpnC W B A l.length) : SpoilR W B A l.length := fun hp => by
  obtain ⟨b, o, e, _, hc⟩ := h hp
  refine ⟨b, o, e, (ho hp b o e).1, fun k hk => ?_⟩
  obtain ⟨_, h1, _⟩ := hc k _ (List.getElem?_eq_getElem hk)
  exact ⟨⟨_, h1⟩, (ho hp).free e _⟩
theorem spoil_list {W : World} {B : Nat} {A : Option Addr} {l : List Up} (h : Ups W W.heap.size A l) (ho : LOpnC W B A l) : SpoilL W B A l := fun hp => by
  obtain ⟨b, o, e, _, hc⟩ := lies_up h.head hp
  refine ⟨b, o, e, (ho.1 hp b o e).1, fun i u hu => ?_⟩
  have hm := List.mem_of_getElem? hu
  obtain ⟨_, c1, _, _, _, c5⟩ := (hc i u hu).six
  exact ⟨c1, ⟨_, c5⟩, (ho.1 hp).free e _, spoil_row (h.each_ u hm).row (ho.2 u hm).2⟩
end Go.Proofs.YtgalemkjgaiphaaGreat
namespace Go.Proofs.YtgalemkjgaiphaaGreat
open Go Go.RowKit

structure Fl where
  n : ByteArray
  d : ByteArray
instance : Inhabited Fl := ⟨⟨⟨#[]⟩, ⟨#[]⟩⟩⟩
def cmpN (a b : ByteArray) : Int := Lib.compareBytes a.data.toList b.data.toList
def SortedN (ns : List ByteArray) : Prop := ns.Pairwise (fun a b => cmpN a b < 0)
def posN (ns : List ByteArray) (n : ByteArray) : Nat := ns.countP (fun x => decide (cmpN x n < 0))
def hasN (ns : List ByteArray) (n : ByteArray) : Bool := ns.any (fun x => decide (x = n))
def namesF (l : List Fl) : List ByteArray := l.map Fl.n
def SortedF (l : List Fl) : Prop := SortedN (namesF l)
def posF (l : List Fl) (n : ByteArray) : Nat := posN (namesF l) n
def hasF (l : List Fl) (n : ByteArray) : Bool := hasN (namesF l) n
def putF (l : List Fl) (f : Fl) : List Fl := l.take (posF l f.n) ++ f :: l.drop (posF l f.n)
def takeF (l : List Fl) (n : ByteArray) : List Fl := if hasF l n then l.take (posF l n) ++ l.drop (posF l n + 1) else l
def oldF (l : List Fl) (n : ByteArray) : Fl := (l[posF l n]?).getD ⟨n, ⟨#[]⟩⟩
def extF (l : List Fl) (n d : ByteArray) : List Fl := if hasF l n then l.set (posF l n) ⟨n, (oldF l n).d ++ d⟩ else putF l ⟨n, ⟨#[]⟩ ++ d⟩
def renF (l : List Fl) (n t : ByteArray) : List Fl := if hasF l n then putF (takeF (takeF l n) t) ⟨t, (oldF l n).d⟩ else l
def getF (l : List Fl) (n : ByteArray) : Option ByteArray := (l.find? (fun f => decide (f.n = n))).map Fl.d
def szF (l : List Fl) : Nat := (l.map (fun f => f.d.size)).sum
structure Wr where
  k : Int
  n : ByteArray
  t : ByteArray
  d : ByteArray
instance : Inhabited Wr := ⟨⟨0, ⟨#[]⟩, ⟨#[]⟩, ⟨#[]⟩⟩⟩
def appF (l : List Fl) (w : Wr) : List Fl := if w.k = 1 then extF l w.n w.d else if w.k = 2 then renF l w.n w.t else if w.k = 3 then takeF l w.n else l
def baseF (fs : List Fl) : List Fl := fs.foldl (fun l f => extF l f.n f.d) []
def lookF (fs : List Fl) (ws : List Wr) : List Fl := ws.foldl appF (baseF fs)
end Go.Proofs.YtgalemkjgaiphaaGreat
namespace Go.Proofs.YtgalemkjgaiphaaGreat
open Go Go.RowKit

def splice (l : List Value) (o : Nat) (vs : List Value) : List Value := l.take o ++ vs ++ l.drop (o + vs.length)
theorem splice_len {l : List Value} {o : Nat} {vs : List Value} (h : o + vs.length ≤ l.length) : (splice l o vs).length = l.length := by
  unfold splice; simp; omega
theorem own_rowK {w : World} {g : Nat} {t : TypeId} {cur cs : List Value} (h : Own w g t cur) : Own (w.setRow g cs.toArray) g t cs := by
  unfold Own at *
  simp [World.setRow, Array.getElem?_modify, h]
theorem row_other {w : World} {g k : Nat} {cs : Array Value} (h : k ≠ g) : (w.setRow g cs).heap[k]? = w.heap[k]? := setRow_other w g k cs h
structure KeptK (w w' : World) (S : Nat → Prop) : Prop where
  os : w'.os = w.os
  tape : w'.tape = w.tape
  output : w'.output = w.output
  size : w.heap.size ≤ w'.heap.size
  block : ∀ k, k < w.heap.size → ¬ S k → w'.heap[k]? = w.heap[k]?
section
variable {w w' w'' : World} {S T : Nat → Prop}
theorem KeptK.refl (w : World) (S : Nat → Prop) : KeptK w w S := ⟨rfl, rfl, rfl, Nat.le_refl _, fun _ _ _ => rfl⟩
theorem KeptK.trans (h : KeptK w w' S) (k : KeptK w' w'' T) (hs : ∀ b, b < w.heap.size → T b → S b) : KeptK w w'' S :=
  ⟨k.os.trans h.os, k.tape.trans h.tape, k.output.trans h.output, Nat.le_trans h.size k.size,
    fun b hb hn => (k.block b (Nat.lt_of_lt_of_le hb h.size) (fun ht => hn (hs b hb ht))).trans (h.block b hb hn)⟩
theorem KeptK.more (h : KeptK w w' S) (hs : ∀ b, S b → T b) : KeptK w w' T := ⟨h.os, h.tape, h.output, h.size, fun b hb hn => h.block b hb (fun x => hn (hs b x))⟩
theorem KeptK.of_below {B : Nat} (h : Below B w w') (hB : w.heap.size ≤ B) (S : Nat → Prop) : KeptK w w' S := ⟨h.os, h.tape, h.output, h.size, fun b hb _ => h.block b (by omega)⟩
theorem KeptK.of_grown {o : Option Nat} (h : w.grownBy w' o) (hs : ∀ b, o = some b → S b) : KeptK w w' S :=
  ⟨h.os, h.tape, h.output, h.size, fun b hb hn => h.block b hb (fun e => hn (hs b e.symm))⟩
theorem KeptK.below {B : Nat} (h : KeptK w w' S) (hB : ∀ b, S b → B ≤ b) (hs : B ≤ w.heap.size) : Below B w w' := ⟨h.os, h.tape, h.output, h.size, fun b hb => h.block b (by omega) (fun x => by have := hB b x; omega)⟩
theorem KeptK.row {base : Nat} {e : TypeId} {size : Nat} {v : Value} {n : Nat} {xs : List Value} (h : KeptK w w' S) (ho : w.ownsRow base e size v n xs) (hn : ∀ k, v.ownBlock = some k → ¬ S k) : w'.ownsRow base e size v n xs := by
  refine ⟨ho.1, ?_⟩
  rcases ho.2 with h0 | ⟨g, cap, cur, rfl, hb, hg, rest⟩
  · exact .inl h0
  · refine .inr ⟨g, cap, cur, rfl, hb, ?_, rest⟩
    rw [h.block g (Array.getElem?_eq_some_iff.1 hg).1 (hn g rfl)]
    exact hg
theorem KeptK.own {g : Nat} {t : TypeId} {l : List Value} (h : KeptK w w' S) (ho : Own w g t l) (hn : ¬ S g) : Own w' g t l := (h.block g ho.inside hn).trans ho
theorem KeptK.set_ (h : KeptK w w' S) {g o : Nat} (hg : S g ∨ w.heap.size ≤ g) (u : Value) : KeptK w (w'.setCell ⟨g, o, none⟩ u) S :=
  ⟨h.os, h.tape, h.output, by simpa using h.size, fun b hb hn => (Below.heap_setCell w' ⟨g, o, none⟩ u b (by intro e; dsimp only at e; subst e; rcases hg with h1 | h1; exact hn h1; omega)).trans (h.block b hb hn)⟩
theorem KeptK.alloc (h : KeptK w w' S) (o : Obj) : KeptK w (w'.alloc o) S := ⟨h.os, h.tape, h.output, Nat.le_trans h.size (by simp), fun b hb hn => (Below.heap_alloc w' o b (Nat.lt_of_lt_of_le hb h.size)).trans (h.block b hb hn)⟩
theorem KeptK.drew (h : KeptK w w' S) : KeptK w w'.drew S := ⟨h.os, h.tape, h.output, h.size, h.block⟩
end
theorem row_ownK {w : World} {base c n size : Nat} {e : TypeId} {A : Option Addr} {xs : List Value} (h : w.ownsRow base e size (.slice A n c) n xs) :
    (A = none ∧ n = 0 ∧ c = 0 ∧ xs = []) ∨ ∃ g cur, A = some ⟨g, 0, none⟩ ∧ base ≤ g ∧ Own w g e cur ∧ n ≤ c ∧ c ≤ maxLen ∧ cur.length = c * size ∧ cur.take (n * size) = xs := by
  rcases h.2 with ⟨h0, h1⟩ | ⟨g, cap, cur, hv, hb, hg, h1, h2, h3, h4⟩
  · simp only [Value.slice.injEq] at h0
    refine .inl ⟨h0.1, h1, h0.2.2, ?_⟩
    have := h.1
    rw [h1] at this
    exact List.length_eq_zero_iff.1 (by omega)
  · simp only [Value.slice.injEq] at hv
    obtain ⟨rfl, _, rfl⟩ := hv
    exact .inr ⟨g, cur.toList, rfl, hb, by unfold Own; simpa using hg, h1, h2, by simpa using h3, h4⟩
theorem own_to_row {w : World} {base g c n size : Nat} {e : TypeId} {cur : List Value} (h : Own w g e cur) (hb : base ≤ g) (hn : n ≤ c) (hm : c ≤ maxLen) (hl : cur.length = c * size) :
    w.ownsRow base e size (.slice (some ⟨g, 0, none⟩) n c) n (cur.take (n * size)) :=
  ⟨by rw [List.length_take, hl]; exact Nat.min_eq_left (Nat.mul_le_mul_right _ hn), .inr ⟨g, c, cur.toArray, rfl, hb, h, hn, hm, by simpa using hl, by simp⟩⟩
theorem run_copy_into {P : Program} (w : World) (dT sT ty elem : TypeId) (g o dLen dCap : Nat) (a : Addr) (sLen sCap k : Nat) (cur cs : List Value) (t : TypeId) (hu : P.underlying dT = some (.slice elem)) (hs : (P.info? elem).map (·.size) = some k)
    (hg : Own w g t cur) (hn : cs.length = Nat.min sLen dLen * k) (hsrc : ∀ j v, cs[j]? = some v → w.cell? (a.add j) = some v) (hfit : o + cs.length ≤ cur.length) (h1 : ∀ v ∈ cs, v.oneCell' = true) :
    (Builtin.copy_ #[dT, sT] ty #[.slice (some ⟨g, o, none⟩) dLen dCap, .slice (some a) sLen sCap]).run P w = .ok (goInt (Nat.min sLen dLen)) (w.setRow g (splice cur o cs).toArray) := by
  have hl := run_loadCells_list (P := P) w a cs hsrc
  have hst := run_storeCells_at P g o t cs 0 cur.toArray w hg (by simpa using hfit) h1
  simp only [Nat.add_zero] at hst
  cases hq : P.info? elem with
  | none => simp [hq] at hs
  | some i =>
    have hi : i.size = k := by simpa [hq] using hs
    simp [Builtin.copy_, run_underlying hu, Builtin.lenOf, Builtin.firstCells, sizeOf, typeInfo, hq, hi, ← hn, hl, hst, splice]
theorem run_clear_one {P : Program} (w : World) (t e ty tt : TypeId) (z : Value) (ht : P.underlying t = some (.slice e)) (hv : ∀ w, (zeroValue e).run P w = .ok z w) (h1 : ∀ u ∈ z.cells.toList, u.oneCell' = true) (g o c : Nat) (cur : List Value) (hg : Own w g tt cur)
    (hfit : o + z.cells.size ≤ cur.length) :
    (Builtin.clear_ #[t] ty #[.slice (some ⟨g, o, none⟩) 1 c]).run P w = .ok (.tuple #[]) (w.setRow g (splice cur o z.cells.toList).toArray) := by
  have hz : (Builtin.zeroCells z.cells 1).toList = z.cells.toList := by
    unfold Builtin.zeroCells
    apply List.ext_getElem
    · simp
    · intro i h1 h2
      simp at h1 h2 ⊢
      rw [getElem!_pos z.cells (i % z.cells.size) (by rw [Nat.mod_eq_of_lt h1]; exact h1)]
      simp [Nat.mod_eq_of_lt h1]
  have hst := run_storeCells_at P g o tt z.cells.toList 0 cur.toArray w hg (by simpa using hfit) h1
  simp only [Nat.add_zero] at hst
  simp [Builtin.clear_, run_underlying ht, hv, hz, hst, splice]
theorem step_append_known {P : Program} {ops : Array Oper} {o : Oper} {a : Act} {w : World} {K : Act → World → Prop} {Q : Exit → Act → World → Prop} {E : Prop}
    (hg : o.guard = none) (d x : Operand) (dT sT : TypeId) (hop : o.op = Op.call { callee := Callee.builtin Builtin.append, args := #[d, x], argTypes := #[dT, sT] })
    (v u : Value) (hd : a.eval d = v) (hx : a.eval x = u) {v' : Value} {w' : World} (hr : (Builtin.append_ #[dT, sT] o.type #[v, u]).run P w = .ok v' w') (hK : K (a.put o.dst v') w') :
    if Region.wanted o (yielded ops a.tmps) = true then Oper.wp P o a w K Q else E := by
  have hw : Region.wanted o (yielded ops a.tmps) = true := by simp [Region.wanted, hg]
  rw [if_pos hw]
  unfold Oper.wp
  simp [execOp, hop, resolve, invoke, builtin, hd, hx, hr, Result.andThen]
  exact hK
theorem step_copy_known {P : Program} {ops : Array Oper} {o : Oper} {a : Act} {w : World} {K : Act → World → Prop} {Q : Exit → Act → World → Prop} {E : Prop}
    (hg : o.guard = none) (d x : Operand) (dT sT : TypeId) (hop : o.op = Op.call { callee := Callee.builtin Builtin.copy, args := #[d, x], argTypes := #[dT, sT] })
    (v u : Value) (hd : a.eval d = v) (hx : a.eval x = u) {v' : Value} {w' : World} (hr : (Builtin.copy_ #[dT, sT] o.type #[v, u]).run P w = .ok v' w') (hK : K (a.put o.dst v') w') :
    if Region.wanted o (yielded ops a.tmps) = true then Oper.wp P o a w K Q else E := by
  have hw : Region.wanted o (yielded ops a.tmps) = true := by simp [Region.wanted, hg]
  rw [if_pos hw]
  unfold Oper.wp
  simp [execOp, hop, resolve, invoke, builtin, hd, hx, hr, Result.andThen]
  exact hK
theorem list_append_known {P : Program} (w : World) {ops : Array Oper} {rest : List Oper} {o : Oper} {a : Act} {Q : Exit → Act → World → Prop} (hgd : o.guard = none) (d s : Operand) (t t' : TypeId)
    (ho : o.op = .call { callee := .builtin .append, args := #[d, s], argTypes := #[t, t'] }) (v u : Value) (hd : a.eval d = v) (hs : a.eval s = u) {v' : Value} {w' : World}
    (hr : (Builtin.append_ #[t, t'] o.type #[v, u]).run P w = .ok v' w') (h : wpList P ops Q rest (a.put o.dst v') w') : wpList P ops Q (o :: rest) a w := by
  refine wpList_plain hgd fun K hK => ?_
  unfold Oper.wp execOp
  simp only [ho, resolve, invoke, builtin, Sem.run_bind, Sem.run_pure, Result.andThen_ok, List.map_toArray, List.map_cons, List.map_nil, hd, hs, hr]
  exact hK _ _ h
theorem list_copy_known {P : Program} (w : World) {ops : Array Oper} {rest : List Oper} {o : Oper} {a : Act} {Q : Exit → Act → World → Prop} (hgd : o.guard = none) (d s : Operand) (t t' : TypeId)
    (ho : o.op = .call { callee := .builtin .copy, args := #[d, s], argTypes := #[t, t'] }) (v u : Value) (hd : a.eval d = v) (hs : a.eval s = u) {v' : Value} {w' : World}
    (hr : (Builtin.copy_ #[t, t'] o.type #[v, u]).run P w = .ok v' w') (h : wpList P ops Q rest (a.put o.dst v') w') : wpList P ops Q (o :: rest) a w := by
  refine wpList_plain hgd fun K hK => ?_
  unfold Oper.wp execOp
  simp only [ho, resolve, invoke, builtin, Sem.run_bind, Sem.run_pure, Result.andThen_ok, List.map_toArray, List.map_cons, List.map_nil, hd, hs, hr]
  exact hK _ _ h
end Go.Proofs.YtgalemkjgaiphaaGreat
namespace Go.Proofs.YtgalemkjgaiphaaGreat
open Go Go.RowKit

structure EqS (f : List Tm) (X Y : List Up) : Prop where
  l : chkUs X = 0
  r : chkUs Y = 0
  s : ∀ k, sumOf Uk.cmp ((advL f X).map Up.p) k = sumOf Uk.cmp ((advL f Y).map Up.p) k
theorem chkUs_join {a b : List Up} (h : chkUs a = 0) (k : chkUs b = 0) : chkUs (a ++ b) = 0 :=
  chkUs_all.2 fun u hu => by
    rcases List.mem_append.1 hu with hu | hu
    · exact chkUs_all.1 h u hu
    · exact chkUs_all.1 k u hu
theorem chkUs_parts {a b : List Up} (h : chkUs (a ++ b) = 0) : chkUs a = 0 ∧ chkUs b = 0 :=
  ⟨chkUs_all.2 fun u hu => chkUs_all.1 h u (List.mem_append_left _ hu), chkUs_all.2 fun u hu => chkUs_all.1 h u (List.mem_append_right _ hu)⟩
section
variable {f g : List Tm} {X Y Z W : List Up}
theorem EqS.refl (h : chkUs X = 0) : EqS f X X := ⟨h, h, fun _ => rfl⟩
theorem EqS.symm (h : EqS f X Y) : EqS f Y X := ⟨h.r, h.l, fun k => (h.s k).symm⟩
theorem EqS.trans (h : EqS f X Y) (k : EqS f Y Z) : EqS f X Z := ⟨h.l, k.r, fun x => (h.s x).trans (k.s x)⟩
theorem EqS.app (h : EqS f X Y) (k : EqS f Z W) : EqS f (X ++ Z) (Y ++ W) := ⟨chkUs_join h.l k.l, chkUs_join h.r k.r, fun x => by
  simp only [advL, List.map_append, sumOf_append]
  exact congr (congrArg HAdd.hAdd (h.s x)) (k.s x)⟩
theorem EqS.perm (h : chkUs X = 0) (k : X.Perm Y) : EqS f X Y := ⟨h, chkUs_all.2 fun u hu => chkUs_all.1 h u (k.symm.subset hu), fun x => sumOf_perm ((k.map _).map _) x⟩
theorem EqS.of_p (h : chkUs X = 0) (k : X.map Up.p = Y.map Up.p) : EqS f X Y := ⟨h, by rw [← chkUs_p k]; exact h, fun x => by rw [advL_p f k]⟩
theorem EqS.nz_ (h : EqS f X Y) (hf : ∀ x ∈ f, x.right = true) : nz Uk.cmp ((advL f X).map Up.p) = nz Uk.cmp ((advL f Y).map Up.p) := nz_ext uk_lin (adv_keys hf h.l) (adv_keys hf h.r) h.s
theorem EqS.cons (h : EqS f X Y) (hf : ∀ x ∈ f, x.right = true) : consL [advL f X] = consL [advL f Y] ∧ consE [advL f X] = consE [advL f Y] := by
  have h1 : chkLs [advL f X] = 0 := chkLs_all.2 fun m hm => by obtain rfl : m = advL f X := (by simpa using hm); exact (chkUs_adv hf X).trans h.l
  have h2 : chkLs [advL f Y] = 0 := chkLs_all.2 fun m hm => by obtain rfl : m = advL f Y := (by simpa using hm); exact (chkUs_adv hf Y).trans h.r
  unfold consL consE
  rw [if_pos h1, if_pos h1, if_pos h2, if_pos h2]
  simp only [List.flatten_cons, List.flatten_nil, List.append_nil]
  exact resL_ext uk_lin (adv_keys hf h.l) (adv_keys hf h.r) h.s
theorem EqS.psum_ (h : EqS f X Y) (hf : ∀ x ∈ f, x.right = true) (p : Uk → Bool) : psum p ((advL f X).map Up.p) = psum p ((advL f Y).map Up.p) := by
  rw [← psum_nz uk_lin p (adv_keys hf h.l), ← psum_nz uk_lin p (adv_keys hf h.r), h.nz_ hf]
theorem EqS.at_ (h : EqS f X Y) (hf : ∀ x ∈ f, x.right = true) : SameAt f X Y := fun t ht r => by
  rw [← atP_adv ht X, ← atP_adv ht Y, at_sum, at_sum]
  exact h.psum_ hf _
theorem sum_adv (g : List Tm) (k : Uk) : ∀ l : List Up, sumOf Uk.cmp ((advL g l).map Up.p) k = psum (fun x : Uk => decide (Uk.cmp ⟨x.key, x.row, adv x.t g⟩ k = 0)) (l.map Up.p)
  | [] => rfl
  | u :: l => by
    have ih := sum_adv g k l
    unfold advL at ih ⊢
    simp only [List.map_cons, sumOf, psum]
    rw [ih]
    have e : Uk.cmp (Up.p (Up.advd g u)).1 k = Uk.cmp ⟨(Up.p u).1.key, (Up.p u).1.row, adv (Up.p u).1.t g⟩ k := rfl
    rw [e]
    by_cases h : Uk.cmp ⟨(Up.p u).1.key, (Up.p u).1.row, adv (Up.p u).1.t g⟩ k = 0
    · rw [if_pos h, if_pos (by simpa using h)]; rfl
    · rw [if_neg h, if_neg (by simpa using h)]
theorem adv_far (h : LaterF g f) (l : List Up) : advL g (advL f l) = advL g l := by
  unfold advL
  rw [List.map_map]
  refine List.map_congr_left fun u _ => ?_
  show Up.advd g (Up.advd f u) = Up.advd g u
  unfold Up.advd
  rcases h with rfl | ⟨h1, h2⟩
  · rfl
  · dsimp only
    rw [adv_later u.t f g h1 h2]
theorem EqS.later (h : EqS f X Y) (hf : ∀ x ∈ f, x.right = true) (k : LaterF g f) : EqS g X Y := ⟨h.l, h.r, fun x => by
  rw [← adv_far k X, ← adv_far k Y, sum_adv, sum_adv]
  exact h.psum_ hf _⟩
theorem eqs_cons {e : List Up} (hf : ∀ x ∈ f, x.right = true) (h : consE [advL f X] = 0) (he : e.map Up.p = consL [advL f X]) : EqS f e X := by
  obtain ⟨h1, h2, h3⟩ := cons_chk h
  have hl : chkUs (advL f X) = 0 := chkLs_all.1 h1 _ (by simp)
  simp only [List.flatten_cons, List.flatten_nil, List.append_nil] at h2 h3
  have hX : chkUs X = 0 := (chkUs_adv hf X).symm.trans hl
  have hev := cons_even h he
  have hid : advL f e = e := advL_id (batch_advd h he)
  refine ⟨hev.2.2, hX, fun k => ?_⟩
  rw [hid, he, h3, (resE_zero h2).1, nz_sum uk_lin]
end
theorem even_nz {l : List Up} (h : EvenP l) (ok : ∀ u ∈ l, UOk u) : nz Uk.cmp (l.map Up.p) = l.map Up.p ∧ resE Uk.cmp (l.map Up.p) = 0 := by
  have hR := keys_right (chkUs_all.1 h.2.2)
  have e : nz Uk.cmp (l.map Up.p) = l.map Up.p := srt_ext uk_lin _ _ (nz_srt uk_lin _) h.2.1 fun y => by
    rw [nz_mem uk_lin hR]
    constructor
    · rintro ⟨h1, h2, h3⟩
      obtain ⟨x, hx, hc⟩ := sumOf_some (h2 ▸ h3)
      have e : x.1 = y.1 := (uk_lin.eq _ _ (hR x hx) h1).1 hc
      have := srt_sum uk_lin h.2.1 hx
      rw [e, ← h2] at this
      have exy : x = y := Prod.ext e this.symm
      rw [← exy]
      exact hx
    · intro hy
      refine ⟨hR y hy, (srt_sum uk_lin h.2.1 hy).symm, ?_⟩
      obtain ⟨u, hu, rfl⟩ := List.mem_map.1 hy
      exact h.1 u hu
  refine ⟨e, ?_⟩
  unfold resE
  rw [if_pos]
  rw [fit_all, e, List.all_eq_true]
  intro x hx
  obtain ⟨u, hu, rfl⟩ := List.mem_map.1 hx
  exact (fits_iff _).2 (ok u hu).dn
end Go.Proofs.YtgalemkjgaiphaaGreat
namespace Go.Proofs.YtgalemkjgaiphaaGreat
open Go Go.RowKit

def partsM (m : Mg) : List Up := m.a.drop m.i.toNat ++ (m.b.drop m.j.toNat ++ m.o)
def leftM (m : Mg) : Nat := (m.a.length - m.i.toNat) + (m.b.length - m.j.toNat)
theorem work_shift (f : List Tm) (fuel : Int) (X Y : List Up) : ∀ (n : Nat) (s : MS), workM f fuel n { s with ta := X ++ s.ta, tb := Y ++ s.tb } = { workM f fuel n s with ta := X ++ (workM f fuel n s).ta, tb := Y ++ (workM f fuel n s).tb }
  | 0, _ => rfl
  | n + 1, s => by
    by_cases hlt : (s.cost : Int) < fuel
    · cases hu : nextM s.ra s.rb with
      | none =>
        have e1 : workM f fuel (n + 1) s = s := by unfold workM; rw [if_pos hlt, hu]
        have e2 : workM f fuel (n + 1) { s with ta := X ++ s.ta, tb := Y ++ s.tb } = { s with ta := X ++ s.ta, tb := Y ++ s.tb } := by unfold workM; rw [if_pos hlt]; dsimp only; rw [hu]
        rw [e1, e2]
      | some u =>
        by_cases hE : consE [advL f (grp u s.ra ++ grp u s.rb)] = 0
        · have e1 : workM f fuel (n + 1) s = workM f fuel n (s.step f u) := by rw [workM, if_pos hlt, hu]; exact if_pos hE
          have e2 : workM f fuel (n + 1) { s with ta := X ++ s.ta, tb := Y ++ s.tb } = workM f fuel n ({ s with ta := X ++ s.ta, tb := Y ++ s.tb }.step f u) := by rw [workM, if_pos hlt]; dsimp only; rw [hu]; exact if_pos hE
          have e3 : ({ s with ta := X ++ s.ta, tb := Y ++ s.tb } : MS).step f u = { s.step f u with ta := X ++ (s.step f u).ta, tb := Y ++ (s.step f u).tb } := by
            unfold MS.step
            dsimp only
            rw [List.append_assoc, List.append_assoc]
          rw [e1, e2, e3]
          exact work_shift f fuel X Y n (s.step f u)
        · have e1 : workM f fuel (n + 1) s = { s with E := consE [advL f (grp u s.ra ++ grp u s.rb)] } := by rw [workM, if_pos hlt, hu]; exact if_neg hE
          have e2 : workM f fuel (n + 1) { s with ta := X ++ s.ta, tb := Y ++ s.tb } = { s with ta := X ++ s.ta, tb := Y ++ s.tb, E := consE [advL f (grp u s.ra ++ grp u s.rb)] } := by rw [workM, if_pos hlt]; dsimp only; rw [hu]; exact if_neg hE
          rw [e1, e2]
    · have e1 : workM f fuel (n + 1) s = s := by unfold workM; rw [if_neg hlt]
      have e2 : workM f fuel (n + 1) { s with ta := X ++ s.ta, tb := Y ++ s.tb } = { s with ta := X ++ s.ta, tb := Y ++ s.tb } := by unfold workM; rw [if_neg hlt]
      rw [e1, e2]
theorem plup_last {l : List Up} (h : PlUp l) {z : Up} (hz : l[l.length - 1]? = some z) : ∀ x ∈ l, plc x z ≤ 0 := fun x hx => by
  obtain ⟨i, hi⟩ := List.getElem?_of_mem hx
  have h1 := (List.getElem?_eq_some_iff.1 hi).1
  by_cases e : i = l.length - 1
  · subst e
    rw [hi] at hz
    injection hz with hz
    rw [hz]
    exact Int.le_of_eq (plc_self _)
  · have h2 := (List.getElem?_eq_some_iff.1 hz)
    have h3 := (List.getElem?_eq_some_iff.1 hi)
    rw [← h2.2, ← h3.2]
    exact List.pairwise_iff_getElem.1 h i (l.length - 1) _ h2.1 (by omega)
theorem plup_head {l : List Up} (h : PlUp l) {z : Up} (hz : l[0]? = some z) : ∀ x ∈ l, plc z x ≤ 0 := by
  cases l with
  | nil => intro x hx; cases hx
  | cons y l =>
    obtain rfl : y = z := by simpa using hz
    exact head_le h
theorem drop_head {l : List Up} {i : Nat} : (l.drop i)[0]? = l[i]? := by rw [List.getElem?_drop, Nat.add_zero]
theorem div_sep {l o : List Up} {i : Int} (h : DivB l i o) (hl : PlUp l) (ho : PlUp o) : ∀ x ∈ o, ∀ y ∈ l.drop i.toNat, plc x y < 0 := fun x hx y hy => by
  have hn : 0 < o.length := List.length_pos_of_mem hx
  obtain ⟨z, hz⟩ : ∃ z, o[o.length - 1]? = some z := ⟨_, List.getElem?_eq_getElem (by omega)⟩
  have hp : 0 < (l.drop i.toNat).length := List.length_pos_of_mem hy
  obtain ⟨v, hv⟩ : ∃ v, (l.drop i.toNat)[0]? = some v := ⟨_, List.getElem?_eq_getElem hp⟩
  have h1 := h.past z v hz (drop_head.symm.trans hv)
  exact plc_lin.le_lt (plup_last ho hz x hx) (plc_lin.lt_le h1 (plup_head (plup_drop hl _) hv y hy))
theorem div_pp {l l' o : List Up} {i : Int} (h : l.map Up.p = l'.map Up.p) (k : DivB l i o) : DivB l' i o := by
  refine ⟨k.lo, by rw [← len_p h]; exact k.hi, fun x y h0 hx hy => ?_, fun z y hz hy => ?_⟩
  · have g : ∀ (n : Nat) (v : Up), l'[n]? = some v → ∃ v', l[n]? = some v' ∧ v'.p = v.p := fun n v hv => by
      have h1 : (l.map Up.p)[n]? = some v.p := by rw [h, List.getElem?_map, hv]; rfl
      rw [List.getElem?_map] at h1
      cases hl : l[n]? with
      | none => rw [hl] at h1; cases h1
      | some v' => rw [hl] at h1; exact ⟨v', rfl, by injection h1⟩
    obtain ⟨x', hx1, ex⟩ := g _ _ hx
    obtain ⟨y', hy1, ey⟩ := g _ _ hy
    rw [← plc_p ex ey]
    exact k.side x' y' h0 hx1 hy1
  · have h1 : (l.map Up.p)[i.toNat]? = some y.p := by rw [h, List.getElem?_map, hy]; rfl
    rw [List.getElem?_map] at h1
    cases hl : l[i.toNat]? with
    | none => rw [hl] at h1; cases h1
    | some v => rw [hl] at h1; injection h1 with h1; rw [← plc_p (rfl : z.p = z.p) h1]; exact k.past z v hz hl
theorem div_po {l l' o o' : List Up} {i : Int} (h : l.map Up.p = l'.map Up.p) (g : o.map Up.p = o'.map Up.p) (k : DivB l i o) : DivB l' i o' := by
  have k2 := div_pp h k
  refine ⟨k2.lo, k2.hi, k2.side, fun z y hz hy => ?_⟩
  have h1 : (o.map Up.p)[o'.length - 1]? = some z.p := by rw [g, List.getElem?_map, hz]; rfl
  rw [List.getElem?_map] at h1
  cases hl : o[o'.length - 1]? with
  | none => rw [hl] at h1; cases h1
  | some v =>
    rw [hl] at h1
    injection h1 with h1
    rw [← plc_p h1 (rfl : y.p = y.p)]
    exact k2.past v y (by rw [len_p g]; exact hl) hy
theorem gen_fine {m : Mg} (h : MOk m) (ok : ∀ u ∈ m.o, UOk u) : MS.Fine m.f (m.o ++ m.a.drop m.i.toNat) (m.b.drop m.j.toNat) ⟨m.o, m.a.drop m.i.toNat, [], m.b.drop m.j.toNat, m.o.map Up.p, 0, 0⟩ := by
  have ho := even_nz h.even.2.2 ok
  have hid : advL m.f (m.o ++ []) = m.o := by rw [List.append_nil]; exact advL_id h.advd
  refine ⟨⟨fun x hx y hy => ?_, ?_, ?_⟩, rfl, rfl⟩
  · rw [List.append_nil] at hx
    rcases List.mem_append.1 hy with hy | hy
    · exact div_sep h.da (even_plc h.even.1) (even_plc h.even.2.2) x hx y hy
    · exact div_sep h.db (even_plc h.even.2.1) (even_plc h.even.2.2) x hx y hy
  · rw [hid]; exact ho.2
  · rw [hid]; exact ho.1.symm
theorem gen_plup {m : Mg} (h : MOk m) : PlUp (m.o ++ m.a.drop m.i.toNat) := by
  refine List.pairwise_append.2 ⟨even_plc h.even.2.2, plup_drop (even_plc h.even.1) _, fun x hx y hy => ?_⟩
  exact Int.le_of_lt (div_sep h.da (even_plc h.even.1) (even_plc h.even.2.2) x hx y hy)
theorem chk_drop {l : List Up} (h : chkUs l = 0) (n : Nat) : chkUs (l.drop n) = 0 := chkUs_all.2 fun u hu => chkUs_all.1 h u (List.mem_of_mem_drop hu)
theorem gen_chk {m : Mg} (h : MOk m) : chkUs (m.o ++ m.a.drop m.i.toNat ++ m.b.drop m.j.toNat) = 0 :=
  chkUs_join (chkUs_join h.even.2.2.2.2 (chk_drop h.even.1.2.2 _)) (chk_drop h.even.2.1.2.2 _)
theorem parts_chk {m : Mg} (h : MOk m) : chkUs (partsM m) = 0 := chkUs_join (chk_drop h.even.1.2.2 _) (chkUs_join (chk_drop h.even.2.1.2.2 _) h.even.2.2.2.2)
theorem div_next {l r o o' : List Up} {i : Int} {t : List Up} (h : DivB l i o) (e : l.drop i.toNat = t ++ r) (h1 : ∀ x ∈ t, ∀ y ∈ r, plc x y < 0) (h2 : ∀ z ∈ o', ∀ y ∈ r, plc z y < 0) : DivB l ((i.toNat + t.length : Nat) : Int) o' := by
  have hlo := h.lo
  have hhi := h.hi
  have hlen := congrArg List.length e
  rw [List.length_drop, List.length_append] at hlen
  have hr : l.drop (i.toNat + t.length) = r := by
    rw [← List.drop_drop, e, List.drop_left]
  have hm : ∀ y, l[(((i.toNat + t.length : Nat) : Int)).toNat]? = some y → y ∈ r := fun y hy => by
    rw [Int.toNat_natCast, ← drop_head (l := l), hr] at hy
    exact List.mem_of_getElem? hy
  refine ⟨by omega, by omega, fun x y hi hx hy => ?_, fun z y hz hy => h2 z (List.mem_of_getElem? hz) y (hm y hy)⟩
  rw [Int.toNat_natCast] at hx
  by_cases h0 : t.length = 0
  · rw [h0, Nat.add_zero] at hx hi hy
    exact h.side x y (by omega) hx (by rwa [Int.toNat_natCast] at hy)
  · have hx' : (l.drop i.toNat)[t.length - 1]? = some x := by
      rw [List.getElem?_drop, ← hx]
      congr 1
      omega
    rw [e, List.getElem?_append_left (by omega)] at hx'
    exact h1 x (List.mem_of_getElem? hx') y (hm y hy)
theorem work_gen {m m' : Mg} {fuel c E : Int} (h : WorkOk m m' fuel c E) (hm : MOk m) (ok : ∀ u ∈ m.o, UOk u) :
    ∃ k : Nat, c = (k : Int) ∧ MOk m' ∧ k + leftM m' = leftM m ∧ (E = 0 ∧ (leftM m' = 0 ∨ fuel ≤ k) ∧ (0 < fuel → 0 < leftM m → 0 < k) ∨ E = 10 ∧ consE [advL m.f (partsM m)] = 10) ∧ EqS m.f (partsM m') (partsM m) ∧ (partsM m').length ≤ (partsM m).length := by
  obtain ⟨n, s, hn, hs, hc, hE, hi, hj, ho⟩ := h.s
  have hpa : (m'.a.drop m.i.toNat).map Up.p = (m.a.drop m.i.toNat).map Up.p := drop_p h.a _
  have hpb : (m'.b.drop m.j.toNat).map Up.p = (m.b.drop m.j.toNat).map Up.p := drop_p h.b _
  -- the merger with the lists of the other one
  obtain ⟨q, hq⟩ : ∃ q : Mg, q = { m' with i := m.i, j := m.j, o := m.o } := ⟨_, rfl⟩
  have qa : q.a = m'.a := by rw [hq]
  have qb : q.b = m'.b := by rw [hq]
  have qi : q.i = m.i := by rw [hq]
  have qj : q.j = m.j := by rw [hq]
  have qo : q.o = m.o := by rw [hq]
  have qf : q.f = m.f := by rw [hq]; exact h.f
  have mq : MOk q := by
    unfold MOk at hm ⊢
    rw [qa, qb, qi, qj, qo, qf]
    exact ⟨⟨even_p h.a.symm hm.even.1, even_p h.b.symm hm.even.2.1, hm.even.2.2⟩, hm.front, hm.advd, div_pp h.a.symm hm.da, div_pp h.b.symm hm.db⟩
  have hfr := hm.front.right
  have gf := gen_fine mq (by rw [qo]; exact ok)
  have gp := gen_plup mq
  have gc := gen_chk mq
  rw [qf, qo, qa, qi, qb, qj] at gf
  rw [qo, qa, qi] at gp
  rw [qo, qa, qi, qb, qj] at gc
  obtain ⟨C, hC⟩ : ∃ C : MS, C = ⟨[], m'.a.drop m.i.toNat, [], m'.b.drop m.j.toNat, m.o.map Up.p, 0, 0⟩ := ⟨_, rfl⟩
  have e1 : startM m'.a m.i.toNat m'.b m.j.toNat (m.o.map Up.p) = { C with ta := m'.a.take m.i.toNat ++ C.ta, tb := m'.b.take m.j.toNat ++ C.tb } := by
    rw [hC]; unfold startM; simp only [List.append_nil]
  have e2 : (⟨m.o, m'.a.drop m.i.toNat, [], m'.b.drop m.j.toNat, m.o.map Up.p, 0, 0⟩ : MS) = { C with ta := m.o ++ C.ta, tb := [] ++ C.tb } := by
    rw [hC]; simp only [List.append_nil]
  have hla := len_p h.a
  have hlb := len_p h.b
  rw [e2] at gf
  have hC0 : C.cost = 0 := by rw [hC]
  have hCE : C.E = 0 := by rw [hC]
  have hCl : C.left = n := by rw [hC, ← hn]; unfold MS.left; dsimp only; rw [List.length_drop, List.length_drop, hla, hlb]
  obtain ⟨w1, w2, w3, w4, _⟩ := work_fine hfr gc gp (plup_drop (even_plc (even_p h.b.symm hm.even.2.1)) _) fuel n { C with ta := m.o ++ C.ta, tb := [] ++ C.tb } hCE (Nat.le_of_eq hCl) gf
  rw [work_shift] at w1 w2 w3 w4
  rw [e1, work_shift] at hs
  obtain ⟨D, hD⟩ : ∃ D, D = workM m.f fuel n C := ⟨_, rfl⟩
  rw [← hD] at w1 w2 w3 w4 hs
  have sta : s.ta = m'.a.take m.i.toNat ++ D.ta := by rw [hs]
  have stb : s.tb = m'.b.take m.j.toNat ++ D.tb := by rw [hs]
  have sout : s.out = D.out := by rw [hs]
  have scost : s.cost = D.cost := by rw [hs]
  have sE : s.E = D.E := by rw [hs]
  have wl : (({ D with ta := m.o ++ D.ta, tb := [] ++ D.tb } : MS)).left = D.left := rfl
  have wl0 : (({ C with ta := m.o ++ C.ta, tb := [] ++ C.tb } : MS)).left = C.left := rfl
  rw [wl, wl0] at w2
  rw [wl, wl0] at w4
  dsimp only at w2 w3 w4
  rw [hC0] at w2 w3 w4
  have va := w1.a_
  have vb := w1.b_
  dsimp only at va vb
  rw [List.append_assoc] at va
  have va := List.append_cancel_left va
  rw [List.nil_append] at vb
  have hlo := hm.da.lo
  have hhi := hm.da.hi
  have hlo2 := hm.db.lo
  have hhi2 := hm.db.hi
  have lsta : s.ta.length = m.i.toNat + D.ta.length := by rw [sta, List.length_append, List.length_take]; omega
  have lstb : s.tb.length = m.j.toNat + D.tb.length := by rw [stb, List.length_append, List.length_take]; omega
  have ei : m'.i.toNat = m.i.toNat + D.ta.length := by rw [hi, Int.toNat_natCast, lsta]
  have ej : m'.j.toNat = m.j.toNat + D.tb.length := by rw [hj, Int.toNat_natCast, lstb]
  have dra : m'.a.drop m'.i.toNat = D.ra := by rw [ei, ← List.drop_drop, ← va, List.drop_left]
  have drb : m'.b.drop m'.j.toNat = D.rb := by rw [ej, ← List.drop_drop, ← vb, List.drop_left]
  have hleft : leftM m' = D.left := by
    unfold leftM MS.left
    rw [← dra, ← drb, List.length_drop, List.length_drop]
  have hleft0 : leftM m = C.left := by unfold leftM; rw [hCl, ← hn]
  have inv := w1.inv
  dsimp only at inv
  have hoD : m'.o.map Up.p = D.out := ho.trans sout
  have hcT : chkUs (m.o ++ D.ta ++ ([] ++ D.tb)) = 0 := chkUs_all.2 fun u hu => chkUs_all.1 gc u (by
    rw [← va, ← vb]
    simp only [List.mem_append, List.not_mem_nil, false_or] at hu ⊢
    rcases hu with (hu | hu) | hu
    · exact .inl (.inl hu)
    · exact .inl (.inr (.inl hu))
    · exact .inr (.inl hu))
  have hev := minv_even inv hfr hcT hoD
  have had := minv_advd inv hoD
  have hah := minv_ahead inv hoD
  have hmok : MOk m' := by
    unfold MOk
    rw [h.f]
    refine ⟨⟨even_p h.a.symm hm.even.1, even_p h.b.symm hm.even.2.1, hev⟩, hm.front, had, ?_, ?_⟩
    · rw [hi, lsta]
      exact div_next (div_pp h.a.symm hm.da) va.symm (fun x hx y hy => inv.sep x (List.mem_append_left _ (List.mem_append_right _ hx)) y (List.mem_append_left _ hy)) fun z hz y hy => hah z hz y (List.mem_append_left _ hy)
    · rw [hj, lstb]
      exact div_next (div_pp h.b.symm hm.db) vb.symm (fun x hx y hy => inv.sep x (List.mem_append_right _ (List.mem_append_right _ hx)) y (List.mem_append_right _ hy)) fun z hz y hy => hah z hz y (List.mem_append_right _ hy)
  have hpc := parts_chk hm
  have hpm : EqS m.f (partsM m') (partsM m) := by
    refine ⟨parts_chk hmok, hpc, fun k => ?_⟩
    have q1 : sumOf Uk.cmp ((advL m.f (partsM m)).map Up.p) k = sumOf Uk.cmp ((advL m.f (m.o ++ m'.a.drop m.i.toNat ++ m'.b.drop m.j.toNat)).map Up.p) k := by
      have r1 := advL_p m.f hpa
      have r2 := advL_p m.f hpb
      unfold partsM
      simp only [advL_append, List.map_append, sumOf_append]
      rw [r1, r2]
      omega
    have q2 : sumOf Uk.cmp ((advL m.f (m.o ++ m'.a.drop m.i.toNat ++ m'.b.drop m.j.toNat)).map Up.p) k = sumOf Uk.cmp ((advL m.f (m.o ++ D.ta ++ ([] ++ D.tb))).map Up.p) k + (sumOf Uk.cmp ((advL m.f D.ra).map Up.p) k + sumOf Uk.cmp ((advL m.f D.rb).map Up.p) k) := by
      rw [← va, ← vb]
      simp only [advL_append, List.map_append, sumOf_append, List.nil_append]
      omega
    have q3 : sumOf Uk.cmp ((advL m.f m'.o).map Up.p) k = sumOf Uk.cmp ((advL m.f (m.o ++ D.ta ++ ([] ++ D.tb))).map Up.p) k := by
      rw [advL_id (f := m.f) (l := m'.o) (fun u hu => had u hu), hoD, inv.out_, nz_sum uk_lin]
    rw [q1, q2, ← q3]
    unfold partsM
    rw [dra, drb]
    simp only [advL_append, List.map_append, sumOf_append]
    omega
  have hlen : (partsM m').length ≤ (partsM m).length := by
    have g1 : m'.o.length ≤ m.o.length + D.ta.length + D.tb.length := by
      have g0 : m'.o.length = D.out.length := by rw [← hoD, List.length_map]
      have g2 := nz_len (cmp := Uk.cmp) ((advL m.f (m.o ++ D.ta ++ ([] ++ D.tb))).map Up.p)
      rw [← inv.out_, List.length_map] at g2
      unfold advL at g2
      rw [List.length_map, List.length_append, List.length_append, List.length_append] at g2
      simp only [List.length_nil] at g2
      omega
    have g3 := congrArg List.length va
    have g4 := congrArg List.length vb
    rw [List.length_append, List.length_drop] at g3 g4
    unfold partsM
    rw [dra, drb]
    simp only [List.length_append, List.length_drop]
    omega
  refine ⟨D.cost, by rw [hc, scost], hmok, by rw [hleft, hleft0]; omega, ?_, hpm, hlen⟩
  rw [hleft, hleft0]
  rcases w4 with ⟨a1, a2, a3⟩ | ⟨a1, a2⟩
  · exact .inl ⟨by rw [hE, sE]; exact a1, a2, fun h1 h2 => by have := a3 h1 h2; omega⟩
  · refine .inr ⟨by rw [hE, sE]; exact a1, ?_⟩
    have hp : EqS m.f (m.o ++ m'.a.drop m.i.toNat ++ m'.b.drop m.j.toNat) (partsM m) := ⟨gc, hpc, fun k => by
      have r1 := advL_p m.f hpa
      have r2 := advL_p m.f hpb
      unfold partsM
      simp only [advL_append, List.map_append, sumOf_append]
      rw [r1, r2]
      omega⟩
    rw [← (hp.cons hfr).2]
    exact a2
end Go.Proofs.YtgalemkjgaiphaaGreat
namespace Go.Proofs.YtgalemkjgaiphaaGreat
open Go Go.RowKit

structure Lv where
  cls : Int
  busy : Bool
  b : Bt
  m : Mg
instance : Inhabited Lv := ⟨⟨0, false, Bt.nil, Mg.nil⟩⟩
namespace Lv
def cells (l : Lv) : List Value := [.int .i64 l.cls, .bool l.busy, .slice l.b.sA l.b.f.length l.b.sc, .slice l.b.uA l.b.l.length l.b.uc, .slice l.m.aA l.m.a.length l.m.ac, .slice l.m.bA l.m.b.length l.m.bc, .int .i64 l.m.i, .int .i64 l.m.j, .slice l.m.sA l.m.f.length l.m.sc, .slice l.m.oA l.m.o.length l.m.oc]
def val (l : Lv) : Value := .agg #[.int .i64 l.cls, .bool l.busy, .slice l.b.sA l.b.f.length l.b.sc, .slice l.b.uA l.b.l.length l.b.uc, .slice l.m.aA l.m.a.length l.m.ac, .slice l.m.bA l.m.b.length l.m.bc, .int .i64 l.m.i, .int .i64 l.m.j, .slice l.m.sA l.m.f.length l.m.sc, .slice l.m.oA l.m.o.length l.m.oc]
end Lv
theorem lcells_len (l : Lv) : l.cells.length = 10 := rfl
theorem lcells_one (l : Lv) : ∀ v ∈ l.cells, v.oneCell' = true := by
  intro v hv
  simp [Lv.cells] at hv
  rcases hv with rfl | rfl | rfl | rfl | rfl | rfl | rfl | rfl | rfl | rfl <;> rfl
def clsN (n : Nat) : Nat := if n = 0 then 0 else Nat.log2 n + 1
theorem cls_zero {n : Nat} : clsN n = 0 ↔ n = 0 := by
  unfold clsN
  split <;> simp_all
def partsL (l : Lv) : List Up := if l.busy = true then partsM l.m else l.b.l
def partsS (L : List Lv) : List Up := L.flatMap partsL
def cntL (l : Lv) : Nat := if l.busy = true then 2 else 1
def cntS (L : List Lv) : Nat := (L.map cntL).sum
def busyN (L : List Lv) : Nat := (L.filter fun l => l.busy).length
def wtL (l : Lv) : Nat := if l.busy = true then max (l.m.a.length + l.m.b.length) (partsM l.m).length else l.b.l.length
def wtS (L : List Lv) : Nat := (L.map wtL).sum
structure LvGood (f : List Tm) (l : Lv) : Prop where
  busy : l.busy = true → l.b.f = [] ∧ l.b.l = [] ∧ MOk l.m ∧ (clsN l.m.a.length : Int) = l.cls ∧ (clsN l.m.b.length : Int) = l.cls ∧ LaterF f l.m.f ∧ 0 < leftM l.m
  idle : l.busy = false → (l.m.a = [] ∧ l.m.b = [] ∧ l.m.i = 0 ∧ l.m.j = 0 ∧ l.m.f = [] ∧ l.m.o = []) ∧ BatchOk l.b.f l.b.l ∧ (clsN l.b.l.length : Int) = l.cls ∧ LaterF f l.b.f
structure SpGood (f : List Tm) (L : List Lv) : Prop where
  front : FrontOk f
  pos : ∀ l ∈ L, 1 ≤ l.cls
  fall : L.Pairwise fun x y => y.cls < x.cls
  each : ∀ l ∈ L, LvGood f l
theorem partsS_app (L M : List Lv) : partsS (L ++ M) = partsS L ++ partsS M := List.flatMap_append ..
theorem partsS_cons (l : Lv) (L : List Lv) : partsS (l :: L) = partsL l ++ partsS L := List.flatMap_cons ..
theorem cntS_app (L M : List Lv) : cntS (L ++ M) = cntS L + cntS M := by unfold cntS; rw [List.map_append, List.sum_append]
theorem cntS_cons (l : Lv) (L : List Lv) : cntS (l :: L) = cntL l + cntS L := by unfold cntS; rw [List.map_cons, List.sum_cons]
theorem wtS_app (L M : List Lv) : wtS (L ++ M) = wtS L + wtS M := by unfold wtS; rw [List.map_append, List.sum_append]
theorem wtS_cons (l : Lv) (L : List Lv) : wtS (l :: L) = wtL l + wtS L := by unfold wtS; rw [List.map_cons, List.sum_cons]
theorem busyN_app (L M : List Lv) : busyN (L ++ M) = busyN L + busyN M := by unfold busyN; rw [List.filter_append, List.length_append]
theorem busyN_cons (l : Lv) (L : List Lv) : busyN (l :: L) = (if l.busy = true then 1 else 0) + busyN L := by
  unfold busyN
  rw [List.filter_cons]
  split
  · rw [List.length_cons]; omega
  · omega
theorem LvGood.chk {f : List Tm} {l : Lv} (h : LvGood f l) : chkUs (partsL l) = 0 := by
  unfold partsL
  cases hb : l.busy
  · exact (h.idle hb).2.1.2.1.2.2
  · exact parts_chk (h.busy hb).2.2.1
theorem SpGood.chk {f : List Tm} {L : List Lv} (h : SpGood f L) : chkUs (partsS L) = 0 := chkUs_all.2 fun u hu => by
  obtain ⟨l, hl, hu⟩ := List.mem_flatMap.1 hu
  exact chkUs_all.1 (h.each l hl).chk u hu
theorem SpGood.sub {f : List Tm} {L M : List Lv} (h : SpGood f L) (hs : List.Sublist M L) : SpGood f M := ⟨h.front, fun l hl => h.pos l (hs.subset hl), h.fall.sublist hs, fun l hl => h.each l (hs.subset hl)⟩
theorem split_at' {L : List Lv} {i : Nat} {l : Lv} (h : L[i]? = some l) : L = L.take i ++ l :: L.drop (i + 1) := by
  have := (List.getElem?_eq_some_iff.1 h)
  rw [← this.2, ← List.drop_eq_getElem_cons this.1, List.take_append_drop]
structure PutTo (f : List Tm) (L L' : List Lv) (X : List Up) (n w : Nat) : Prop where
  good : SpGood f L'
  eq : EqS f (partsS L') (partsS L ++ X)
  cnt : cntS L' ≤ cntS L + n
  wt : wtS L' ≤ wtS L + w
theorem PutTo.refl {f : List Tm} {L : List Lv} (h : SpGood f L) (n w : Nat) : PutTo f L L [] n w := ⟨h, by rw [List.append_nil]; exact EqS.refl h.chk, by omega, by omega⟩
theorem put_new {f : List Tm} {L : List Lv} {i : Nat} {b : Bt} {c : Int} (h : SpGood f L) (hb : BatchOk b.f b.l) (hl : LaterF f b.f) (hc : (clsN b.l.length : Int) = c) (h1 : 1 ≤ c) (hi : ∀ l ∈ L.take i, c < l.cls) (hd : ∀ l ∈ L.drop i, l.cls < c) :
    PutTo f L (L.take i ++ ⟨c, false, b, Mg.nil⟩ :: L.drop i) b.l 1 b.l.length := by
  have hs := List.take_append_drop i L
  have hf := h.fall
  rw [← hs] at hf
  have hf := List.pairwise_append.1 hf
  have hnew : LvGood f ⟨c, false, b, Mg.nil⟩ := ⟨fun h => (by cases h), fun _ => ⟨⟨rfl, rfl, rfl, rfl, rfl, rfl⟩, hb, hc, hl⟩⟩
  have hmem : ∀ l ∈ L.take i ++ (⟨c, false, b, Mg.nil⟩ : Lv) :: L.drop i, l = ⟨c, false, b, Mg.nil⟩ ∨ l ∈ L := fun l hl => by
    rcases List.mem_append.1 hl with hl | hl
    · exact .inr (List.mem_of_mem_take hl)
    · rcases List.mem_cons.1 hl with hl | hl
      · exact .inl hl
      · exact .inr (List.mem_of_mem_drop hl)
  have hg : SpGood f (L.take i ++ ⟨c, false, b, Mg.nil⟩ :: L.drop i) := by
    refine ⟨h.front, fun l hl => ?_, ?_, fun l hl => ?_⟩
    · rcases hmem l hl with rfl | hl
      · exact h1
      · exact h.pos l hl
    · refine List.pairwise_append.2 ⟨hf.1, List.pairwise_cons.2 ⟨hd, hf.2.1⟩, fun x hx y hy => ?_⟩
      rcases List.mem_cons.1 hy with rfl | hy
      · exact hi x hx
      · exact hf.2.2 x hx y hy
    · rcases hmem l hl with rfl | hl
      · exact hnew
      · exact h.each l hl
  refine ⟨hg, EqS.perm hg.chk ?_, ?_, ?_⟩
  · have e : partsS L = partsS (L.take i) ++ partsS (L.drop i) := by rw [← partsS_app, hs]
    rw [partsS_app, partsS_cons, e, List.append_assoc]
    refine List.Perm.append_left _ ?_
    show (b.l ++ partsS (L.drop i)).Perm _
    exact List.perm_append_comm
  · have e : cntS L = cntS (L.take i) + cntS (L.drop i) := by rw [← cntS_app, hs]
    rw [cntS_app, cntS_cons, e]
    show _ + (1 + _) ≤ _
    omega
  · have e : wtS L = wtS (L.take i) + wtS (L.drop i) := by rw [← wtS_app, hs]
    rw [wtS_app, wtS_cons, e]
    show _ + (b.l.length + _) ≤ _
    omega
theorem put_start {f : List Tm} {L : List Lv} {i : Nat} {l : Lv} {b : Bt} {m : Mg} (h : SpGood f L) (hi : L[i]? = some l) (hidle : l.busy = false) (hb : BatchOk b.f b.l) (hl : LaterF f b.f) (hc : (clsN b.l.length : Int) = l.cls)
    (ha : m.a.map Up.p = l.b.l.map Up.p) (hbb : m.b.map Up.p = b.l.map Up.p) (h0 : m.i = 0) (h00 : m.j = 0) (hf : m.f = f) (ho : m.o = []) :
    PutTo f L (L.set i ⟨l.cls, true, Bt.nil, m⟩) b.l 1 b.l.length := by
  have hlt := (List.getElem?_eq_some_iff.1 hi).1
  have hL := split_at' hi
  have hset : L.set i ⟨l.cls, true, Bt.nil, m⟩ = L.take i ++ ⟨l.cls, true, Bt.nil, m⟩ :: L.drop (i + 1) := List.set_eq_take_append_cons_drop .. |>.trans (if_pos hlt)
  have hm := List.mem_of_getElem? hi
  have gi := (h.each l hm).idle hidle
  have hla := len_p ha
  have hlb := len_p hbb
  have hmok : MOk m := (start_way (m := m) (by rw [hf]; exact h.front) (even_p ha.symm gi.2.1.2.1) (even_p hbb.symm hb.2.1) h0 h00 ho).ok
  have hpm : partsM m = m.a ++ m.b := by unfold partsM; rw [h0, h00, ho]; simp
  have hp1 := h.pos l hm
  have hgl : LvGood f ⟨l.cls, true, Bt.nil, m⟩ := ⟨fun _ => ⟨rfl, rfl, hmok, by rw [hla]; exact gi.2.2.1, by rw [hlb]; exact hc, by rw [hf]; exact later_refl f, by
    have := gi.2.2.1
    have h5 : clsN l.b.l.length ≠ 0 := by omega
    have h6 : l.b.l.length ≠ 0 := fun e => h5 (cls_zero.2 e)
    show 0 < leftM m
    unfold leftM
    rw [h0, h00, hla]
    simp only [Int.toNat_zero]
    omega⟩, fun h => (by cases h)⟩
  have hmem : ∀ x ∈ L.take i ++ (⟨l.cls, true, Bt.nil, m⟩ : Lv) :: L.drop (i + 1), x = ⟨l.cls, true, Bt.nil, m⟩ ∨ x ∈ L := fun x hx => by
    rcases List.mem_append.1 hx with hx | hx
    · exact .inr (List.mem_of_mem_take hx)
    · rcases List.mem_cons.1 hx with hx | hx
      · exact .inl hx
      · exact .inr (List.mem_of_mem_drop hx)
  have hfl := h.fall
  rw [hL] at hfl
  have hfl := List.pairwise_append.1 hfl
  have hfc := List.pairwise_cons.1 hfl.2.1
  have hg : SpGood f (L.take i ++ ⟨l.cls, true, Bt.nil, m⟩ :: L.drop (i + 1)) := by
    refine ⟨h.front, fun x hx => ?_, ?_, fun x hx => ?_⟩
    · rcases hmem x hx with rfl | hx
      · exact hp1
      · exact h.pos x hx
    · refine List.pairwise_append.2 ⟨hfl.1, List.pairwise_cons.2 ⟨hfc.1, hfc.2⟩, fun x hx y hy => ?_⟩
      rcases List.mem_cons.1 hy with rfl | hy
      · exact hfl.2.2 x hx l List.mem_cons_self
      · exact hfl.2.2 x hx y (List.mem_cons_of_mem _ hy)
    · rcases hmem x hx with rfl | hx
      · exact hgl
      · exact h.each x hx
  rw [hset]
  have eL : partsS L = partsS (L.take i) ++ (l.b.l ++ partsS (L.drop (i + 1))) := by
    conv => lhs; rw [hL]
    rw [partsS_app, partsS_cons]
    unfold partsL
    rw [if_neg (by rw [hidle]; decide)]
  have eM : partsS (L.take i ++ ⟨l.cls, true, Bt.nil, m⟩ :: L.drop (i + 1)) = partsS (L.take i) ++ ((m.a ++ m.b) ++ partsS (L.drop (i + 1))) := by
    rw [partsS_app, partsS_cons, ← hpm]
    rfl
  refine ⟨hg, ?_, ?_, ?_⟩
  · have hk : chkUs (partsS L ++ b.l) = 0 := chkUs_join h.chk hb.2.1.2.2
    rw [eL] at hk
    rw [eL, eM]
    refine EqS.symm (EqS.trans (Y := partsS (L.take i) ++ ((l.b.l ++ b.l) ++ partsS (L.drop (i + 1)))) (EqS.perm hk ?_) (EqS.of_p ?_ ?_))
    · rw [List.append_assoc, List.append_assoc, List.append_assoc]
      exact List.Perm.append_left _ (List.Perm.append_left _ List.perm_append_comm)
    · refine chkUs_all.2 fun u hu => chkUs_all.1 hk u ?_
      simp only [List.mem_append] at hu ⊢
      rcases hu with hu | (hu | hu) | hu
      · exact .inl (.inl hu)
      · exact .inl (.inr (.inl hu))
      · exact .inr hu
      · exact .inl (.inr (.inr hu))
    · simp only [List.map_append]
      rw [ha, hbb]
  · have e : cntS L = cntS (L.take i) + (1 + cntS (L.drop (i + 1))) := by
      conv => lhs; rw [hL]
      rw [cntS_app, cntS_cons]
      unfold cntL
      rw [if_neg (by rw [hidle]; decide)]
    rw [cntS_app, cntS_cons, e]
    show _ + (2 + _) ≤ _
    omega
  · have e : wtS L = wtS (L.take i) + (l.b.l.length + wtS (L.drop (i + 1))) := by
      conv => lhs; rw [hL]
      rw [wtS_app, wtS_cons]
      unfold wtL
      rw [if_neg (by rw [hidle]; decide)]
    rw [wtS_app, wtS_cons, e]
    have e2 : wtL ⟨l.cls, true, Bt.nil, m⟩ = l.b.l.length + b.l.length := by
      show max (m.a.length + m.b.length) (partsM m).length = _
      rw [hpm, List.length_append, hla, hlb]
      omega
    rw [e2]
    omega
structure TookOut (f : List Tm) (L : List Lv) (i : Nat) (e : Bt) : Prop where
  good : SpGood f (L.eraseIdx i)
  ok : BatchOk e.f e.l
  later : LaterF f e.f
  eq : EqS f (partsS (L.eraseIdx i) ++ e.l) (partsS L)
  cnt : cntS (L.eraseIdx i) + 2 = cntS L
  wt : wtS (L.eraseIdx i) + e.l.length ≤ wtS L
  busy : busyN (L.eraseIdx i) + 1 = busyN L
theorem take_out {f : List Tm} {L : List Lv} {i : Nat} {l : Lv} {m' : Mg} {e : Bt} {fuel c E : Int} (h : SpGood f L) (hi : L[i]? = some l) (hb : l.busy = true) (ok : ∀ u ∈ l.m.o, UOk u) (hw : WorkOk l.m m' fuel c E) (hE : E = 0) (hl : leftM m' = 0) (he : e.f = m'.f) (hel : e.l.map Up.p = m'.o.map Up.p) :
    TookOut f L i e := by
  have hL := split_at' hi
  have hm := List.mem_of_getElem? hi
  have gi := (h.each l hm).busy hb
  obtain ⟨k, _, mok, _, _, heq, hlen⟩ := work_gen hw gi.2.2.1 ok
  have her : L.eraseIdx i = L.take i ++ L.drop (i + 1) := List.eraseIdx_eq_take_drop_succ ..
  have hpo : partsM m' = m'.o := by
    unfold partsM
    unfold leftM at hl
    rw [List.drop_eq_nil_of_le (by omega), List.drop_eq_nil_of_le (by omega)]
    rfl
  have hg : SpGood f (L.eraseIdx i) := h.sub (List.eraseIdx_sublist ..)
  have hff : m'.f = l.m.f := hw.f
  have lat : LaterF f e.f := by rw [he, hff]; exact gi.2.2.2.2.2.1
  have fr := mok.front
  have hlen2 := len_p hel
  have hpl : partsL l = partsM l.m := if_pos hb
  have hwl : wtL l = max (l.m.a.length + l.m.b.length) (partsM l.m).length := if_pos hb
  refine ⟨hg, ⟨by rw [he]; exact fr, even_p hel.symm mok.even.2.2, ?_⟩, lat, ?_, ?_, ?_, ?_⟩
  · rw [he]; exact advd_p hel.symm mok.advd
  · have e1 : EqS f e.l (partsM l.m) := by
      refine EqS.later (f := l.m.f) ?_ (hff ▸ fr).right gi.2.2.2.2.2.1
      rw [hpo] at heq
      exact EqS.trans (EqS.of_p (even_p hel.symm mok.even.2.2).2.2 hel) heq
    have e2 : EqS f (partsS (L.eraseIdx i) ++ e.l) (partsS (L.eraseIdx i) ++ partsM l.m) := EqS.app (EqS.refl hg.chk) e1
    refine e2.trans (EqS.perm e2.r ?_)
    conv => rhs; rw [hL]
    rw [her, partsS_app, partsS_app, partsS_cons, hpl, List.append_assoc]
    exact List.Perm.append_left _ List.perm_append_comm
  · have h1 : cntS L = cntS (L.take i) + (2 + cntS (L.drop (i + 1))) := by
      conv => lhs; rw [hL]
      rw [cntS_app, cntS_cons]
      unfold cntL
      rw [if_pos hb]
    rw [her, cntS_app, h1]
    omega
  · have h1 : wtS L = wtS (L.take i) + (wtL l + wtS (L.drop (i + 1))) := by
      conv => lhs; rw [hL]
      rw [wtS_app, wtS_cons]
    rw [hpo] at hlen
    rw [her, wtS_app, h1, hwl]
    omega
  · have h1 : busyN L = busyN (L.take i) + (1 + busyN (L.drop (i + 1))) := by
      conv => lhs; rw [hL]
      rw [busyN_app, busyN_cons, if_pos hb]
    rw [her, busyN_app, h1]
    omega
end Go.Proofs.YtgalemkjgaiphaaGreat
namespace Go.Proofs.YtgalemkjgaiphaaGreat
open Go Go.RowKit

theorem lvs_one (l : List Lv) : ∀ u ∈ l.flatMap Lv.cells, u.oneCell' = true := by
  intro u hu
  obtain ⟨f, _, hf⟩ := List.mem_flatMap.1 hu
  exact lcells_one f u hf
def zeroLv : Value := .agg #[.int .i64 0, .bool false, .slice none 0 0, .slice none 0 0, .slice none 0 0, .slice none 0 0, .int .i64 0, .int .i64 0, .slice none 0 0, .slice none 0 0]
theorem zeroLv_one : ∀ u ∈ zeroLv.cells.toList, u.oneCell' = true := fun u hu => List.all_eq_true.1 (by kernel_rfl : (zeroLv.cells.toList.all fun u => u.oneCell') = true) u hu
theorem infoLv : (Tryz.prog.info? 43).map (fun i => (i.zero, i.size, i.bytes)) = some (some zeroLv, 10, 176) := by kernel_rfl
theorem zeroOfLv (w : World) : (zeroValue 43).run Tryz.prog w = .ok zeroLv w := by
  obtain ⟨i0, hi, hz0, _⟩ := info_parts infoLv
  simp [zeroValue, typeInfo, hi, hz0]

theorem splice_takeS {l : List Value} {o : Nat} {vs : List Value} (h : o ≤ l.length) : (splice l o vs).take o = l.take o := by
  unfold splice
  rw [List.append_assoc, List.take_append_of_le_length (by simp; omega), List.take_take]
  simp
set_option maxRecDepth 100000 in
set_option maxHeartbeats 1600000 in
theorem delete_ownS (g n c i j : Nat) (cur : List Value) (w : World) (ho : Own w g 43 cur) (hn : n ≤ c) (hm : c ≤ maxLen) (hl : cur.length = c * 10) (hij : j = i + 1) (hj : j ≤ n) (h1 : ∀ u ∈ cur.take (n * 10), u.oneCell' = true) :
    Calls Tryz.prog 97 #[.slice (some ⟨g, 0, none⟩) n c, .int .i64 (i : Int), .int .i64 (j : Int)] w fun e w' => e = .returned (.slice (some ⟨g, 0, none⟩) (n - 1) c) ∧
      ∃ cur', Own w' g 43 cur' ∧ cur'.length = c * 10 ∧ cur'.take ((n - 1) * 10) = (cur.take (n * 10)).take (i * 10) ++ (cur.take (n * 10)).drop (j * 10) ∧ w.grownBy w' (some g) := by
  obtain ⟨i0, hi0, hz0, hz1, hz2⟩ := info_parts infoLv
  have hU := Tryz.underlying23
  unfold maxLen at hm
  obtain ⟨news, hnews⟩ : ∃ news, news = (cur.take (n * 10)).drop (j * 10) := ⟨_, rfl⟩
  have hlen : news.length = (n - j) * 10 := by rw [hnews]; simp; omega
  have ho1 : ∀ j, w.cell? ⟨g, j, none⟩ = cur[j]? := ho.at_
  obtain ⟨A, hA, hsrc⟩ : ∃ A : Addr, (if c = j then some (⟨g, 0, none⟩ : Addr) else some ⟨g, j * 10, none⟩) = some A ∧ Hid (∀ t u, news[t]? = some u → w.drew.cell? (A.add t) = some u) := by
    by_cases h : c = j
    · refine ⟨⟨g, 0, none⟩, by simp [h], Lib.hid (fun t u hu => ?_)⟩
      have h0 : news.length = 0 := by rw [hlen]; omega
      rw [List.length_eq_zero_iff.1 h0] at hu
      simp at hu
    · refine ⟨⟨g, j * 10, none⟩, by simp [h], Lib.hid (fun t u hu => ?_)⟩
      have ht : t < (n - j) * 10 := by
        have := (List.getElem?_eq_some_iff.1 hu).1
        rwa [hlen] at this
      have ea : (⟨g, j * 10, none⟩ : Addr).add t = ⟨g, j * 10 + t, none⟩ := by unfold Addr.add; split <;> simp_all
      rw [ea]
      show w.cell? _ = _
      rw [ho1]
      rw [hnews, List.getElem?_drop, List.getElem?_take] at hu
      split at hu
      · exact hu
      · cases hu
  have hone : ∀ u ∈ news, u.oneCell' = true := fun u hu => h1 u (by rw [hnews] at hu; exact List.mem_of_mem_drop hu)
  have happ : ∀ ty sc, Hid ((Builtin.append_ #[23, 23] ty #[.slice (some ⟨g, 0, none⟩) i c, .slice (some A) (n - j) sc]).run Tryz.prog w.drew = .ok (.slice (some ⟨g, 0, none⟩) (i + (n - j)) c) (w.drew.setRow g (splice cur (i * 10) news).toArray)) := fun ty sc => by
    have hl2 : news.length = (n - j) * i0.size := by rw [hlen, hz1]
    have hfit : i * i0.size + news.length ≤ cur.toArray.size := by rw [hz1, hlen]; simp; omega
    have hroom : i + (n - j) ≤ c := by omega
    have := run_append_room (P := Tryz.prog) w.drew 23 ty 43 i0 hU hi0 g i c cur.toArray ho A (n - j) sc news hl2 hsrc.out hone hroom hfit
    rw [hz1] at this
    exact Lib.hid (by simpa [splice] using this)
  obtain ⟨W1, hW1⟩ : ∃ W1, W1 = w.drew.setRow g (splice cur (i * 10) news).toArray := ⟨_, rfl⟩
  rw [← hW1] at happ
  have oW1 : Own W1 g 43 (splice cur (i * 10) news) := by rw [hW1]; exact own_rowK (w := w.drew) ho
  have hs1 : (splice cur (i * 10) news).length = cur.length := splice_len (by rw [hlen, hl]; omega)
  have hclr := fun ty cc => Lib.hid (run_clear_one (P := Tryz.prog) W1 23 43 ty 43 zeroLv hU zeroOfLv (zeroLv_one) g ((i + (n - j)) * 10) cc _ oW1 (by rw [hs1, hl]; simp [zeroLv, Value.cells]; omega))
  have HW := Lib.hid hW1
  have HO := Lib.hid oW1
  have hA2 := Lib.hid hA
  have q1 : n - (i + (n - j)) = 1 := by omega
  have q2 : i + (n - j) = n - 1 := by omega
  rw [q2] at hclr
  have hic : i ≤ c := by omega
  have hin : i ≤ n := by omega
  have hjc : j ≤ c := by omega
  have hlt : i < j := by omega
  have HJ := Lib.hid hij
  clear hW1 oW1 hsrc ho1 hij
  go_enter Tryz.func97, Tryz.ntmps97
  go_wp2_with fail
  go_region_law (refine step_append_known rfl (.tmp 22) (.tmp 25) 23 23 rfl (.slice (some ⟨g, 0, none⟩) i c) (.slice (some A) (n - j) (c - j)) (by simp [Act.eval, Act.put]) (by simp [Act.eval, Act.put]) (happ _ _).out ?_)
  have hn1 : (i : Int) + ((n - j : Nat) : Int) = ((n - 1 : Nat) : Int) := by have := HJ.out; omega
  have hq1 : n - (n - 1) = 1 := by omega
  obtain ⟨W2, hW2⟩ : ∃ W2, W2 = W1.setRow g (splice (splice cur (i * 10) news) ((n - 1) * 10) zeroLv.cells.toList).toArray := ⟨_, rfl⟩
  have hcl2 : ∀ ty, (Builtin.clear_ #[23] ty #[.slice (some ⟨g, (n - 1) * 10, none⟩) (n - (n - 1)) (c - (n - 1))]).run Tryz.prog W1 = .ok (.tuple #[]) W2 := fun ty => by rw [hq1, hW2]; exact (hclr ty _).out
  have HW2 := Lib.hid hW2
  clear hW2 hq1
  go_wp2_with fail
  go_ret
  have hsp := HO.out
  rw [HW2.out]
  refine ⟨rfl, _, own_rowK HO.out, ?_, ?_, ?_⟩
  · rw [splice_len (by rw [hs1, hl]; simp [zeroLv, Value.cells]; omega), hs1, hl]
  · have e1 : (splice (splice cur (i * 10) news) ((n - 1) * 10) zeroLv.cells.toList).take ((n - 1) * 10) = (splice cur (i * 10) news).take ((n - 1) * 10) := splice_takeS (by rw [hs1, hl]; omega)
    have e2 : (splice cur (i * 10) news).take ((n - 1) * 10) = cur.take (i * 10) ++ news := by
      have h3 : (cur.take (i * 10) ++ news).length = (n - 1) * 10 := by rw [List.length_append, List.length_take, hlen]; have := HJ.out; omega
      unfold splice
      rw [← h3, List.take_left']
      rfl
    rw [e1, e2, hnews, List.take_take]
    congr 2
    omega
  · rw [HW.out]
    exact ⟨rfl, rfl, rfl, by simp, fun k _ hk => (row_other (fun e => hk (by rw [e]))).trans (row_other (w := w.drew) (fun e => hk (by rw [e])))⟩
theorem delete_anyS (base n c i : Nat) (A : Option Addr) (xs : List Value) (w : World) (ho : w.ownsRow base 43 10 (.slice A n c) n xs) (hi : i < n) (h1 : ∀ u ∈ xs, u.oneCell' = true) :
    Calls Tryz.prog 97 #[.slice A n c, .int .i64 (i : Int), .int .i64 ((i : Int) + 1)] w fun e w' => e = .returned (.slice A (n - 1) c) ∧
      w'.ownsRow base 43 10 (.slice A (n - 1) c) (n - 1) (xs.take (i * 10) ++ xs.drop ((i + 1) * 10)) ∧ w.grownBy w' (Value.slice A n c).ownBlock := by
  rcases row_ownK ho with ⟨_, h0, _⟩ | ⟨g, cur, rfl, hb, hg, hn, hm, hl, rfl⟩
  · omega
  · have := delete_ownS g n c i (i + 1) cur w hg hn hm hl rfl (by omega) h1
    rw [show ((i + 1 : Nat) : Int) = (i : Int) + 1 by omega] at this
    refine this.mono ?_
    rintro e w' ⟨rfl, cur', o', l', t', g'⟩
    exact ⟨rfl, by rw [← t']; exact own_to_row o' hb (by omega) hm l', g'⟩
end Go.Proofs.YtgalemkjgaiphaaGreat
namespace Go.Proofs.YtgalemkjgaiphaaGreat
open Go Go.RowKit

theorem growslice_okS {n c : Nat} (h : c < n) (hb : n * 176 ≤ 140737488355328) : Builtin.nextslicecap n c * 176 ≤ 281474976710656 := growslice_fits h hb
set_option maxRecDepth 100000 in
set_option maxHeartbeats 1600000 in
theorem insert_endS (base n c vb : Nat) (A : Option Addr) (xs : List Value) (f : Lv) (w : World) (ho : w.ownsRow base 43 10 (.slice A n c) n xs) (hv : Own w vb 43 f.cells) (hn : (n + 1) * 176 ≤ 140737488355328) (hbase : base ≤ w.heap.size) :
    Calls Tryz.prog 52 #[.slice A n c, .int .i64 (n : Int), .slice (some ⟨vb, 0, none⟩) 1 1] w fun e w' => ∃ v', e = .returned v' ∧
      w'.ownsRow base 43 10 v' (n + 1) (xs ++ f.cells) ∧ w.grownBy w' (Value.slice A n c).ownBlock ∧ (v'.ownBlock = (Value.slice A n c).ownBlock ∨ v'.ownBlock = some w.heap.size) := by
  obtain ⟨i0, hi, hz0, hz1, hz2⟩ := info_parts infoLv
  have hU := Tryz.underlying23
  have hl : Lies 10 Lv.cells w w.heap.size (some ⟨vb, 0, none⟩) [f] := fun _ => by
    refine ⟨vb, 0, rfl, hv.inside, fun i x hx j u hu => ?_⟩
    match i, hx with
    | 0, hx =>
      obtain rfl : f = x := by simpa using hx
      rw [show 0 + 0 * 10 + j = j by omega, hv.at_ j]
      exact hu
  have hnews : ∀ j u, (Lv.cells f)[j]? = some u → w.cell? ((⟨vb, 0, none⟩ : Addr).add j) = some u := fun j u hu => by
    have ea : (⟨vb, 0, none⟩ : Addr).add j = ⟨vb, j, none⟩ := by unfold Addr.add; split <;> simp_all
    rw [ea, hv.at_ j]; exact hu
  obtain ⟨v', w', hrun, h2, h3, _, h5⟩ := run_append_own_at (P := Tryz.prog) w base 23 23 43 i0 _ 10 176 hU hi hz0 hz1 hz2 rfl (by decide) (.slice A n c) n xs ho ⟨vb, 0, none⟩ 1 1 f.cells rfl hnews (lcells_one f) (by unfold maxLen; omega) hn hbase
  have hr2 : ∀ ty, Hid ((Builtin.append_ #[23, 23] ty #[.slice A n c, .slice (some ⟨vb, 0, none⟩) 1 1]).run Tryz.prog w = .ok v' w') := fun _ => Lib.hid hrun
  have HX := Lib.hid (And.intro h2 (And.intro h3 h5))
  clear hrun h2 h3 h5 hnews hl
  have hnc : n ≤ c := by
    rcases row_ownK ho with ⟨_, h0, _⟩ | ⟨g, cur, _, _, _, h0, _⟩ <;> omega
  clear ho hv
  rcases A with _ | ⟨ab, ao, asp⟩
  all_goals
    go_enter Tryz.func52, Tryz.ntmps52
    go_wp2_with (at_builtin; refine list_append_known _ rfl (.tmp 23) (.tmp 24) 23 23 rfl _ _ rfl rfl (hr2 _).out ?_)
    all_goals
      go_ret
      exact ⟨_, rfl, HX.out.1, HX.out.2.1, HX.out.2.2⟩
theorem own_drewKS {w : World} {g : Nat} {t : TypeId} {l : List Value} (h : Own w g t l) : Own w.drew g t l := h
theorem splice_partsS {A B C vs : List Value} {o : Nat} (ho : A.length = o) (hb : B.length = vs.length) : splice (A ++ (B ++ C)) o vs = A ++ (vs ++ C) := by
  subst ho
  unfold splice
  rw [List.take_left' rfl, List.append_assoc, List.append_cancel_left_eq, List.append_cancel_left_eq, ← hb, ← List.append_assoc, ← List.length_append, List.drop_left' rfl]
theorem splice3S {l news rest z : List Value} {i n : Nat} (hl : l.length = n * 10) (hi : i < n) (hn : news.length = 10) (hz : z.length = (n + 1 - i) * 10) :
    (splice (splice (l.take (i * 10) ++ z ++ rest) (i * 10) news) ((i + 1) * 10) (l.drop (i * 10))).take ((n + 1) * 10) = l.take (i * 10) ++ news ++ l.drop (i * 10) := by
  have h1 : (l.take (i * 10)).length = i * 10 := by rw [List.length_take]; omega
  have hz2 : z = z.take 10 ++ z.drop 10 := (List.take_append_drop 10 z).symm
  have e1 : splice (l.take (i * 10) ++ z ++ rest) (i * 10) news = l.take (i * 10) ++ (news ++ (z.drop 10 ++ rest)) := by
    have e0 : l.take (i * 10) ++ z ++ rest = l.take (i * 10) ++ (z.take 10 ++ (z.drop 10 ++ rest)) := by
      rw [List.append_assoc, ← List.append_assoc (z.take 10), List.take_append_drop]
    rw [e0]
    exact splice_partsS h1 (by rw [List.length_take]; omega)
  have h2 : (l.take (i * 10) ++ news).length = (i + 1) * 10 := by rw [List.length_append, h1, hn]; omega
  have h3 : ((l.take (i * 10) ++ news) ++ l.drop (i * 10)).length = (n + 1) * 10 := by rw [List.length_append, h2, List.length_drop, hl]; omega
  rw [e1, ← List.append_assoc, splice_partsS h2 (by rw [List.length_drop, List.length_drop, hl]; omega), ← List.append_assoc, ← h3, List.take_left' rfl]
set_option maxRecDepth 100000 in
set_option maxHeartbeats 3200000 in
theorem insert_growS (g n i vb : Nat) (cur : List Value) (f : Lv) (w : World) (ho : Own w g 43 cur) (hl : cur.length = n * 10) (hv : Own w vb 43 f.cells) (hi : i < n) (hn : (n + 1) * 176 ≤ 140737488355328) (h1 : ∀ u ∈ cur, u.oneCell' = true) :
    Calls Tryz.prog 52 #[.slice (some ⟨g, 0, none⟩) n n, .int .i64 (i : Int), .slice (some ⟨vb, 0, none⟩) 1 1] w fun e w' => ∃ G cur', e = .returned (.slice (some ⟨w.heap.size, 0, none⟩) (n + 1) G) ∧
      Own w' w.heap.size 43 cur' ∧ n + 1 ≤ G ∧ G ≤ maxLen ∧ cur'.length = G * 10 ∧ cur'.take ((n + 1) * 10) = cur.take (i * 10) ++ f.cells ++ cur.drop (i * 10) ∧ Below w.heap.size w w' := by
  obtain ⟨i0, hi0, hz0, hzs, hzb⟩ := info_parts infoLv
  have hU := Tryz.underlying23
  have hUi := Tryz.underlying3
  have hsz : (Tryz.prog.info? 43).map (·.size) = some 10 := by rw [hi0]; simp [hzs]
  have hbw := ho.inside
  have hvw := hv.inside
  have hkk : (n : Int) + 1 - (i : Int) = ((n + 1 - i : Nat) : Int) := by omega
  have hik : i + (n + 1 - i) = n + 1 := by omega
  have hold : (Builtin.firstCells i0.size i (.slice (some ⟨g, 0, none⟩) i n)).run Tryz.prog w.drew = .ok (cur.take (i * 10)).toArray w.drew := by
    rw [hzs]
    refine run_firstCells_some w.drew 10 i ⟨g, 0, none⟩ i n (cur.take (i * 10)) (by rw [List.length_take]; omega) (fun j v hj => ?_)
    have ea : (⟨g, 0, none⟩ : Addr).add j = ⟨g, j, none⟩ := by unfold Addr.add; split <;> simp_all
    rw [ea, (own_drewKS ho).at_ j]
    rw [List.getElem?_take] at hj
    split at hj
    · exact hj
    · cases hj
  obtain ⟨G, hG⟩ : ∃ G, G = grownCap w (n + 1) n 43 := ⟨_, rfl⟩
  have hGn : n + 1 ≤ G := by rw [hG]; exact grownCap_ge w _ _ _
  have hG63 : G ≤ maxLen := by rw [hG]; exact grownCap_le_maxLen w (n + 1) n 43 (by unfold maxLen; omega)
  obtain ⟨ROW, hROW⟩ : ∃ ROW : Array Value, ROW = (cur.take (i * 10)).toArray ++ Builtin.zeroCells zeroLv.cells (n + 1 - i) ++ Builtin.zeroCells zeroLv.cells (G - (n + 1)) := ⟨_, rfl⟩
  have hz2 : zeroLv.cells.size = 10 := rfl
  have hRl : ROW.size = G * 10 := by
    rw [hROW, Array.size_append, Array.size_append, size_zeroCells, size_zeroCells, hz2, List.size_toArray, List.length_take]
    omega
  obtain ⟨W1, hW1⟩ : ∃ W1, W1 = w.drew.alloc (.cells ROW 43) := ⟨_, rfl⟩
  have hrz : ∀ ty, (Builtin.append_ #[23, 3] ty #[.slice (some ⟨g, 0, none⟩) i n, .int .i64 ((n : Int) + 1 - (i : Int))]).run Tryz.prog w = .ok (.slice (some ⟨w.heap.size, 0, none⟩) (n + 1) G) W1 := fun ty => by
    have h := Lib.run_append_grow_zeros w 23 3 ty 43 i0 _ .i64 .i64 hU hUi hi0 hz0 (some ⟨g, 0, none⟩) i n (cur.take (i * 10)) hold (n + 1 - i) (by omega) (by omega) (by omega) (by omega) (by rw [hzb]; omega) (by rw [hzb, hik]; exact growslice_okS (by omega) hn)
    rw [hik] at h
    rw [hkk, hW1, hROW, hG]
    exact h
  have oR : Own W1 w.heap.size 43 ROW.toList := by
    rw [hW1]
    have := Own.made w.drew 43 ROW.toList
    simpa using this
  have oG : Own W1 g 43 cur := by rw [hW1]; exact (own_drewKS ho).more _
  have oV : Own W1 vb 43 f.cells := by rw [hW1]; exact (own_drewKS hv).more _
  have bW : Below w.heap.size w W1 := by rw [hW1]; exact (Below.drew (Below.refl _ _)).alloc (Nat.le_refl _) _
  have hRlen : ROW.toList.length = G * 10 := by simpa using hRl
  obtain ⟨W2, hW2⟩ : ∃ W2, W2 = W1.setRow w.heap.size (splice ROW.toList (i * 10) f.cells).toArray := ⟨_, rfl⟩
  have hcA : ∀ ty dc, (Builtin.copy_ #[23, 23] ty #[.slice (some ⟨w.heap.size, i * 10, none⟩) (n + 1 - i) dc, .slice (some ⟨vb, 0, none⟩) 1 1]).run Tryz.prog W1 = .ok (goInt (Nat.min 1 (n + 1 - i))) W2 := fun ty dc => by
    rw [hW2]
    refine run_copy_into W1 _ _ ty 43 w.heap.size (i * 10) (n + 1 - i) dc ⟨vb, 0, none⟩ 1 1 10 ROW.toList f.cells 43 hU hsz oR ?_ (fun j v hj => ?_) (by rw [hRlen]; simp [Lv.cells]; omega) (lcells_one f)
    · have : Nat.min 1 (n + 1 - i) = 1 := Nat.min_eq_left (by omega)
      rw [this]; rfl
    · have ea : (⟨vb, 0, none⟩ : Addr).add j = ⟨vb, j, none⟩ := by unfold Addr.add; split <;> simp_all
      rw [ea, oV.at_ j]; exact hj
  have oR2 : Own W2 w.heap.size 43 (splice ROW.toList (i * 10) f.cells) := by rw [hW2]; exact own_rowK oR
  have oG2 : Own W2 g 43 cur := by
    rw [hW2]; unfold Own; rw [row_other (by omega)]; exact oG
  have hl2 : (splice ROW.toList (i * 10) f.cells).length = G * 10 := by rw [splice_len (by rw [hRlen]; simp [Lv.cells]; omega), hRlen]
  have hcl : (cur.drop (i * 10)).length = (n - i) * 10 := by rw [List.length_drop, hl]; omega
  obtain ⟨W3, hW3⟩ : ∃ W3, W3 = W2.drew.setRow w.heap.size (splice (splice ROW.toList (i * 10) f.cells) ((i + 1) * 10) (cur.drop (i * 10))).toArray := ⟨_, rfl⟩
  have hcB : ∀ ty dc sc, (Builtin.copy_ #[23, 23] ty #[.slice (some ⟨w.heap.size, (i + 1) * 10, none⟩) (n + 1 - (i + 1)) dc, .slice (some ⟨g, i * 10, none⟩) (n - i) sc]).run Tryz.prog W2.drew = .ok (goInt (Nat.min (n - i) (n + 1 - (i + 1)))) W3 := fun ty dc sc => by
    rw [hW3]
    refine run_copy_into W2.drew _ _ ty 43 w.heap.size ((i + 1) * 10) (n + 1 - (i + 1)) dc ⟨g, i * 10, none⟩ (n - i) sc 10 _ (cur.drop (i * 10)) 43 hU hsz oR2 ?_ (fun j v hj => ?_) (by rw [hl2, hcl]; omega) (fun u hu => h1 u (List.mem_of_mem_drop hu))
    · have : Nat.min (n - i) (n + 1 - (i + 1)) = n - i := Nat.min_eq_left (by omega)
      rw [this, hcl]
    · have ea : (⟨g, i * 10, none⟩ : Addr).add j = ⟨g, i * 10 + j, none⟩ := by unfold Addr.add; split <;> simp_all
      rw [ea, (own_drewKS oG2).at_ (i * 10 + j)]
      rw [List.getElem?_drop] at hj; exact hj
  have oR3 : Own W3 w.heap.size 43 (splice (splice ROW.toList (i * 10) f.cells) ((i + 1) * 10) (cur.drop (i * 10))) := by rw [hW3]; exact own_rowK (w := W2.drew) oR2
  have b3 : Below w.heap.size w W3 := by
    rw [hW3, hW2]
    exact ⟨bW.os, bW.tape, bW.output, by simpa using bW.size, fun k hk => (row_other (by omega)).trans ((row_other (w := W1) (by omega)).trans (bW.block k hk))⟩
  have hfin : (splice (splice ROW.toList (i * 10) f.cells) ((i + 1) * 10) (cur.drop (i * 10))).take ((n + 1) * 10) = cur.take (i * 10) ++ f.cells ++ cur.drop (i * 10) := by
    have : ROW.toList = cur.take (i * 10) ++ (Builtin.zeroCells zeroLv.cells (n + 1 - i)).toList ++ (Builtin.zeroCells zeroLv.cells (G - (n + 1))).toList := by rw [hROW]; simp
    rw [this]
    exact splice3S hl hi rfl (by rw [Array.length_toList, size_zeroCells, hz2])
  have hlen3 : (splice (splice ROW.toList (i * 10) f.cells) ((i + 1) * 10) (cur.drop (i * 10))).length = G * 10 := by rw [splice_len (by rw [hl2, hcl]; omega), hl2]
  have HX := Lib.hid (And.intro oR3 (And.intro hGn (And.intro hG63 (And.intro hlen3 (And.intro hfin b3)))))
  have hB3 := fun ty dc sc => Lib.hid (hcB ty dc sc)
  unfold maxLen at hG63
  clear oR3 hlen3 hfin b3 hcB hl2 hcl oG2 oR2 hRlen bW oV oG oR hRl hROW hG hold hik hkk hz0 hzs hzb hsz hi0 hW1 hW2 hW3 h1 hl
  have hGi : ¬ (G = i) := by omega
  have hGim : ¬ (G = i + 1) := by omega
  have hci : ¬ (n = i) := by omega
  have hni : ¬ ((i : Int) = (n : Int)) := by omega
  have htn : ((i : Int) + 1).toNat = i + 1 := by omega
  have hb1 : (0 : Int) ≤ (i : Int) + 1 := by omega
  have hw1 : IntKind.i64.wrap ((i : Int) + 1) = (i : Int) + 1 := by rw [IntKind.wrap_i64]; omega
  have hb4 : (i : Int) + 1 ≤ (n : Int) + 1 := by omega
  have hb3 : (i : Int) ≤ (n : Int) := by omega
  have hin : i ≤ n := by omega
  have hgr : (n : Int) < (n : Int) + 1 := by omega
  go_enter Tryz.func52, Tryz.ntmps52
  go_wp2_with (first
    | (at_builtin; refine list_append_known _ rfl (.tmp 34) (.tmp 39) 23 3 rfl _ _ rfl rfl (hrz _) ?_)
    | (at_builtin; refine list_copy_known _ rfl (.tmp 43) (.tmp 44) 23 23 rfl _ _ rfl rfl (hcA _ _) ?_))
  go_region_law (refine step_copy_known rfl (.tmp 50) (.tmp 53) 23 23 rfl (.slice (some ⟨w.heap.size, (i + 1) * 10, none⟩) (n + 1 - (i + 1)) (G - (i + 1))) (.slice (some ⟨g, i * 10, none⟩) (n - i) (n - i)) (by simp [Act.eval, Act.put]) (by simp [Act.eval, Act.put]) (hB3 _ _ _).out ?_)
  go_wp2_with fail
  go_ret
  exact ⟨G, _, rfl, HX.out.1, HX.out.2.1, HX.out.2.2.1, HX.out.2.2.2.1, HX.out.2.2.2.2.1, HX.out.2.2.2.2.2⟩
end Go.Proofs.YtgalemkjgaiphaaGreat
