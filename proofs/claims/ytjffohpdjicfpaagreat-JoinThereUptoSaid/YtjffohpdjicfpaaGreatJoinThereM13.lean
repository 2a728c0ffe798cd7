/- Part 13 of the texts on which JoinThere rests: facts and contracts. -/
import Derived.Test.YtjffohpdjicfpaaGreatJoinThereM12
import Derived.BigQuiet
import Derived.Deep.RegionLaw
import Derived.Test.YtjffohpdjicfpaaGreatShelf
import Derived.Outline
import Derived.WalkSpells
import Derived.WalkLawsBesides
import Derived.Deep.Onto
import Derived.Lib.SliceRun
import Derived.Test.YtjffohpdjicfpaaGreatSortP
namespace Go.Proofs.YtjffohpdjicfpaaGreat
open Go Go.RowKit
def MatchS (s : Sp) (l : List Up) (w : World) (x : Ending) (w' : World) : Prop :=
  ∃ (A : Option Addr) (c : Nat) (oth : List Up) (E : Int), x = .returned (.tuple #[.slice A oth.length c, .int .i64 E]) ∧ (E = 0 ∧ MatchOk s.f (partsS s.L) l oth ∨ E ≠ 0 ∧ ∃ k, E = bldE s.f (partsK k s.L)) ∧ Ups w' w'.heap.size A oth ∧ (∀ u ∈ oth, UOk u) ∧ oth.length ≤ (partsS s.L).length ∧ chkUs oth = 0 ∧ Below w.heap.size w w'
def btRw (b : Bt) : Rw Up := ⟨b.uA, b.uc, b.l⟩
theorem flat_bts (bs : List Bt) : flatR (bs.map btRw) = bs.flatMap Bt.l := by
  unfold flatR
  rw [List.flatMap_map]
  rfl
theorem bts_uls {w : World} {A : Option Addr} {bs : List Bt} (h : Lies 1 gcell w w.heap.size A bs) (hi : ∀ b ∈ bs, BtIn w w.heap.size b ∧ BtOk b) : ULs w w.heap.size A (bs.map btRw) := by
  refine ⟨fun hp => ?_, fun r hr => ?_⟩
  · obtain ⟨b, o, e, hB, hc⟩ := h (by simpa using hp)
    refine ⟨b, o, e, hB, fun i x hx j u hj => ?_⟩
    rw [List.getElem?_map] at hx
    obtain ⟨y, hy, rfl⟩ := Option.map_eq_some_iff.1 hx
    exact hc i y hy j u hj
  · obtain ⟨b, hb, rfl⟩ := List.mem_map.1 hr
    exact (hi b hb).1.ups
set_option maxRecDepth 100000 in
set_option maxHeartbeats 12800000 in
theorem matching_any (s : Sp) (A : Option Addr) (c : Nat) (l : List Up) (w : World) (hs : SpIn w w.heap.size s) (os : SpOk s) (hr : ∀ x ∈ s.L, LvRm x) (hg : SpGood s.f s.L) (hn : (partsS s.L).length ≤ 1099511627776) (hl : Ups w w.heap.size A l) (ol : ∀ u ∈ l, UOk u) (hln : l.length ≤ 1099511627776) (h8 : ∀ u ∈ l, u.key.length ≤ 1099511627776) :
    Calls Tryz.prog 29 #[s.val, .slice A l.length c] w (MatchS s l w) := by
  obtain ⟨V, hV, hvb, hvs, hvo⟩ := spbox w s
  have y1 := fun W (h : Below V.heap.size V W) => Lib.hid (keys_any A c l W ((hl.keep hvb).keep h) ol hln h8)
  have y2 := fun W (h : Below V.heap.size V W) (A' : Option Addr) (c' : Nat) (ks : List (Rw Vl)) (hk : KLs W W.heap.size A' ks) (h9 : ∀ k ∈ ks, k.l.length ≤ maxLen) (h10 : ks.length ≤ 1099511627776) => Lib.hid (groups_any s A' c' ks W ((hs.keep hvb).keep h) os hr hn hk h9 h10)
  have H := Lib.hid (And.intro hvb (And.intro hvo (And.intro hg (And.intro hn (And.intro hln h8)))))
  have HX := Lib.hid (fun W (hb : Below V.heap.size V W) => own2 (hvo.past hb hvo.inside))
  obtain ⟨d0, d1⟩ := own2 hvo
  have hself := Below.refl V.heap.size V
  rw [show s.val = .agg #[.slice s.sA s.f.length s.sc, .slice s.lA s.L.length s.lc] from rfl] at y2 ⊢
  clear hs os hr hg hn hl ol hln h8 hvb hvs hvo
  go_enter Tryz.func29, Tryz.ntmps29
  go_upto_region 1 with fail
  rw [← hV]
  clear hV
  have HK8 := Lib.hid (fun (ks : List (Rw Vl)) (h : KeysOf l ks) => And.intro (fun (k : Rw Vl) (hk : k ∈ ks) => (show k.l.length ≤ maxLen from by
    obtain ⟨u, hu, e⟩ := h.sub k hk
    rw [e]
    have := H.out.2.2.2.2.2 u hu
    unfold maxLen; omega)) (show ks.length ≤ 1099511627776 from Nat.le_trans h.len H.out.2.2.2.2.1))
  go_region_with (first
    | (go_at_call 66; refine (y1 _ hself.drew).out.mono ?_; rintro _ w1 ⟨A1, c1, ks, rfl, hkl, hko, b1⟩; have hb1 := belows hself.drew b1; obtain ⟨e0, e1⟩ := HX.out w1 hb1; have HKO := Lib.hid hko; clear hko)
    | (go_at_call 65; refine (y2 _ hb1 A1 c1 ks hkl (HK8.out ks HKO.out).1 (HK8.out ks HKO.out).2).out.mono ?_; rintro _ w2 ⟨bs, A2, c2, E, rfl, r1, hl2, hin2, b2⟩; have HR := Lib.hid (And.intro r1 (And.intro hl2 (And.intro hin2 (belows hb1 b2)))); clear r1 hl2 hin2 b2))
  all_goals
    have hlen : (bs.map btRw).length = bs.length := List.length_map ..
    have hfl : flatR (bs.map btRw) = bs.flatMap Bt.l := flat_bts bs
    have hres : E = 0 ∧ MatchOk s.f (partsS s.L) l (bs.flatMap Bt.l) ∧ ((bs.flatMap Bt.l).length ≤ (partsS s.L).length ∧ chkUs (bs.flatMap Bt.l) = 0) ∨ E ≠ 0 ∧ bs = [] ∧ ∃ k, E = bldE s.f (partsK k s.L) := by
      rcases HR.out.1 with ⟨h, _⟩ | ⟨_, ⟨h1, h2⟩ | ⟨h1, h2, k, _, h3⟩⟩
      · exact absurd H.out.2.2.1 h
      · exact .inl ⟨h1, match_ok H.out.2.2.1 HKO.out h2⟩
      · exact .inr ⟨h1, h2, k.l, h3⟩
    have hle : (bs.flatMap Bt.l).length ≤ (partsS s.L).length := by
      rcases hres with h | h
      · exact h.2.2.1
      · rw [h.2.1]; exact Nat.zero_le _
    have hck : chkUs (bs.flatMap Bt.l) = 0 := by
      rcases hres with h | h
      · exact h.2.2.2
      · rw [h.2.1]; rfl
    have hbl : bs.length ≤ 1099511627776 := by
      rcases HR.out.1 with ⟨_, _, h⟩ | ⟨_, ⟨_, h2⟩ | ⟨_, h2, _⟩⟩
      · rw [h]; exact Nat.zero_le _
      · rw [h2.1]; exact (HK8.out ks HKO.out).2
      · rw [h2]; exact Nat.zero_le _
    have y3 := Lib.hid (concatU_any A2 c2 (bs.map btRw) _ (bts_uls HR.out.2.1 HR.out.2.2.1) (by rw [hfl]; exact Nat.le_trans hle H.out.2.2.2.1) (by rw [hlen]; exact hbl))
    rw [hlen, hfl] at y3
    have HE := Lib.hid (And.intro hres (And.intro hle hck))
    clear hlen hfl hres hle hck hbl y1 y2 d0 d1 e0 e1 hkl b1 hb1
    go_wp2_with fail
    refine y3.out.mono ?_
    rintro _ w3 ⟨v3, rfl, ho3, b3⟩
    obtain ⟨A3, c3, rfl, _, _, hl3⟩ := lies_of_own (size := 6) (cells := Up.cells) (l := bs.flatMap Bt.l) (by decide) ucells_len rfl ho3
    have hin3 : ∀ u ∈ bs.flatMap Bt.l, UIn w3 w3.heap.size u ∧ UOk u := fun u hu => by
      obtain ⟨b, hb, hu⟩ := List.mem_flatMap.1 hu
      exact ⟨(((HR.out.2.2.1 b hb).1.ups.each_ u hu).past b3 (Nat.le_refl _)).wide b3.size, (HR.out.2.2.1 b hb).2.l.ok u hu⟩
    have HF := Lib.hid (show MatchS s l w (.returned (.tuple #[.slice A3 (bs.flatMap Bt.l).length c3, .int .i64 E])) w3 from ⟨A3, c3, bs.flatMap Bt.l, E, rfl, HE.out.1.imp (fun h => ⟨h.1, h.2.1⟩) (fun h => ⟨h.1, h.2.2⟩), ⟨hl3, fun u hu => (hin3 u hu).1⟩, fun u hu => (hin3 u hu).2, HE.out.2.1, HE.out.2.2, belows H.out.1 (belows HR.out.2.2.2 b3)⟩)
    clear ho3 b3 hl3 hin3 y3
    go_wp2_with fail
    exact bodyPost_ret (v := .tuple #[.slice A3 (bs.flatMap Bt.l).length c3, .int .i64 E]) (by simp [results, Tryz.results29, go_sem]) rfl HF.out
def Awn (Q : Nat → Prop) (u : Up) : Prop := (0 < u.key.length → ∀ b o, u.kA = some ⟨b, o, none⟩ → Q b) ∧ (0 < u.row.length → ∀ b o, u.rA = some ⟨b, o, none⟩ → Q b)
theorem Awn.imp {Q R : Nat → Prop} {u : Up} (h : Awn Q u) (k : ∀ b, Q b → R b) : Awn R u := ⟨fun hp b o e => k b (h.1 hp b o e), fun hp b o e => k b (h.2 hp b o e)⟩
theorem Awn.and {Q R : Nat → Prop} {u : Up} (h : Awn Q u) (k : Awn R u) : Awn (fun b => Q b ∧ R b) u := ⟨fun hp b o e => ⟨h.1 hp b o e, k.1 hp b o e⟩, fun hp b o e => ⟨h.2 hp b o e, k.2 hp b o e⟩⟩
theorem awn_lt {w : World} {B : Nat} {u : Up} (h : UIn w B u) : Awn (fun b => b < B) u := by
  refine ⟨fun hp b o e => ?_, fun hp b o e => ?_⟩
  · obtain ⟨b', o', e', hb, _⟩ := h.key hp
    rw [e] at e'
    simp only [Option.some.injEq, Addr.mk.injEq, and_true] at e'
    omega
  · obtain ⟨b', o', e', hb, _⟩ := h.row hp
    rw [e] at e'
    simp only [Option.some.injEq, Addr.mk.injEq, and_true] at e'
    omega
theorem awn_lo {B : Nat} {A : Option Addr} {l : List Up} (h : Lo B A l) {u : Up} (hu : u ∈ l) : Awn (fun b => B ≤ b) u := ⟨fun _ b o e => h.2 u hu b o (.inl e), fun _ b o e => h.2 u hu b o (.inr e)⟩
def Aw (PB : Nat) (v : Value) (u : Up) : Prop := Awn (fun b => b ≠ PB ∧ v.ownBlock ≠ some b) u
structure PKeep (w w' : World) (PB : Nat) (v : Value) : Prop where
  os : w'.os = w.os
  tape : w'.tape = w.tape
  output : w'.output = w.output
  size : w.heap.size ≤ w'.heap.size
  block : ∀ k, k < w.heap.size → k ≠ PB → v.ownBlock ≠ some k → w'.heap[k]? = w.heap[k]?
def Grew (w : World) (v v' : Value) : Prop := v'.ownBlock = v.ownBlock ∨ ∃ k, v'.ownBlock = some k ∧ w.heap.size ≤ k
section
variable {w w' w'' : World} {PB : Nat} {v v' v'' : Value}
theorem PKeep.refl : PKeep w w PB v := ⟨rfl, rfl, rfl, Nat.le_refl _, fun _ _ _ _ => rfl⟩
theorem PKeep.trans (h : PKeep w w' PB v) (hg : Grew w v v') (k : PKeep w' w'' PB v') : PKeep w w'' PB v :=
  ⟨k.os.trans h.os, k.tape.trans h.tape, k.output.trans h.output, Nat.le_trans h.size k.size, fun i hi h1 h2 => (k.block i (Nat.lt_of_lt_of_le hi h.size) h1 fun e => by
    rcases hg with hg | ⟨j, hj, hl⟩
    · rw [hg] at e; exact h2 e
    · rw [hj] at e; injection e with e; omega).trans (h.block i hi h1 h2)⟩
theorem PKeep.quiet (h : PKeep w w' PB v) (hb : Below w'.heap.size w' w'') : PKeep w w'' PB v :=
  ⟨hb.os.trans h.os, hb.tape.trans h.tape, hb.output.trans h.output, Nat.le_trans h.size hb.size, fun i hi h1 h2 => (hb.block i (Nat.lt_of_lt_of_le hi h.size)).trans (h.block i hi h1 h2)⟩
theorem PKeep.after (hb : Below w.heap.size w w') (k : PKeep w' w'' PB v) : PKeep w w'' PB v :=
  ⟨k.os.trans hb.os, k.tape.trans hb.tape, k.output.trans hb.output, Nat.le_trans hb.size k.size, fun i hi h1 h2 => (k.block i (Nat.lt_of_lt_of_le hi hb.size) h1 h2).trans (hb.block i hi)⟩
theorem PKeep.of_quiet (hb : Below w.heap.size w w') : PKeep w w' PB v := PKeep.refl.quiet hb
theorem PKeep.below (h : PKeep w w' PB v) {B : Nat} (hw : B ≤ w.heap.size) (hB : B ≤ PB) (hv : ∀ k, v.ownBlock = some k → B ≤ k) : Below B w w' :=
  ⟨h.os, h.tape, h.output, h.size, fun k hk => h.block k (by omega) (by omega) fun e => by have := hv k e; omega⟩
theorem Grew.same : Grew w v v := .inl rfl
theorem Grew.later (h : Grew w' v v') (hs : w.heap.size ≤ w'.heap.size) : Grew w v v' := by
  rcases h with h | ⟨i, hi, hl⟩
  · exact .inl h
  · exact .inr ⟨i, hi, Nat.le_trans hs hl⟩
theorem vals_pk {A : Option Addr} {l : List Vl} (h : Vals w w.heap.size A l) (hg : PKeep w w' PB v) (hA : 0 < l.length → ∀ b o, A = some ⟨b, o, none⟩ → b ≠ PB ∧ v.ownBlock ≠ some b) : Vals w' w'.heap.size A l := fun hp => by
  obtain ⟨b, o, e, hb, hc⟩ := h hp
  obtain ⟨h1, h2⟩ := hA hp b o e
  have hk : ∀ j, w'.cell? ⟨b, j, none⟩ = w.cell? ⟨b, j, none⟩ := fun j => by unfold World.cell?; rw [hg.block b hb h1 h2]
  refine ⟨b, o, e, Nat.lt_of_lt_of_le hb hg.size, fun i v hi => ?_⟩
  obtain ⟨a0, a1, a2⟩ := hc i v hi
  exact ⟨(hk _).trans a0, (hk _).trans a1, (hk _).trans a2⟩
theorem uin_pk {u : Up} (h : UIn w w.heap.size u) (ha : Aw PB v u) (hg : PKeep w w' PB v) : UIn w' w'.heap.size u :=
  ⟨vals_pk h.key hg ha.1, vals_pk h.row hg ha.2⟩
theorem lies_pk {α : Type} {size : Nat} {cells : α → List Value} {A : Option Addr} {l : List α} (h : Lies size cells w w.heap.size A l) (hg : PKeep w w' PB v) (hA : 0 < l.length → ∀ b o, A = some ⟨b, o, none⟩ → b ≠ PB ∧ v.ownBlock ≠ some b) : Lies size cells w' w'.heap.size A l := fun hp => by
  obtain ⟨b, o, e, hb, hc⟩ := h hp
  obtain ⟨h1, h2⟩ := hA hp b o e
  have hk : ∀ j, w'.cell? ⟨b, j, none⟩ = w.cell? ⟨b, j, none⟩ := fun j => by unfold World.cell?; rw [hg.block b hb h1 h2]
  exact ⟨b, o, e, Nat.lt_of_lt_of_le hb hg.size, fun i x hi j u hj => (hk _).trans (hc i x hi j u hj)⟩
theorem Aw.grew {u : Up} (ha : Aw PB v u) (hl : UIn w w.heap.size u) (hg : Grew w v v') : Aw PB v' u := (Awn.and ha (awn_lt hl)).imp fun b h => by
  refine ⟨h.1.1, fun e => ?_⟩
  rcases hg with hg | ⟨j, hj, hlj⟩
  · rw [hg] at e; exact h.1.2 e
  · rw [hj] at e; injection e with e; have := h.2; omega
end
def OwnP (w : World) (g : Nat) (l : List Value) : Prop := ∃ T, Own w g T l
section
variable {w w' : World} {g : Nat} {l : List Value}
theorem OwnP.inside (h : OwnP w g l) : g < w.heap.size := h.choose_spec.inside
theorem OwnP.at_ (h : OwnP w g l) (i : Nat) : w.cell? ⟨g, i, none⟩ = l[i]? := h.choose_spec.at_ i
theorem OwnP.open_ (h : OwnP w g l) (i : Nat) : w.frozen? ⟨g, i, none⟩ = false := h.choose_spec.open_ i
theorem OwnP.more (h : OwnP w g l) (o : Obj) : OwnP (w.alloc o) g l := h.imp fun _ k => k.more o
theorem OwnP.drew' (h : OwnP w g l) : OwnP w.drew g l := h.imp fun _ k => k
theorem OwnP.set_ (h : OwnP w g l) (i : Nat) (u : Value) : OwnP (w.setCell ⟨g, i, none⟩ u) g (l.set i u) := h.imp fun _ k => k.set_ i u
theorem OwnP.other (h : OwnP w g l) {p : Addr} (hp : p.block ≠ g) (u : Value) : OwnP (w.setCell p u) g l := h.imp fun _ k => k.other hp u
theorem OwnP.past {B : Nat} (h : OwnP w g l) (hb : Below B w w') (hg : g < B) : OwnP w' g l := h.imp fun _ k => k.past hb hg
theorem OwnP.kept (h : OwnP w g l) (k : w'.heap[g]? = w.heap[g]?) : OwnP w' g l := h.imp fun _ e => k.trans e
end
structure Prod (w : World) (PB : Nat) (t : Tm) (why : Int) (v : Value) (M : List Up) : Prop where
  own : OwnP w PB [.int .u64 (t.e : Int), .int .u64 (t.a : Int), .int .u64 (t.b : Int), .int .i64 why, v]
  row : w.ownsRow (PB + 1) 49 6 v M.length (M.flatMap Up.cells)
  each_ : ∀ u ∈ M, UIn w w.heap.size u ∧ UOk u ∧ Aw PB v u
  zero : why = 0 → t = ⟨0, 0, 0⟩
section
variable {w w' : World} {PB : Nat} {t : Tm} {why : Int} {v : Value} {M : List Up}
theorem Prod.quiet (h : Prod w PB t why v M) (hb : Below w.heap.size w w') : Prod w' PB t why v M :=
  ⟨h.own.past hb h.own.inside, own_below h.row hb, fun u hu => ⟨(h.each_ u hu).1.keep hb, (h.each_ u hu).2.1, (h.each_ u hu).2.2⟩, h.zero⟩
theorem Prod.later (h : Prod w PB t why v M) : ∀ k, v.ownBlock = some k → PB + 1 ≤ k ∧ k < w.heap.size := fun k hk => h.row.lt k hk
end
theorem tbox (w : World) (t : Tm) : ∃ W, W = w.alloc (.cells #[.int .u64 (t.e : Int), .int .u64 (t.a : Int), .int .u64 (t.b : Int)] 26) ∧ Below w.heap.size w W ∧ W.heap.size = w.heap.size + 1 ∧ Own W w.heap.size 26 [.int .u64 (t.e : Int), .int .u64 (t.a : Int), .int .u64 (t.b : Int)] :=
  ⟨_, rfl, (Below.refl _ _).alloc (Nat.le_refl _) _, by simp, Own.made w 26 [.int .u64 (t.e : Int), .int .u64 (t.a : Int), .int .u64 (t.b : Int)]⟩
theorem own_four {w : World} {P : Nat} {t : TypeId} {z0 z1 z2 z3 z4 : Value} (h : Own w P t [z0, z1, z2, z3, z4]) (a b c d : Value) :
    ∃ X, X = (((w.setCell ⟨P, 0, none⟩ a).setCell ⟨P, 1, none⟩ b).setCell ⟨P, 2, none⟩ c).setCell ⟨P, 3, none⟩ d ∧ Own X P t [a, b, c, d, z4] ∧ PKeep w X P (.slice none 0 0) ∧ X.heap.size = w.heap.size := by
  refine ⟨_, rfl, (((h.set_ 0 a).set_ 1 b).set_ 2 c).set_ 3 d, ⟨rfl, rfl, rfl, by simp [World.setCell], fun k _ hk _ => ?_⟩, by simp [World.setCell]⟩
  have q := fun (W : World) (i : Nat) (v : Value) => Below.heap_setCell W ⟨P, i, none⟩ v k hk
  rw [q, q, q, q]
theorem own_fourP {w : World} {P : Nat} {z0 z1 z2 z3 z4 : Value} (h : OwnP w P [z0, z1, z2, z3, z4]) (a b c d : Value) :
    ∃ X, X = (((w.setCell ⟨P, 0, none⟩ a).setCell ⟨P, 1, none⟩ b).setCell ⟨P, 2, none⟩ c).setCell ⟨P, 3, none⟩ d ∧ OwnP X P [a, b, c, d, z4] ∧ PKeep w X P (.slice none 0 0) ∧ X.heap.size = w.heap.size := by
  obtain ⟨T, h⟩ := h
  obtain ⟨X, h1, h2, h3, h4⟩ := own_four h a b c d
  exact ⟨X, h1, ⟨T, h2⟩, h3, h4⟩
def FailSays (PB : Nat) (v : Value) (w : World) (x : Ending) (w' : World) : Prop :=
  x = .returned (.tuple #[]) ∧ ∃ t : Tm, OwnP w' PB [.int .u64 (t.e : Int), .int .u64 (t.a : Int), .int .u64 (t.b : Int), .int .i64 10, v] ∧ PKeep w w' PB (.slice none 0 0)
set_option maxRecDepth 100000 in
set_option maxHeartbeats 3200000 in
theorem failL_any (PB : Nat) (t : Tm) (why : Int) (v : Value) (tf : Tm) (w : World) (h : OwnP w PB [.int .u64 (t.e : Int), .int .u64 (t.a : Int), .int .u64 (t.b : Int), .int .i64 why, v]) (hw : why = 0 ∨ why = 10) :
    Calls Tryz.prog 53 #[.pointer (some ⟨PB, 0, none⟩), .agg #[.int .u64 (tf.e : Int), .int .u64 (tf.a : Int), .int .u64 (tf.b : Int)]] w (FailSays PB v w) := by
  obtain ⟨V, hV, hvb, hvs, hvo⟩ := tbox w tf
  have hbig := h.past hvb h.inside
  have hlt := h.inside
  obtain ⟨X, hX, hxo, hxk, hxs⟩ := own_fourP hbig (.int .u64 (tf.e : Int)) (.int .u64 (tf.a : Int)) (.int .u64 (tf.b : Int)) (.int .i64 10)
  have HX := Lib.hid (And.intro hxo (PKeep.after hvb hxk))
  have HB := Lib.hid (And.intro hbig hvb)
  have HVo := Lib.hid hvo
  have c0 := hbig.at_ 0
  have c1 := hbig.at_ 1
  have c2 := hbig.at_ 2
  have c3 := hbig.at_ 3
  have f0 := hbig.open_ 0
  have f1 := hbig.open_ 1
  have f2 := hbig.open_ 2
  have f3 := hbig.open_ 3
  have d0 := hvo.at_ 0
  have d1 := hvo.at_ 1
  have d2 := hvo.at_ 2
  simp only [List.getElem?_cons_zero, List.getElem?_cons_succ] at c0 c1 c2 c3 d0 d1 d2
  have hcmp := fun W => Lib.hid (compare_grows tf t W)
  unfold Tm.val at hcmp
  clear h hvb hvs hvo hxo hxk hxs hbig hlt
  have u1 : ∀ p : Past V, Calls Tryz.prog 74 #[.agg #[.int .u64 (tf.e : Int), .int .u64 (tf.a : Int), .int .u64 (tf.b : Int)], .agg #[.int .u64 (t.e : Int), .int .u64 (t.a : Int), .int .u64 (t.b : Int)]] p.w fun e w'' => e = .returned (.int .i64 (tf.cmp t)) ∧ ∃ q : Past V, w'' = q.w := fun p => calls_past (compare_any tf t p.w)
  have u2 := fun p : Past V => (HB.out.1.past p.h HB.out.1.inside).at_ 0
  have u3 := fun p : Past V => (HB.out.1.past p.h HB.out.1.inside).at_ 1
  have u4 := fun p : Past V => (HB.out.1.past p.h HB.out.1.inside).at_ 2
  have u5 := fun p : Past V => (HB.out.1.past p.h HB.out.1.inside).at_ 3
  have u6 := fun p : Past V => (HVo.out.past p.h HVo.out.inside).at_ 0
  have u7 := fun p : Past V => (HVo.out.past p.h HVo.out.inside).at_ 1
  have u8 := fun p : Past V => (HVo.out.past p.h HVo.out.inside).at_ 2
  simp only [List.getElem?_cons_zero, List.getElem?_cons_succ] at u2 u3 u4 u5 u6 u7 u8
  obtain ⟨r, hr⟩ : ∃ r, tf.cmp t = r := ⟨_, rfl⟩
  rw [hr] at u1
  clear hr
  rcases hw with rfl | rfl
  · skip
    go_enter Tryz.func53, Tryz.ntmps53
    go_upto_region 1 with fail
    rw [← hV]
    clear hV
    refine wp_region_past V (by kernel_rfl) (by kernel_rfl) (Below.refl _ _) ?_
    repeat (first | go_big_quiet_step ((go_at_call 74; exact u1 _)) | quiet_step ((go_at_call 74; exact u1 _)))
    refine wpQuiet_nil ?_
    intro wz hw'
    obtain ⟨⟨wy, hbz⟩, hw''⟩ := hw'
    dsimp only at hw''
    subst hw''
    clear u1 u2 u3 u4 u5 u6 u7 u8 c0 c1 c2 c3 f0 f1 f2 f3 d0 d1 d2 hX
    have hbig := HB.out.1.past hbz HB.out.1.inside
    have hvo := HVo.out.past hbz HVo.out.inside
    obtain ⟨X, hX, hxo, hxk, hxs⟩ := own_fourP hbig (.int .u64 (tf.e : Int)) (.int .u64 (tf.a : Int)) (.int .u64 (tf.b : Int)) (.int .i64 10)
    have HX := Lib.hid (And.intro hxo (PKeep.after HB.out.2 (PKeep.after hbz hxk)))
    have f0 := hbig.open_ 0
    have f1 := hbig.open_ 1
    have f2 := hbig.open_ 2
    have f3 := hbig.open_ 3
    have c0 := hbig.at_ 0
    have c1 := hbig.at_ 1
    have c2 := hbig.at_ 2
    have c3 := hbig.at_ 3
    have d0 := hvo.at_ 0
    have d1 := hvo.at_ 1
    have d2 := hvo.at_ 2
    simp only [List.getElem?_cons_zero, List.getElem?_cons_succ] at c0 c1 c2 c3 d0 d1 d2
    clear hbig hvo hxo hxk hxs hbz
    go_wp2_with fail
    rw [← hX]
    exact bodyPost_end (results_none rfl _ _ _) rfl ⟨rfl, tf, HX.out.1, HX.out.2⟩
  · by_cases hr0 : r < 0
    · have t1 : decide (r < 0) = true := decide_eq_true hr0
      clear hr0
      go_enter Tryz.func53, Tryz.ntmps53
      go_upto_region 1 with fail
      rw [← hV]
      clear hV
      refine wp_region_past V (by kernel_rfl) (by kernel_rfl) (Below.refl _ _) ?_
      repeat (first | go_big_quiet_step ((go_at_call 74; exact u1 _)) | quiet_step ((go_at_call 74; exact u1 _)))
      refine wpQuiet_nil ?_
      intro wz hw'
      obtain ⟨⟨wy, hbz⟩, hw''⟩ := hw'
      dsimp only at hw''
      subst hw''
      clear u1 u2 u3 u4 u5 u6 u7 u8 c0 c1 c2 c3 f0 f1 f2 f3 d0 d1 d2 hX
      have hbig := HB.out.1.past hbz HB.out.1.inside
      have hvo := HVo.out.past hbz HVo.out.inside
      obtain ⟨X, hX, hxo, hxk, hxs⟩ := own_fourP hbig (.int .u64 (tf.e : Int)) (.int .u64 (tf.a : Int)) (.int .u64 (tf.b : Int)) (.int .i64 10)
      have HX := Lib.hid (And.intro hxo (PKeep.after HB.out.2 (PKeep.after hbz hxk)))
      have f0 := hbig.open_ 0
      have f1 := hbig.open_ 1
      have f2 := hbig.open_ 2
      have f3 := hbig.open_ 3
      have c0 := hbig.at_ 0
      have c1 := hbig.at_ 1
      have c2 := hbig.at_ 2
      have c3 := hbig.at_ 3
      have d0 := hvo.at_ 0
      have d1 := hvo.at_ 1
      have d2 := hvo.at_ 2
      simp only [List.getElem?_cons_zero, List.getElem?_cons_succ] at c0 c1 c2 c3 d0 d1 d2
      clear hbig hvo hxo hxk hxs hbz
      go_wp2_with fail
      rw [← hX]
      exact bodyPost_end (results_none rfl _ _ _) rfl ⟨rfl, tf, HX.out.1, HX.out.2⟩
    · have t1 : decide (r < 0) = false := decide_eq_false hr0
      clear hr0
      go_enter Tryz.func53, Tryz.ntmps53
      go_upto_region 1 with fail
      rw [← hV]
      clear hV
      refine wp_region_past V (by kernel_rfl) (by kernel_rfl) (Below.refl _ _) ?_
      repeat (first | go_big_quiet_step ((go_at_call 74; exact u1 _)) | quiet_step ((go_at_call 74; exact u1 _)))
      refine wpQuiet_nil ?_
      intro wz hw'
      obtain ⟨⟨wy, hbz⟩, hw''⟩ := hw'
      dsimp only at hw''
      subst hw''
      clear u1 u2 u3 u4 u5 u6 u7 u8 c0 c1 c2 c3 f0 f1 f2 f3 d0 d1 d2 hX
      have HX := Lib.hid (And.intro (HB.out.1.past hbz HB.out.1.inside) (PKeep.of_quiet (PB := PB) (v := .slice none 0 0) (HB.out.2.trans (hbz.mono HB.out.2.size))))
      clear hbz
      go_wp2_with fail
      exact bodyPost_end (results_none rfl _ _ _) rfl ⟨rfl, t, HX.out.1, HX.out.2⟩
theorem pk_grown {w w' : World} {v : Value} {PB : Nat} (h : w.grownBy w' v.ownBlock) : PKeep w w' PB v := ⟨h.os, h.tape, h.output, h.size, fun k hk _ hne => h.block k hk fun e => hne e.symm⟩
theorem pk_set (w : World) (PB i : Nat) (x v : Value) : PKeep w (w.setCell ⟨PB, i, none⟩ x) PB v := ⟨rfl, rfl, rfl, by simp [World.setCell], fun k _ hk _ => Below.heap_setCell w ⟨PB, i, none⟩ x k hk⟩
theorem grown_set (w : World) (PB i : Nat) (x : Value) : w.grownBy (w.setCell ⟨PB, i, none⟩ x) (some PB) := ⟨rfl, rfl, rfl, by simp [World.setCell], fun k _ hk => Below.heap_setCell w ⟨PB, i, none⟩ x k fun e => hk (by rw [e])⟩
theorem PKeep.wide {w w' : World} {PB : Nat} (v : Value) (h : PKeep w w' PB (.slice none 0 0)) : PKeep w w' PB v := ⟨h.os, h.tape, h.output, h.size, fun k hk h1 _ => h.block k hk h1 (by simp [Value.ownBlock])⟩
theorem PKeep.grown {w w' : World} {PB : Nat} (h : PKeep w w' PB (.slice none 0 0)) : w.grownBy w' (some PB) := ⟨h.os, h.tape, h.output, h.size, fun k hk h1 => h.block k hk (fun e => h1 (by rw [e])) (by simp [Value.ownBlock])⟩
def ProdSays (PB : Nat) (why : Int) (v : Value) (M : List Up) (u : Up) (x : Int) (w : World) (e : Ending) (w' : World) : Prop :=
  e = .returned (.tuple #[]) ∧ ∃ t' v', Prod w' PB t' (if x = 0 then why else 10) v' (if x = 0 then M ++ [u] else M) ∧ PKeep w w' PB v ∧ Grew w v v'
set_option maxRecDepth 100000 in
set_option maxHeartbeats 6400000 in
theorem produce_any (PB : Nat) (t : Tm) (why : Int) (v : Value) (M : List Up) (u : Up) (x : Int) (w : World) (h : Prod w PB t why v M) (hw : why = 0 ∨ why = 10) (hu : UIn w w.heap.size u) (ok : UOk u) (ha : Aw PB v u) (hn : M.length ≤ 1099511627776) :
    Calls Tryz.prog 90 #[.pointer (some ⟨PB, 0, none⟩), u.val, .int .i64 x] w (ProdSays PB why v M u x w) := by
  obtain ⟨i0, hi, hz0, hz1, hz2⟩ := info_parts infoUp
  have hU := Tryz.underlying22
  obtain ⟨V, hV, hvb, hvs, hvo⟩ := upbox w u
  have hP := h.quiet hvb
  rw [show u.val = .agg #[.slice u.kA u.key.length u.kc, .slice u.rA u.row.length u.rc, .int .u64 (u.t.e : Int), .int .u64 (u.t.a : Int), .int .u64 (u.t.b : Int), .int .i64 u.d] from rfl]
  have HP := Lib.hid (And.intro hP (And.intro hvb (And.intro hvo hvs)))
  have HU := Lib.hid (And.intro hu (And.intro ok (And.intro ha h)))
  obtain ⟨e0, e1, e2, e3, e4, e5⟩ := own6 hvo
  clear h hu ok ha hvb hvs hvo hP
  by_cases hx : x = 0
  · have t1 : (x != 0) = false := by simp [hx]
    have HX := Lib.hid hx
    clear hx
    have c4 := HP.out.1.own.at_ 4
    have hlt := HP.out.1.own.inside
    simp only [List.getElem?_cons_zero, List.getElem?_cons_succ] at c4
    have hne : v.ownBlock ≠ some PB := fun e => by have := (HP.out.1.later _ e).1; omega
    have hsz : PB + 1 ≤ V.heap.size := hlt
    go_enter Tryz.func90, Tryz.ntmps90
    go_upto_region 1 with fail
    rw [← hV]
    clear hV
    go_upto_region 3 with fail
    go_region_law (refine step_append_lies (size := 6) (cells := Up.cells) (l := [u]) (B := V.heap.size + 1) _ rfl (.tmp 18) (.tmp 20) 22 49 rfl i0 _ 80 hU hi hz0 hz1 hz2 rfl (by decide) (fun _ => rfl) ucells_one (PB + 1) v M.length _ rfl (HP.out.1.row.alloc _).drew 1 V.heap.size 0 (by simp [Act.eval, Act.put]) (up_made _ u) (by unfold maxLen; simp; omega) (by simp; omega) (by simp; omega) ?_; intro v2 w2 ho2 hb2 hv2 hg2; obtain ⟨A2, c2, rfl, hA2, hm2, hL2⟩ := lies_of_own (size := 6) (cells := Up.cells) (l := M ++ [u]) (n := M.length + [u].length) (by decide) ucells_len (by rw [List.length_append]) (by rw [List.flatMap_append]; exact ho2); have hp2 := (HP.out.1.own.more (.cells #[.slice u.kA u.key.length u.kc, .slice u.rA u.row.length u.rc, .int .u64 (u.t.e : Int), .int .u64 (u.t.a : Int), .int .u64 (u.t.b : Int), .int .i64 u.d] 49)).kept (hg2.block PB (by simp; omega) (fun e => hne e.symm)); have f4 := hp2.open_ 4; have c4' := hp2.at_ 4; simp only [List.getElem?_cons_zero, List.getElem?_cons_succ] at c4')
    all_goals
      have hpk : PKeep w w2 PB v := PKeep.after HP.out.2.1 (PKeep.after ((Below.refl _ _).alloc (Nat.le_refl _) _) (PKeep.after ((Below.refl _ _).drew) (pk_grown hg2)))
      have hgr : Grew w v (.slice A2 (M ++ [u]).length c2) := by
        rcases hv2 with e | e
        · exact .inl e
        · exact .inr ⟨_, e, by have := HP.out.2.2.2; simp; omega⟩
      have hne2 : (Value.slice A2 (M ++ [u]).length c2).ownBlock ≠ some PB := fun e => by have := (ho2.lt _ e).1; omega
      have HF := Lib.hid (And.intro ho2 (And.intro hp2 (And.intro hpk (And.intro hgr hne2))))
      clear ho2 hb2 hv2 hg2 hp2 hpk hgr hne2 hL2
      go_wp2_with fail
      obtain ⟨g1, g2, g3, g4, g5⟩ := HF.out
      have hl1 : (M ++ [u]).length = M.length + 1 := by simp
      rw [hl1] at g1 g4 g5
      have hpk' := g3.trans g4 (pk_set w2 PB 4 (.slice A2 (M.length + 1) c2) (.slice A2 (M.length + 1) c2))
      refine bodyPost_end (results_none rfl _ _ _) rfl ⟨rfl, t, .slice A2 (M.length + 1) c2, ?_, hpk', g4⟩
      rw [if_pos HX.out, if_pos HX.out]
      refine ⟨OwnP.set_ g2 4 _, ?_, fun y hy => ?_, HU.out.2.2.2.zero⟩
      · rw [List.flatMap_append, List.length_append]
        exact g1.kept (grown_set w2 PB 4 _) (.inr g5)
      · rcases List.mem_append.1 hy with hy | hy
        · obtain ⟨h1, h2, h3⟩ := HU.out.2.2.2.each_ y hy
          exact ⟨uin_pk h1 h3 hpk', h2, h3.grew h1 g4⟩
        · obtain rfl : y = u := by simpa using hy
          exact ⟨uin_pk HU.out.1 HU.out.2.2.1 hpk', HU.out.2.1, HU.out.2.2.1.grew HU.out.1 g4⟩
  · have t1 : (x != 0) = true := bne_iff_ne.2 hx
    have HX := Lib.hid hx
    clear hx
    have u1 := fun (W : World) (hW : Below V.heap.size V W) => Lib.hid (failL_any PB t why v u.t W (HP.out.1.own.past hW HP.out.1.own.inside) hw)
    unfold FailSays at u1
    have hself : Below V.heap.size V V.drew := (Below.refl _ _).drew
    clear hw
    go_enter Tryz.func90, Tryz.ntmps90
    go_upto_region 1 with fail
    rw [← hV]
    clear hV
    go_upto_region 2 with fail
    go_region_with (go_at_call 53; refine (u1 _ hself).out.mono ?_; rintro _ w2 ⟨rfl, t2, ho2, hk2⟩)
    all_goals
      have HF := Lib.hid (And.intro ho2 (PKeep.after HP.out.2.1 (PKeep.after (Below.refl _ _).drew (hk2.wide v))))
      have HG := Lib.hid (PKeep.after (Below.refl _ _).drew hk2 : PKeep V w2 PB (.slice none 0 0))
      clear ho2 hk2
      go_wp2_with fail
      refine bodyPost_end (results_none rfl _ _ _) rfl ⟨rfl, t2, v, ?_, HF.out.2, Grew.same⟩
      rw [if_neg HX.out, if_neg HX.out]
      have hne : v.ownBlock ≠ some PB := fun e => by have := (HP.out.1.later _ e).1; omega
      refine ⟨HF.out.1, HP.out.1.row.kept HG.out.grown (.inr hne), fun y hy => ?_, fun e => by omega⟩
      obtain ⟨h1, h2, h3⟩ := HU.out.2.2.2.each_ y hy
      exact ⟨uin_pk h1 h3 HF.out.2, h2, h3⟩
def Ints (w : World) (B : Nat) (A : Option Addr) (l : List Int) : Prop :=
  0 < l.length → ∃ b o, A = some ⟨b, o, none⟩ ∧ b < B ∧ ∀ (i : Nat) (n : Int), l[i]? = some n → w.cell? ⟨b, o + i, none⟩ = some (.int .i64 n)
section
variable {w w' : World} {B B' b o : Nat} {A : Option Addr} {l : List Int}
end
def Fit64 (l : List Int) : Prop := ∀ n ∈ l, -9223372036854775808 ≤ n ∧ n ≤ 9223372036854775807
def mulHi (x y : Int) : Int := x * y / 18446744073709551616
def mulLo (x y : Int) : Int := x * y % 18446744073709551616
theorem hi_neg (n : Int) (h1 : -9223372036854775808 ≤ n) (h2 : n < 0) : hiW n = 18446744073709551615 := by unfold hiW; omega
theorem hi_pos (n : Int) (h1 : 0 ≤ n) (h2 : n ≤ 9223372036854775807) : hiW n = 0 := by unfold hiW; omega
theorem and_all (y : Int) (h0 : 0 ≤ y) (h1 : y < 18446744073709551616) : bits BinOp.and IntKind.u64 18446744073709551615 y = y := by
  have h := bits_and_u64_nat 18446744073709551615 y.toNat (by omega) (by omega)
  rw [Nat.and_comm, show (18446744073709551615 : Nat) = 2 ^ 64 - 1 from rfl, Nat.and_two_pow_sub_one_eq_mod, Int.toNat_of_nonneg h0] at h
  exact h.trans (by omega)
theorem and_none (y : Int) (h0 : 0 ≤ y) (h1 : y < 18446744073709551616) : bits BinOp.and IntKind.u64 0 y = 0 := by
  have h := bits_and_u64_nat 0 y.toNat (by omega) (by omega)
  rw [Nat.zero_and, Int.toNat_of_nonneg h0] at h
  exact h
theorem and_hi (n y : Int) (h1 : -9223372036854775808 ≤ n) (h2 : n ≤ 9223372036854775807) (h3 : 0 ≤ y) (h4 : y < 18446744073709551616) : bits BinOp.and IntKind.u64 (hiW n) y = if n < 0 then y else 0 := by
  split
  · rw [hi_neg n h1 (by assumption), and_all y h3 h4]
  · rw [hi_pos n (by omega) h2, and_none y h3 h4]
theorem lo_case (n : Int) (h1 : -9223372036854775808 ≤ n) (h2 : n ≤ 9223372036854775807) : loW n = if n < 0 then n + 18446744073709551616 else n := by unfold loW; split <;> omega
theorem mul_lo (a b : Int) (h1 : -9223372036854775808 ≤ a) (h2 : a ≤ 9223372036854775807) (h3 : -9223372036854775808 ≤ b) (h4 : b ≤ 9223372036854775807) : mulLo (loW a) (loW b) = loW (a * b) := by
  unfold mulLo
  show loW a * loW b % 18446744073709551616 = (a * b) % 18446744073709551616
  unfold loW
  rw [← Int.mul_emod]
theorem mul_hi (a b : Int) (h1 : -9223372036854775808 ≤ a) (h2 : a ≤ 9223372036854775807) (h3 : -9223372036854775808 ≤ b) (h4 : b ≤ 9223372036854775807) :
    IntKind.u64.wrap (mulHi (loW a) (loW b) - IntKind.u64.wrap (bits BinOp.and IntKind.u64 (hiW a) (loW b) + bits BinOp.and IntKind.u64 (hiW b) (loW a))) = hiW (a * b) := by
  obtain ⟨a1, a2⟩ := loW_bound a
  obtain ⟨b1, b2⟩ := loW_bound b
  rw [and_hi a _ h1 h2 b1 b2, and_hi b _ h3 h4 a1 a2, wrapU, wrapU]
  clear a1 a2 b1 b2
  unfold mulHi hiW
  rw [lo_case a h1 h2, lo_case b h3 h4]
  by_cases ha : a < 0 <;> by_cases hb : b < 0 <;> simp only [ha, hb, if_true, if_false]
  · rw [Int.add_mul, Int.mul_add, Int.mul_add]; generalize a * b = Q at *; omega
  · rw [Int.add_mul]; generalize a * b = Q at *; omega
  · rw [Int.mul_add]; generalize a * b = Q at *; omega
  · generalize a * b = Q at *; omega
theorem mul_bound (a b : Int) (h1 : -9223372036854775808 ≤ a) (h2 : a ≤ 9223372036854775807) (h3 : -9223372036854775808 ≤ b) (h4 : b ≤ 9223372036854775807) : -170141183460469231731687303715884105728 ≤ a * b ∧ a * b < 170141183460469231731687303715884105728 := by
  have h := Int.natAbs_mul a b
  have k := Nat.mul_le_mul (show a.natAbs ≤ 9223372036854775808 by omega) (show b.natAbs ≤ 9223372036854775808 by omega)
  rw [← h] at k
  generalize a * b = Q at *
  omega

set_option maxRecDepth 100000 in
set_option maxHeartbeats 1600000 in
theorem times_any (a b : Int) (w : World) (h1 : -9223372036854775808 ≤ a) (h2 : a ≤ 9223372036854775807) (h3 : -9223372036854775808 ≤ b) (h4 : b ≤ 9223372036854775807)
    (hmul : ∀ W, Calls Tryz.prog 43 #[.int .u64 (loW a), .int .u64 (loW b)] W fun e w' => e = .returned (.tuple #[.int .u64 (mulHi (loW a) (loW b)), .int .u64 (mulLo (loW a) (loW b))]) ∧ W = w') :
    Calls Tryz.prog 17 #[.int .i64 a, .int .i64 b] w fun e w' => e = .returned (.tuple #[.int .i64 (fitN (a * b)), .int .i64 (fitE (a * b))]) ∧ Below w.heap.size w w' := by
  have ea : IntKind.u64.wrap a = loW a := by rw [wrapU]; rfl
  have eb : IntKind.u64.wrap b = loW b := by rw [wrapU]; rfl
  rw [mul_lo a b h1 h2 h3 h4] at hmul
  have hmul := fun W => Lib.hid (hmul W)
  have hnum := Lib.hid (fun W => number_any (a * b) W (mul_bound a b h1 h2 h3 h4).1 (mul_bound a b h1 h2 h3 h4).2)
  have oa := fun W => Lib.hid (of_any a W h1 h2)
  have ob := fun W => Lib.hid (of_any b W h3 h4)
  have hfd : ∀ (x y : Int) (W : World), (Instr.field 83 (.agg #[.int .u64 x, .int .u64 y]) 0).run Tryz.prog W = .ok (.int .u64 x) W := fun _ _ _ => by kernel_rfl
  have hhi := mul_hi a b h1 h2 h3 h4
  generalize a * b = Q at *
  generalize mulHi (loW a) (loW b) = M at *
  clear h1 h2 h3 h4
  go_enter Tryz.func17, Tryz.ntmps17
  go_wp2_with fail
  refine (hmul _).out.mono ?_
  rintro e w1 ⟨rfl, rfl⟩
  go_wp2_with fail
  have fb := (Below.refl w.heap.size w).alloc (Nat.le_refl _) (.cells #[.int .u64 M, .int .u64 (loW Q)] 83)
  have f0 := Own.made w 83 [.int .u64 M, .int .u64 (loW Q)]
  have hV : ∃ V, V = w.alloc (.cells #[.int .u64 M, .int .u64 (loW Q)] 83) := ⟨_, rfl⟩
  obtain ⟨V, hV⟩ := hV
  rw [← hV] at fb ⊢
  rw [show w.alloc (.cells [.int .u64 M, .int .u64 (loW Q)].toArray 83) = V from hV.symm] at f0
  have c0 := fun p : Past V => (f0.past p.h f0.inside).at_ 0
  have HF := Lib.hid (And.intro fb f0)
  clear fb f0 hV
  simp only [List.getElem?_cons_zero] at c0
  refine wp_region_past_tail V 17 (by kernel_rfl) (by kernel_rfl) (Below.refl _ _) ?_
  simp only [List.take_succ_cons, List.take_zero, List.drop_succ_cons, List.drop_zero]
  repeat (quiet_step ((first | (go_at_call 32; exact calls_past (oa _).out) | (go_at_call 32; exact calls_past (ob _).out))))
  refine wpQuiet_nil ?_
  intro wq hw'
  obtain ⟨⟨wz, hbz⟩, hw''⟩ := hw'
  obtain rfl : wq = wz := hw''
  clear c0
  have f1 := HF.out.2.past hbz HF.out.2.inside
  have c0 := f1.at_ 0
  have c1 := f1.at_ 1
  have g0 := f1.open_ 0
  simp only [List.getElem?_cons_zero, List.getElem?_cons_succ] at c0 c1
  have H1 := Lib.hid (And.intro hbz f1)
  clear hbz f1
  go_wp2_with fail
  refine (hnum.out _).mono ?_
  rintro e w3 ⟨rfl, b3⟩
  go_wp2_with fail
  go_ret2
  obtain ⟨fb, f0⟩ := HF.out
  have k1 := fb.trans (H1.out.1.mono fb.size)
  exact ⟨rfl, (k1.setCell (p := ⟨w.heap.size, 0, none⟩) (Nat.le_refl _) _).trans (b3.mono (by simp; exact k1.size))⟩
theorem mul64_any (a b : Int) (W : World) : Calls Tryz.prog 43 #[.int .u64 (loW a), .int .u64 (loW b)] W fun e w' => e = .returned (.tuple #[.int .u64 (mulHi (loW a) (loW b)), .int .u64 (mulLo (loW a) (loW b))]) ∧ W = w' := by
  obtain ⟨a1, a2⟩ := loW_bound a
  obtain ⟨b1, b2⟩ := loW_bound b
  have h := Tryz.bits_Mul64 (loW a).toNat (loW b).toNat (by omega) (by omega) W
  have e1 : (((loW a).toNat * (loW b).toNat / 18446744073709551616 : Nat) : Int) = mulHi (loW a) (loW b) := by
    unfold mulHi; rw [Int.natCast_ediv, Int.natCast_mul, Int.toNat_of_nonneg a1, Int.toNat_of_nonneg b1]; rfl
  have e2 : (((loW a).toNat * (loW b).toNat % 18446744073709551616 : Nat) : Int) = mulLo (loW a) (loW b) := by
    unfold mulLo; rw [Int.natCast_emod, Int.natCast_mul, Int.toNat_of_nonneg a1, Int.toNat_of_nonneg b1]; rfl
  rw [e1, e2, Int.toNat_of_nonneg a1, Int.toNat_of_nonneg b1] at h
  exact h.mono fun e w' ⟨he, hw⟩ => ⟨he, hw.symm⟩
theorem dtimes_any (a b : Int) (w : World) (h1 : -9223372036854775808 ≤ a) (h2 : a ≤ 9223372036854775807) (h3 : -9223372036854775808 ≤ b) (h4 : b ≤ 9223372036854775807) :
    Calls Tryz.prog 17 #[.int .i64 a, .int .i64 b] w fun e w' => e = .returned (.tuple #[.int .i64 (fitN (a * b)), .int .i64 (fitE (a * b))]) ∧ Below w.heap.size w w' := times_any a b w h1 h2 h3 h4 (mul64_any a b)
def MadeSays (u : Up) (r : List Vl) (d e : Int) (w : World) (x : Ending) (w' : World) : Prop :=
  ∃ u' : Up, x = .returned (.tuple #[u'.val, .int .i64 e]) ∧ u'.row = r ∧ u'.t = u.t ∧ u'.d = d ∧ UIn w' w'.heap.size u' ∧ UOk u' ∧ (∀ Q : Nat → Prop, (∀ b, w.heap.size ≤ b → Q b) → Awn Q u → Awn Q u') ∧ Below w.heap.size w w'
theorem fitN_in (S : Int) : -9223372036854775808 ≤ fitN S ∧ fitN S ≤ 9223372036854775807 := by
  unfold fitN
  split
  · rename_i h; exact (fits_iff S).1 h
  · omega
def RowsAt (w : World) (B : Nat) (A : Option Addr) (L : List (List Vl)) : Prop :=
  0 < L.length → ∃ b o, A = some ⟨b, o, none⟩ ∧ b < B ∧ ∀ (i : Nat) (l : List Vl), L[i]? = some l → ∃ A' c', w.cell? ⟨b, o + i, none⟩ = some (.slice A' l.length c') ∧ Vals w B A' l
section
variable {w w' : World} {B B' : Nat} {A : Option Addr} {L : List (List Vl)}
theorem RowsAt.past (h : RowsAt w B A L) (hb : Below B' w w') (hB : B ≤ B') : RowsAt w' B A L := fun hn => by
  obtain ⟨b, o, e, hlt, hc⟩ := h hn
  refine ⟨b, o, e, hlt, fun i l hi => ?_⟩
  obtain ⟨A', c', h1, h2⟩ := hc i l hi
  exact ⟨A', c', (hb.cell (p := ⟨b, o + i, none⟩) (show b < B' by omega)).trans h1, h2.past hb hB⟩
theorem RowsAt.wide (h : RowsAt w B A L) (hB : B ≤ B') : RowsAt w B' A L := fun hn => by
  obtain ⟨b, o, e, hlt, hc⟩ := h hn
  refine ⟨b, o, e, by omega, fun i l hi => ?_⟩
  obtain ⟨A', c', h1, h2⟩ := hc i l hi
  exact ⟨A', c', h1, h2.wide hB⟩
end
def lens (L : List (List Vl)) : Nat := (L.map List.length).sum
theorem lens_flat (L : List (List Vl)) : L.flatten.length = lens L := by simp [lens, List.length_flatten]
theorem lens_snoc {L : List (List Vl)} {k : Nat} {l : List Vl} (h : L[k]? = some l) : lens (L.take (k + 1)) = lens (L.take k) + l.length := by
  rw [List.take_add_one, h]; simp [lens]
theorem flat_snoc {L : List (List Vl)} {k : Nat} {l : List Vl} (h : L[k]? = some l) : (L.take (k + 1)).flatten = (L.take k).flatten ++ l := by
  rw [List.take_add_one, h]; simp
theorem lens_take : ∀ (L : List (List Vl)) (k : Nat), lens (L.take k) ≤ lens L
  | [], k => by simp [lens]
  | l :: L, 0 => by simp [lens]
  | l :: L, k + 1 => by
    have := lens_take L k
    unfold lens at *
    simp only [List.take_succ_cons, List.map_cons, List.sum_cons]
    omega
theorem zero_size (z : Array Value) (n : Nat) : (Builtin.zeroCells z n).size = n * z.size := by simp [Builtin.zeroCells]
theorem bytesVl : Tryz.t122.bytes = 32 := by kernel_rfl
set_option maxRecDepth 100000 in
set_option maxHeartbeats 1600000 in
theorem grow_any (n : Nat) (w : World) (hn : n * 32 ≤ 140737488355328) :
    Calls Tryz.prog 176 #[.slice none 0 0, .int .i64 (n : Int)] w fun e w' => ∃ v, e = .returned v ∧ w'.ownsRow w.heap.size 122 3 v 0 [] ∧ Below w.heap.size w w' := by
  by_cases h0 : n = 0
  · subst h0
    go_enter Tryz.func176, Tryz.ntmps176
    go_wp2_with fail
    go_ret
    exact ⟨_, rfl, World.ownsRow_nil _ _ _ _, Below.refl _ _⟩
  · have hp : 0 < n := by omega
    have t1 : decide (0 < (n : Int)) = true := by simp; omega
    have hge := grownCap_ge w n 0 122
    have hle := grownCap_le_maxLen w n 0 122 (by unfold maxLen; omega)
    have HG := Lib.hid (And.intro hge hle)
    have hb := bytesVl
    have hnx : Builtin.nextslicecap n 0 = n := by unfold Builtin.nextslicecap; simp; omega
    clear h0 hge hle
    go_enter Tryz.func176, Tryz.ntmps176
    go_wp2_with fail
    all_goals first
      | (exfalso; omega)
      | skip
    go_ret
    refine ⟨_, rfl, ?_, ((Below.refl w.heap.size w).alloc (Nat.le_refl _) _).drew⟩
    obtain ⟨hge, hle⟩ := HG.out
    exact World.ownsRow_made (base := w.heap.size) (e := 122) (size := 3) w _ (grownCap w n 0 122) (Nat.le_refl _) hle (by
      rw [Array.size_append, zero_size, zero_size]
      show n * 3 + (grownCap w n 0 122 - n) * 3 = _
      omega)

theorem lens_one {L : List (List Vl)} {k : Nat} {l : List Vl} (h : L[k]? = some l) : lens (L.take k) + l.length ≤ lens L := by
  rw [← lens_snoc h]; exact lens_take L (k + 1)
set_option maxRecDepth 100000 in
set_option maxHeartbeats 3200000 in
theorem concat_any (A : Option Addr) (c : Nat) (L : List (List Vl)) (w : World) (hl : RowsAt w w.heap.size A L) (hn : L.length ≤ maxLen) (hs : lens L ≤ 8) :
    Calls Tryz.prog 138 #[.slice A L.length c] w fun e w' => ∃ v, e = .returned v ∧ w'.ownsRow w.heap.size 122 3 v (lens L) (L.flatten.flatMap Vl.cells) ∧ Below w.heap.size w w' := by
  have Hl := Lib.hid hl
  unfold maxLen at hn
  have hgrow := fun W => Lib.hid (grow_any (lens L) W (by omega))
  clear hl
  go_enter Tryz.func138, Tryz.ntmps138
  go_wp2_with fail
  go_loopw [3, 11] (fun s i wr => ∃ k : Nat, i = .int .i64 (k : Int) ∧ s = .int .i64 ((lens (L.take k) : Nat) : Int) ∧ k ≤ L.length ∧ Below w.heap.size w wr)
    (fun _ i _ => L.length - (intOf i).toNat)
  case atStart => exact ⟨0, rfl, rfl, by omega, Below.refl _ _⟩
  case round =>
    obtain ⟨k, rfl, rfl, hk, hb⟩ := hrel
    by_cases hlt : k < L.length
    · have hx : L[k]? = some L[k] := List.getElem?_eq_getElem hlt
      obtain ⟨b, o, rfl, hB, hl⟩ := Hl.out (by omega)
      obtain ⟨A', c', hc, hv⟩ := hl k _ hx
      have c0 := (hb.cell (p := ⟨b, o + k, none⟩) hB).trans hc
      have hsn := lens_snoc hx
      have hon := lens_one hx
      generalize L[k] = l at *
      generalize lens (L.take k) = m at *
      have HH := Lib.hid (And.intro hb hsn)
      clear hb hl hx hsn hc hv
      go_wp2_with fail
      go_roundw
      case rel => exact ⟨k + 1, by go_num, by rw [HH.out.2]; go_num, by omega, HH.out.1⟩
      case measure => simp [intOf]; omega
    · have hk2 : k = L.length := by omega
      subst hk2
      rw [List.take_length]
      have HH := Lib.hid hb
      clear hb
      go_wp2_with fail
      refine (hgrow _).out.mono ?_
      rintro e w1 ⟨v1, rfl, o1, b1⟩
      have hw1 := HH.out.trans (b1.mono HH.out.size)
      have o1' := o1.mono HH.out.size
      have H1 := Lib.hid (And.intro o1' hw1)
      clear o1 o1' b1 hw1 hgrow
      go_wp2_with fail
      go_loopw [6, 27] (fun v i w2 => ∃ k : Nat, i = .int .i64 (k : Int) ∧ k ≤ L.length ∧ w2.ownsRow w.heap.size 122 3 v (lens (L.take k)) ((L.take k).flatten.flatMap Vl.cells) ∧ Below w.heap.size w w2)
        (fun _ i _ => L.length - (intOf i).toNat)
      case atStart => exact ⟨0, rfl, by omega, H1.out.1, H1.out.2⟩
      case round =>
        obtain ⟨k, rfl, hk', hown, hb2⟩ := hrel
        by_cases hlt' : k < L.length
        · have hx : L[k]? = some L[k] := List.getElem?_eq_getElem hlt'
          obtain ⟨b, o, rfl, hB, hl⟩ := Hl.out (by omega)
          obtain ⟨A', c', hc, hv⟩ := hl k _ hx
          have c0 := (hb2.cell (p := ⟨b, o + k, none⟩) hB).trans hc
          have hvv := hv.past hb2 (Nat.le_refl _)
          have hsn := lens_snoc hx
          have hon := lens_one hx
          have hfs := flat_snoc hx
          generalize L[k] = l at *
          have HV := Lib.hid (And.intro hvv (And.intro hown (And.intro hb2 (And.intro hsn hfs))))
          clear hl hx hsn hfs hc hv hvv hown hb2
          go_wp2_with (at_builtin; refine wpList_append_vl _ rfl (.tmp 31) (.tmp 32) rfl w.heap.size _ _ _ rfl HV.out.2.1 w.heap.size A' c' l rfl HV.out.1 ?c1 ?c2 ?_)
          case c1 => omega
          case c2 => exact HV.out.2.2.1.size
          intro v' w' ho' hb'
          rw [← List.flatMap_append] at ho'
          have H2 := Lib.hid (And.intro ho' (HV.out.2.2.1.trans hb'))
          clear ho' hb'
          go_wp2_with fail
          go_roundw
          case rel => exact ⟨k + 1, by go_num, by omega, by rw [HV.out.2.2.2.1, HV.out.2.2.2.2]; exact H2.out.1, H2.out.2⟩
          case measure => simp [intOf]; omega
        · have hk3 : k = L.length := by omega
          subst hk3
          rw [List.take_length] at hown
          have H2 := Lib.hid (And.intro hown hb2)
          clear hown hb2
          go_wp2_with fail
          go_ret
          exact ⟨_, rfl, H2.out.1, H2.out.2⟩
def okRows (L : List (List Vl)) : Bool := L.all fun l => decide (chkRow l = 0)
def joinE (L : List (List Vl)) : Int := if okRows L then (if lens L ≤ 8 then 0 else 2) else 4
def joinL (L : List (List Vl)) : List Vl := if okRows L && decide (lens L ≤ 8) then L.flatten else []
theorem chk_two (l : List Vl) : chkRow l = 0 ∧ l.length ≤ 8 ∨ chkRow l = 4 := by
  unfold chkRow
  by_cases h : (l.all Vl.right && decide (l.length ≤ 8)) = true
  · rw [if_pos h]; simp only [Bool.and_eq_true, decide_eq_true_eq] at h; exact .inl ⟨rfl, h.2⟩
  · rw [if_neg h]; exact .inr rfl
theorem okRows_snoc {L : List (List Vl)} {k : Nat} {l : List Vl} (h : L[k]? = some l) : okRows (L.take (k + 1)) = (okRows (L.take k) && decide (chkRow l = 0)) := by
  unfold okRows; rw [List.take_add_one, h]; simp
theorem okRows_bad {L : List (List Vl)} {k : Nat} {l : List Vl} (h : L[k]? = some l) (hc : chkRow l = 4) : okRows L = false := by
  cases ho : okRows L with
  | false => rfl
  | true =>
    have := List.all_eq_true.1 ho l (List.mem_of_getElem? h)
    rw [hc] at this; simp at this
def JoinPost (L : List (List Vl)) (w : World) (e : Ending) (w' : World) : Prop :=
  ∃ v, e = .returned (.tuple #[v, .int .i64 (joinE L)]) ∧ w'.ownsRow w.heap.size 122 3 v (joinL L).length ((joinL L).flatMap Vl.cells) ∧ Below w.heap.size w w'
theorem join_none {L : List (List Vl)} {w w' : World} {c : Int} (hE : joinE L = c) (hL : joinL L = []) (hb : Below w.heap.size w w') : JoinPost L w (.returned (.tuple #[.slice none 0 0, .int .i64 c])) w' :=
  ⟨_, by rw [hE], by rw [hL]; exact World.ownsRow_nil _ _ _ _, hb⟩
theorem VOk_all {L : List (List Vl)} (h : ∀ l ∈ L, ∀ v ∈ l, VOk v) {k : Nat} {l : List Vl} (hx : L[k]? = some l) : ∀ v ∈ l, v.s.size ≤ maxLen := fun v hv => (h l (List.mem_of_getElem? hx) v hv).1

set_option maxRecDepth 100000 in
set_option maxHeartbeats 3200000 in
theorem join_any (A : Option Addr) (c : Nat) (L : List (List Vl)) (w : World) (hl : RowsAt w w.heap.size A L) (hn : L.length ≤ 140737488355328) (hlen : ∀ l ∈ L, l.length ≤ maxLen) (hok : ∀ l ∈ L, ∀ v ∈ l, VOk v) :
    Calls Tryz.prog 89 #[.slice A L.length c] w (JoinPost L w) := by
  have hconc := fun W h hs => Lib.hid (concat_any A c L W h (by unfold maxLen; omega) hs)
  have hchk := fun A c l W h hn hs => Lib.hid (vcheck_any A c l W h hn hs)
  have Hl := Lib.hid (And.intro hl (And.intro hlen hok))
  clear hl hlen hok
  go_enter Tryz.func89, Tryz.ntmps89
  go_wp2_with fail
  go_loopw [4, 10] (fun s i wr => ∃ k : Nat, i = .int .i64 (k : Int) ∧ s = .int .i64 ((lens (L.take k) : Nat) : Int) ∧ k ≤ L.length ∧ lens (L.take k) ≤ 8 * k ∧ okRows (L.take k) = true ∧ Below w.heap.size w wr)
    (fun _ i _ => L.length - (intOf i).toNat)
  case atStart => exact ⟨0, rfl, rfl, by omega, by simp [lens], rfl, Below.refl _ _⟩
  case round =>
    obtain ⟨k, rfl, rfl, hk, h8, hokk, hb⟩ := hrel
    by_cases hlt : k < L.length
    · have hx : L[k]? = some L[k] := List.getElem?_eq_getElem hlt
      obtain ⟨b, o, rfl, hB, hl⟩ := Hl.out.1 (by omega)
      obtain ⟨A', c', hc, hv⟩ := hl k _ hx
      have c0 := (hb.cell (p := ⟨b, o + k, none⟩) hB).trans hc
      have hvv := vals_keep (hv.past hb (Nat.le_refl _) |>.wide hb.size) (Below.refl _ _)
      have hsn := lens_snoc hx
      have hos := okRows_snoc hx
      have hob := fun h => okRows_bad hx h
      have hll := Hl.out.2.1 _ (List.mem_of_getElem? hx)
      have hvs := VOk_all Hl.out.2.2 hx
      have htw := chk_two L[k]
      generalize L[k] = l at *
      generalize lens (L.take k) = m at *
      have hcall := Lib.hid ((hchk A' c' l wr hvv hll hvs).out)
      have HH := Lib.hid (And.intro hb (And.intro hsn (And.intro hos (And.intro hokk hob))))
      clear hb hl hx hsn hos hc hv hvv hob hokk hll hvs
      rcases htw with ⟨hz, hl8⟩ | hz
      · rw [hz] at hcall
        have HZ := Lib.hid hz
        clear hz
        go_wp2_with fail
        refine hcall.out.mono ?_
        rintro e w1 ⟨rfl, b1⟩
        have H1 := Lib.hid b1
        clear b1
        go_wp2_with fail
        go_roundw
        case rel =>
          obtain ⟨hb, hsn, hos, hokk, hob⟩ := HH.out
          exact ⟨k + 1, by go_num, by rw [hsn]; go_num, by omega, by omega, by rw [hos, hokk, HZ.out]; rfl, hb.trans (H1.out.mono hb.size)⟩
        case measure => simp [intOf]; omega
      · rw [hz] at hcall
        have HZ := Lib.hid hz
        clear hz
        go_wp2_with fail
        refine hcall.out.mono ?_
        rintro e w1 ⟨rfl, b1⟩
        have H1 := Lib.hid b1
        clear b1
        go_wp2_with fail
        go_ret2
        obtain ⟨hb, hsn, hos, hokk, hob⟩ := HH.out
        have hob := hob HZ.out
        exact join_none (by unfold joinE; rw [hob]; rfl) (by unfold joinL; rw [hob]; rfl) (hb.trans (H1.out.mono hb.size))
    · have hk2 : k = L.length := by omega
      subst hk2
      rw [List.take_length] at hokk h8 ⊢
      have HH := Lib.hid (And.intro hb hokk)
      clear hb hokk
      by_cases hm : 8 < lens L
      · have t1 : decide ((8 : Int) < ((lens L : Nat) : Int)) = true := by simp; omega
        have HM := Lib.hid hm
        go_wp2_with fail
        go_ret2
        obtain ⟨hb, hokk⟩ := HH.out
        have hm := HM.out
        exact join_none (by unfold joinE; rw [hokk]; simp; omega) (by unfold joinL; rw [hokk]; simp; omega) hb
      · have t1 : decide ((8 : Int) < ((lens L : Nat) : Int)) = false := by simp; omega
        have HM := Lib.hid hm
        have hcall := Lib.hid ((hconc wr (Hl.out.1.past HH.out.1 (Nat.le_refl _) |>.wide HH.out.1.size) (by omega)).out)
        clear hm
        go_wp2_with fail
        refine hcall.out.mono ?_
        rintro e w1 ⟨v1, rfl, o1, b1⟩
        have H1 := Lib.hid (And.intro o1 b1)
        clear o1 b1
        go_wp2_with fail
        go_ret2
        obtain ⟨hb, hokk⟩ := HH.out
        have hm := HM.out
        have hj : joinL L = L.flatten := by unfold joinL; rw [hokk]; simp; omega
        refine ⟨_, by rw [show joinE L = 0 from by unfold joinE; rw [hokk]; simp; omega]; rfl, ?_, hb.trans (H1.out.2.mono hb.size)⟩
        rw [hj, lens_flat]
        exact H1.out.1.mono hb.size
section
variable {K : Type} {cmp : K → K → Int} {R : K → Prop}
def wsum (F : K → Int) : List (K × Int) → Int
  | [] => 0
  | x :: l => F x.1 * x.2 + wsum F l
theorem wsum_ins (L : Lin cmp R) (F : K → Int) (x : K × Int) (hx : R x.1) : ∀ l : List (K × Int), (∀ y ∈ l, R y.1) → wsum F (ins cmp x l) = wsum F l + F x.1 * x.2
  | [], _ => by simp [ins, wsum]
  | y :: t, h => by
    have ih := wsum_ins L F x hx t fun z hz => h z (by simp [hz])
    unfold ins
    by_cases h0 : cmp y.1 x.1 = 0
    · have e : y.1 = x.1 := (L.eq y.1 x.1 (h y (by simp)) hx).1 h0
      rw [if_pos h0]
      simp only [wsum, e, Int.mul_add]
      omega
    · rw [if_neg h0]
      split
      · simp only [wsum, ih]; omega
      · simp only [wsum]; omega
theorem wsum_asmF (L : Lin cmp R) (F : K → Int) : ∀ l a : List (K × Int), (∀ y ∈ l, R y.1) → (∀ y ∈ a, R y.1) → wsum F (asmF cmp a l) = wsum F a + wsum F l
  | [], a, _, _ => by simp [asmF, wsum]
  | x :: l, a, h, ha => by
    have hx := h x (by simp)
    have ih := wsum_asmF L F l (ins cmp x a) (fun y hy => h y (by simp [hy])) (ins_right hx ha)
    show wsum F (asmF cmp (ins cmp x a) l) = _
    rw [ih, wsum_ins L F x hx a ha]
    simp only [wsum]
    omega
theorem wsum_nz0 (F : K → Int) : ∀ l : List (K × Int), wsum F (l.filter fun x => x.2 != 0) = wsum F l
  | [] => rfl
  | x :: l => by
    have ih := wsum_nz0 F l
    rw [List.filter_cons]
    split
    · simp only [wsum, ih]
    · rename_i h
      have h0 : x.2 = 0 := by simpa using h
      simp only [wsum, ih, h0, Int.mul_zero]
      omega
theorem wsum_nz (L : Lin cmp R) (F : K → Int) {l : List (K × Int)} (h : ∀ y ∈ l, R y.1) : wsum F (nz cmp l) = wsum F l := by
  unfold nz asm
  rw [wsum_nz0, wsum_asmF L F l [] h fun y hy => (by cases hy)]
  simp [wsum]
def bsum (G : K → K → Int) (X Y : List (K × Int)) : Int := wsum (fun x => wsum (fun y => G x y) Y) X
theorem bsum_nz (L : Lin cmp R) (G : K → K → Int) {X Y : List (K × Int)} (hX : ∀ x ∈ X, R x.1) (hY : ∀ y ∈ Y, R y.1) : bsum G (nz cmp X) (nz cmp Y) = bsum G X Y := by
  unfold bsum
  rw [wsum_nz L _ hX]
  have : (fun x => wsum (fun y => G x y) (nz cmp Y)) = fun x => wsum (fun y => G x y) Y := funext fun x => wsum_nz L _ hY
  rw [this]
theorem wsum_times (F : K → Int) (c : Int) : ∀ Y : List (K × Int), wsum F Y * c = (Y.map fun y => F y.1 * (c * y.2)).sum
  | [] => by simp [wsum]
  | y :: Y => by
    simp only [wsum, List.map_cons, List.sum_cons, Int.add_mul, wsum_times F c Y]
    rw [Int.mul_assoc, Int.mul_comm y.2 c]
theorem bsum_pairs (G : K → K → Int) (Y : List (K × Int)) : ∀ X : List (K × Int), bsum G X Y = (X.flatMap fun x => Y.map fun y => G x.1 y.1 * (x.2 * y.2)).sum
  | [] => rfl
  | x :: X => by
    have ih := bsum_pairs G Y X
    unfold bsum at *
    simp only [wsum, List.flatMap_cons, List.sum_append, ih, wsum_times]
end
def joinP (x y : Up) : Uk × Int := (⟨[], x.row ++ y.row, x.t.sup y.t⟩, x.d * y.d)
def pairsP (a b : List Up) : List (Uk × Int) := a.flatMap fun x => (ofKey x.key b).map (joinP x)
theorem pairs_right (b b' : List Up) (R : Uk → Prop) : ∀ a : List Up, ∀ k, sumOf Uk.cmp (pairsP a (b ++ b')) k = sumOf Uk.cmp (pairsP a b ++ pairsP a b') k
  | [], _ => rfl
  | x :: a, k => by
    have ih := pairs_right b b' R a k
    unfold pairsP at *
    simp only [List.flatMap_cons, ofKey_append, List.map_append, sumOf_append] at ih ⊢
    omega
theorem lub_le {s t u : Tm} : (s.sup t).le u = (s.le u && t.le u) := by
  rw [Bool.eq_iff_iff, Bool.and_eq_true, Tm.le_iff, Tm.le_iff, Tm.le_iff]
  simp only [Tm.sup]
  omega
def goodP (x y : Up) : Bool := decide (x.row.length + y.row.length ≤ 8) && fits (x.d * y.d)
theorem two_rows (w : World) (A1 A2 : Option Addr) (c1 c2 : Nat) (l1 l2 : List Vl) (h1 : Vals w w.heap.size A1 l1) (h2 : Vals w w.heap.size A2 l2) :
    ∃ V, V = w.alloc (.cells #[.slice A1 l1.length c1, .slice A2 l2.length c2] 47) ∧ Below w.heap.size w V ∧ V.heap.size = w.heap.size + 1 ∧ RowsAt V V.heap.size (some ⟨w.heap.size, 0, none⟩) [l1, l2] := by
  have hb : Below w.heap.size w (w.alloc (.cells #[.slice A1 l1.length c1, .slice A2 l2.length c2] 47)) := (Below.refl _ _).alloc (Nat.le_refl _) _
  refine ⟨_, rfl, hb, by simp, fun _ => ⟨_, _, rfl, by simp, fun i l hi => ?_⟩⟩
  match i, hi with
  | 0, hi => obtain rfl : l1 = l := by simpa using hi
             exact ⟨A1, c1, by simp [go_sem], vals_keep h1 hb⟩
  | 1, hi => obtain rfl : l2 = l := by simpa using hi
             exact ⟨A2, c2, by simp [go_sem], vals_keep h2 hb⟩
theorem join_two {x y : Up} (cx : chkU x = 0) (cy : chkU y = 0) : (joinE [x.row, y.row] = if x.row.length + y.row.length ≤ 8 then 0 else 2) ∧ (x.row.length + y.row.length ≤ 8 → joinL [x.row, y.row] = x.row ++ y.row) ∧ (joinL [x.row, y.row]).length ≤ 8 ∧ (∀ v ∈ joinL [x.row, y.row], v ∈ x.row ++ y.row) := by
  have h1 : chkRow x.row = 0 := (chkK_zero cx).2.1
  have h2 : chkRow y.row = 0 := (chkK_zero cy).2.1
  have ho : okRows [x.row, y.row] = true := by unfold okRows; simp [h1, h2]
  have hl : lens [x.row, y.row] = x.row.length + y.row.length := by simp [lens]
  unfold joinE joinL
  rw [ho, hl]
  by_cases h : x.row.length + y.row.length ≤ 8
  · refine ⟨by simp [h], fun _ => by simp [h], ?_, fun v hv => ?_⟩
    · simp [h]
    · simpa [h] using hv
  · refine ⟨by simp [h], fun h' => absurd h' h, by simp [h], fun v hv => by simp [h] at hv⟩
theorem joinP_right {x y : Up} (cx : chkU x = 0) (cy : chkU y = 0) (h : x.row.length + y.row.length ≤ 8) : chkK ⟨[], x.row ++ y.row, x.t.sup y.t⟩ = 0 := by
  obtain ⟨_, r1, t1⟩ := chkK_zero cx
  obtain ⟨_, r2, t2⟩ := chkK_zero cy
  have hr : chkRow (x.row ++ y.row) = 0 := by
    have k1 : x.row.all Vl.right = true := by
      unfold chkRow at r1
      split at r1
      · rename_i h1; simp only [Bool.and_eq_true] at h1; exact h1.1
      · cases r1
    have k2 : y.row.all Vl.right = true := by
      unfold chkRow at r2
      split at r2
      · rename_i h1; simp only [Bool.and_eq_true] at h1; exact h1.1
      · cases r2
    unfold chkRow
    rw [List.all_append, k1, k2, List.length_append, decide_eq_true h]
    rfl
  have ht : chk [x.t.sup y.t] = 0 := by
    dsimp only [Up.k] at t1 t2
    unfold chk at t1 t2 ⊢
    simp only [List.all_cons, List.all_nil, Bool.and_true, Tm.right, Bool.and_eq_true, decide_eq_true_eq, Tm.sup] at t1 t2 ⊢
    have a1 : x.t.e ≤ 4611686018427387904 ∧ max x.t.a x.t.b ≤ 4611686018427387904 := by
      apply Decidable.byContradiction; intro h; rw [if_neg h] at t1; cases t1
    have a2 : y.t.e ≤ 4611686018427387904 ∧ max y.t.a y.t.b ≤ 4611686018427387904 := by
      apply Decidable.byContradiction; intro h; rw [if_neg h] at t2; cases t2
    rw [if_pos (by omega)]
  unfold chkK orI
  dsimp only
  rw [hr, ht]
  rfl
theorem er2_at {W : World} {n : Nat} {a b : Int} (hn : W.heap.size = n) (i : Nat) : (W.alloc (.cells #[.int .i64 a, .int .i64 b] 27)).cell? ⟨n, i, none⟩ = [Value.int .i64 a, Value.int .i64 b][i]? :=
  hn ▸ (Own.made W 27 [.int .i64 a, .int .i64 b]).at_ i
theorem er2_drew {W : World} {n : Nat} {a b : Int} (hn : W.heap.size = n) (i : Nat) : (W.alloc (.cells #[.int .i64 a, .int .i64 b] 27)).drew.cell? ⟨n, i, none⟩ = [Value.int .i64 a, Value.int .i64 b][i]? :=
  hn ▸ (own_drew' (Own.made W 27 [.int .i64 a, .int .i64 b])).at_ i
theorem er2_more {W : World} {n : Nat} {a b : Int} {o : Obj} (hn : W.heap.size = n) (i : Nat) : ((W.alloc (.cells #[.int .i64 a, .int .i64 b] 27)).alloc o).cell? ⟨n, i, none⟩ = [Value.int .i64 a, Value.int .i64 b][i]? :=
  hn ▸ ((Own.made W 27 [.int .i64 a, .int .i64 b]).more o).at_ i
theorem er2_mored {W : World} {n : Nat} {a b : Int} {o : Obj} (hn : W.heap.size = n) (i : Nat) : ((W.alloc (.cells #[.int .i64 a, .int .i64 b] 27)).alloc o).drew.cell? ⟨n, i, none⟩ = [Value.int .i64 a, Value.int .i64 b][i]? :=
  hn ▸ (own_drew' ((Own.made W 27 [.int .i64 a, .int .i64 b]).more o)).at_ i
def PairPost (PB : Nat) (why : Int) (v : Value) (M : List Up) (x y : Up) (w : World) (e : Ending) (w' : World) : Prop :=
  e = .returned (.tuple #[]) ∧ ∃ u t' v', (goodP x y = true → u.p = joinP x y ∧ chkU u = 0) ∧ Prod w' PB t' (if goodP x y = true then why else 10) v' (if goodP x y = true then M ++ [u] else M) ∧ PKeep w w' PB v ∧ Grew w v v'
set_option maxRecDepth 100000 in
set_option maxHeartbeats 12800000 in
theorem pair_any (PB : Nat) (t : Tm) (why : Int) (v : Value) (M : List Up) (x y : Up) (w : World) (h : Prod w PB t why v M) (hw : why = 0 ∨ why = 10) (hx : UIn w w.heap.size x) (ox : UOk x) (cx : chkU x = 0) (hy : UIn w w.heap.size y) (oy : UOk y) (cy : chkU y = 0) (hn : M.length ≤ 1099511627776) :
    Calls Tryz.prog 51 #[.pointer (some ⟨PB, 0, none⟩), x.val, y.val] w (PairPost PB why v M x y w) := by
  obtain ⟨V, hV, hg, o1, o2⟩ := two_box w x y
  have hvb : Below w.heap.size w V := hg.below
  obtain ⟨V2, hV2, hb2, hs2, hr2⟩ := two_rows V x.rA y.rA x.rc y.rc x.row y.row (hx.keep hvb).row (hy.keep hvb).row
  obtain ⟨j1, j2, j3, j4⟩ := join_two cx cy
  have y1 := Lib.hid (join_any (some ⟨V.heap.size, 0, none⟩) 2 [x.row, y.row] V2 hr2 (by simp) (by
    intro l hl
    simp only [List.mem_cons, List.not_mem_nil, or_false] at hl
    rcases hl with rfl | rfl
    · exact maxn ox.rn
    · exact maxn oy.rn) (by
    intro l hl
    simp only [List.mem_cons, List.not_mem_nil, or_false] at hl
    rcases hl with rfl | rfl
    · exact ox.rs
    · exact oy.rs))
  unfold JoinPost at y1
  have y2 := fun W => Lib.hid (dtimes_any x.d y.d W ox.dn.1 ox.dn.2 oy.dn.1 oy.dn.2)
  have y4 := fun A W h => Lib.hid (lub_any A 2 [x.t, y.t] W h (by simp) (by unfold maxLen; omega))
  have y5 := fun W g a b h1 h2 => Lib.hid (orE2_any g a b W h1 h2)
  unfold Tm.val at y4
  have hVs : V.heap.size = w.heap.size + 2 := by rw [hV]; simp
  have hP2 := h.quiet (belows hvb hb2)
  have hPw := h.own.inside
  have hjl : ([x.row, y.row] : List (List Vl)).length = 2 := rfl
  have hgood : goodP x y = (decide (x.row.length + y.row.length ≤ 8) && fits (x.d * y.d)) := rfl
  have hvin : ∀ k, v.ownBlock = some k → k < w.heap.size := fun k hk => (h.later k hk).2
  have HU := Lib.hid (And.intro h (And.intro hx (And.intro hy (And.intro ox (And.intro oy (And.intro cx cy))))))
  obtain ⟨R, hR⟩ : ∃ R, joinL [x.row, y.row] = R := ⟨_, rfl⟩
  obtain ⟨E1, hE1⟩ : ∃ E, joinE [x.row, y.row] = E := ⟨_, rfl⟩
  obtain ⟨N, hN⟩ : ∃ N, fitN (x.d * y.d) = N := ⟨_, rfl⟩
  obtain ⟨E2, hE2⟩ : ∃ E, fitE (x.d * y.d) = E := ⟨_, rfl⟩
  obtain ⟨s, hs⟩ : ∃ s, lub [x.t, y.t] = s := ⟨_, rfl⟩
  rw [hR, hE1] at y1
  rw [hN, hE2] at y2
  rw [hs] at y4
  rw [hR] at j2 j3 j4
  rw [hE1] at j1
  have hss : s = x.t.sup y.t := hs.symm
  have hNb : -9223372036854775808 ≤ N ∧ N ≤ 9223372036854775807 := by rw [← hN]; exact fitN_in _
  have hEE : (orI E1 E2 = 0 ↔ goodP x y = true) ∧ (goodP x y = true → N = x.d * y.d ∧ R = x.row ++ y.row ∧ x.row.length + y.row.length ≤ 8) := by
    rw [hgood, Bool.and_eq_true, decide_eq_true_eq]
    rw [← hE2, ← hN, j1]
    unfold orI fitE fitN
    by_cases h1 : x.row.length + y.row.length ≤ 8
    · by_cases h2 : fits (x.d * y.d) = true
      · simp [h1, h2, j2 h1]
      · simp [h1, h2]
    · simp [h1]
  have HE := Lib.hid (And.intro hEE (And.intro hNb (And.intro hss (And.intro j3 (fun q hq => j4 q hq)))))
  have HB := Lib.hid (And.intro hvb (And.intro o1 (And.intro o2 (And.intro hb2 (And.intro hP2 (And.intro hPw (And.intro hvin (And.intro hVs hs2))))))))
  obtain ⟨a0, a1, a2, a3, a4, a5⟩ := own6 o1
  obtain ⟨b0, b1, b2, b3, b4, b5⟩ := own6 o2
  rw [show x.val = .agg #[.slice x.kA x.key.length x.kc, .slice x.rA x.row.length x.rc, .int .u64 (x.t.e : Int), .int .u64 (x.t.a : Int), .int .u64 (x.t.b : Int), .int .i64 x.d] from rfl, show y.val = .agg #[.slice y.kA y.key.length y.kc, .slice y.rA y.row.length y.rc, .int .u64 (y.t.e : Int), .int .u64 (y.t.a : Int), .int .u64 (y.t.b : Int), .int .i64 y.d] from rfl]
  clear h hx hy ox oy cx cy hg o1 o2 hvb hb2 hs2 hr2 j1 j2 j3 j4 hP2 hR hE1 hN hE2 hs hNb hEE hgood hvin hss hVs hjl hPw
  go_enter Tryz.func51, Tryz.ntmps51
  go_upto_region 1 with fail
  rw [← hV]
  clear hV
  go_wp2_with fail
  rw [← hV2]
  clear hV2
  refine y1.out.mono ?_
  rintro _ w1 ⟨v1, rfl, ho1, c1⟩
  have hbw1 : Below V.heap.size V w1 := belows HB.out.2.2.2.1 c1
  have p1 := HB.out.2.1.past hbw1 HB.out.2.1.inside
  have p2 := HB.out.2.2.1.past hbw1 HB.out.2.2.1.inside
  have H1 := Lib.hid (And.intro ho1 (And.intro c1 (And.intro p1 p2)))
  clear a0 a1 a2 a3 a4 a5 b0 b1 b2 b3 b4 b5 ho1 c1 hbw1
  obtain ⟨a0, a1, a2, a3, a4, a5⟩ := own6 p1
  obtain ⟨b0, b1, b2, b3, b4, b5⟩ := own6 p2
  clear p1 p2
  go_upto_region 2 with fail
  go_wp2_with fail
  refine (y2 _).out.mono ?_
  rintro _ w3 ⟨rfl, c3⟩
  obtain ⟨AR, cR, rfl, hcR, hmR, hRv⟩ := vals_of_own rfl (own_below H1.out.1 c3)
  have hlt := fun b o (e : AR = some ⟨b, o, none⟩) => (own_below H1.out.1 c3).lt b (by rw [e]; rfl)
  have p1 := H1.out.2.2.1.past c3 H1.out.2.2.1.inside
  have p2 := H1.out.2.2.2.past c3 H1.out.2.2.2.inside
  have hP3 := HB.out.2.2.2.2.1.quiet (belows H1.out.2.1 c3)
  have huin : UIn w3 w3.heap.size ⟨none, 0, [], AR, cR, R, s, N⟩ := ⟨Vals.nil_, hRv⟩
  have huok : UOk ⟨none, 0, [], AR, cR, R, s, N⟩ := ⟨Nat.zero_le _, Nat.le_trans HE.out.2.2.2.1 (by decide), (fun q hq => by cases hq), fun q hq => by
    rcases List.mem_append.1 (HE.out.2.2.2.2 q hq) with h | h
    · exact HU.out.2.2.2.1.rs q h
    · exact HU.out.2.2.2.2.1.rs q h, HE.out.2.1⟩
  have huaw : Aw PB v ⟨none, 0, [], AR, cR, R, s, N⟩ := ⟨fun hp => by simp at hp, fun _ b o e => by
    have h1 := (hlt b o e).1
    have h2 := HB.out.2.2.2.2.2.1
    have h3 := HB.out.2.2.2.2.2.2.2
    refine ⟨by omega, fun e' => ?_⟩
    have := HB.out.2.2.2.2.2.2.1 b e'
    omega⟩
  have hb03 : Below w.heap.size w w3 := belows (belows (belows HB.out.1 HB.out.2.2.2.1) H1.out.2.1) c3
  have hsix : ∀ W, Own W w.heap.size 49 x.cells → Own W (w.heap.size + 1) 49 y.cells → (W.cell? ⟨w.heap.size, 2, none⟩ = some (.int .u64 (x.t.e : Int)) ∧ W.cell? ⟨w.heap.size, 3, none⟩ = some (.int .u64 (x.t.a : Int)) ∧ W.cell? ⟨w.heap.size, 4, none⟩ = some (.int .u64 (x.t.b : Int)) ∧ W.cell? ⟨w.heap.size + 1, 2, none⟩ = some (.int .u64 (y.t.e : Int)) ∧ W.cell? ⟨w.heap.size + 1, 3, none⟩ = some (.int .u64 (y.t.a : Int)) ∧ W.cell? ⟨w.heap.size + 1, 4, none⟩ = some (.int .u64 (y.t.b : Int))) := fun W k1 k2 => ⟨k1.at_ 2, k1.at_ 3, k1.at_ 4, k2.at_ 2, k2.at_ 3, k2.at_ 4⟩
  have hP0 := HB.out.2.2.2.2.2.1
  have hv0 := HB.out.2.2.2.2.2.2.1
  have y6 : ∀ W, Bl w3 W → Hid (Calls Tryz.prog 90 #[.pointer (some ⟨PB, 0, none⟩), .agg #[.slice none 0 0, .slice AR R.length cR, .int .u64 (s.e : Int), .int .u64 (s.a : Int), .int .u64 (s.b : Int), .int .i64 N], .int .i64 (orI E1 E2)] W fun e w' => e = .returned (.tuple #[]) ∧ ∃ t' v', Prod w' PB t' (if orI E1 E2 = 0 then why else 10) v' (if orI E1 E2 = 0 then M ++ [⟨none, 0, [], AR, cR, R, s, N⟩] else M) ∧ PKeep w w' PB v ∧ Grew w v v' ∧ (w'.cell? ⟨w.heap.size, 2, none⟩ = some (.int .u64 (x.t.e : Int)) ∧ w'.cell? ⟨w.heap.size, 3, none⟩ = some (.int .u64 (x.t.a : Int)) ∧ w'.cell? ⟨w.heap.size, 4, none⟩ = some (.int .u64 (x.t.b : Int)) ∧ w'.cell? ⟨w.heap.size + 1, 2, none⟩ = some (.int .u64 (y.t.e : Int)) ∧ w'.cell? ⟨w.heap.size + 1, 3, none⟩ = some (.int .u64 (y.t.a : Int)) ∧ w'.cell? ⟨w.heap.size + 1, 4, none⟩ = some (.int .u64 (y.t.b : Int)))) := fun W hW =>
    Lib.hid ((produce_any PB t why v M ⟨none, 0, [], AR, cR, R, s, N⟩ (orI E1 E2) W (hP3.quiet hW.below) hw (huin.keep hW.below) huok huaw hn).mono fun e w' ⟨h1, t', v', h2, h3, h4⟩ => ⟨h1, t', v', h2, PKeep.after (belows hb03 hW.below) h3, h4.later (belows hb03 hW.below).size, hsix w' ((h3.block _ (p1.past hW.below p1.inside).inside (by omega) (fun e => by have := hv0 _ e; omega)).trans (p1.past hW.below p1.inside)) ((h3.block _ (p2.past hW.below p2.inside).inside (by omega) (fun e => by have := hv0 _ e; omega)).trans (p2.past hW.below p2.inside))⟩)
  have HS := Lib.hid (fun W (h : Bl w3 W) => hsix W (p1.past h.below p1.inside) (p2.past h.below p2.inside))
  have hself := Bl.refl w3
  clear a0 a1 a2 a3 a4 a5 b0 b1 b2 b3 b4 b5 y1 y2 hcR hmR hRv hlt hP3 huin huok huaw c3 hb03 hsix hP0 hv0
  obtain ⟨_, _, a2, a3, a4, _⟩ := own6 p1
  obtain ⟨_, _, b2, b3, b4, _⟩ := own6 p2
  clear p1 p2
  go_upto_region 3 with fail
  go_region_held3 (fun w' => w'.cell? ⟨w.heap.size, 2, none⟩ = some (.int .u64 (x.t.e : Int)) ∧ w'.cell? ⟨w.heap.size, 3, none⟩ = some (.int .u64 (x.t.a : Int)) ∧ w'.cell? ⟨w.heap.size, 4, none⟩ = some (.int .u64 (x.t.b : Int)) ∧ w'.cell? ⟨w.heap.size + 1, 2, none⟩ = some (.int .u64 (y.t.e : Int)) ∧ w'.cell? ⟨w.heap.size + 1, 3, none⟩ = some (.int .u64 (y.t.a : Int)) ∧ w'.cell? ⟨w.heap.size + 1, 4, none⟩ = some (.int .u64 (y.t.b : Int)))
    ((first | exact hS6 | (refine HS.out _ ?_; repeat (first | with_reducible exact hb4 | with_reducible exact hself | with_reducible refine Bl.more ?_ _ | with_reducible refine Bl.drew ?_))))
    (first
      | (go_at_call 91; refine (y4 _ _ ?_).out.mono ?_; (first | exact times_here (times_two' _ _ (by simp)) (by simp) | exact times_later (times_two' _ _ (by simp)) (by simp)); rintro _ w4 ⟨rfl, k4⟩; have hb4 : Bl w3 w4 := Bl.call (by repeat (first | with_reducible exact hself | with_reducible refine Bl.more ?_ _ | with_reducible refine Bl.drew ?_)) k4; obtain ⟨hcc, hff⟩ := olds k4)
      | (go_at_call 90; refine (y6 _ (by repeat (first | with_reducible exact hb4 | with_reducible exact hself | with_reducible refine Bl.more ?_ _ | with_reducible refine Bl.drew ?_))).out.mono ?_; rintro _ w6 ⟨rfl, t6, v6, hp6, hk6, hg6, hS6⟩; have HF := Lib.hid (And.intro hp6 (And.intro hk6 hg6)); clear hp6 hk6 hg6)
      | (go_at_call 19; refine (y5 _ _ E1 E2 ?_ ?_).out.mono ?_; (first | exact er2_at (by simp) 0 | exact (hcc _ _ (by simp <;> omega)).trans (er2_at (by simp) 0) | exact (hcc _ _ (by simp <;> omega)).trans (er2_drew (by simp) 0) | exact (hcc _ _ (by simp <;> omega)).trans (er2_more (by simp) 0) | exact (hcc _ _ (by simp <;> omega)).trans (er2_mored (by simp) 0)); (first | exact er2_at (by simp) 1 | exact (hcc _ _ (by simp <;> omega)).trans (er2_at (by simp) 1) | exact (hcc _ _ (by simp <;> omega)).trans (er2_drew (by simp) 1) | exact (hcc _ _ (by simp <;> omega)).trans (er2_more (by simp) 1) | exact (hcc _ _ (by simp <;> omega)).trans (er2_mored (by simp) 1)); rintro _ w5 ⟨rfl, rfl⟩))
  all_goals
    go_wp2_with fail
    refine bodyPost_end (results_none rfl _ _ _) rfl ⟨rfl, ⟨none, 0, [], AR, cR, R, s, N⟩, t6, v6, fun hgd => ?_, ?_, HF.out.2.1, HF.out.2.2⟩
    · obtain ⟨k1, k2, k3⟩ := HE.out.1.2 hgd
      refine ⟨?_, ?_⟩
      · unfold joinP Up.p Up.k
        dsimp only
        rw [k1, k2, HE.out.2.2.1]
      · unfold chkU Up.k
        dsimp only
        rw [k2, HE.out.2.2.1]
        exact joinP_right HU.out.2.2.2.2.2.1 HU.out.2.2.2.2.2.2 k3
    · have h6 := HF.out.1
      by_cases hz : orI E1 E2 = 0
      · rw [if_pos (HE.out.1.1.1 hz), if_pos (HE.out.1.1.1 hz)]
        rwa [if_pos hz, if_pos hz] at h6
      · rw [if_neg (fun e => hz (HE.out.1.1.2 e)), if_neg (fun e => hz (HE.out.1.1.2 e))]
        rwa [if_neg hz, if_neg hz] at h6
theorem lies_newsJ {α : Type} {size : Nat} {cells : α → List Value} {w : World} {B : Nat} {ad : Addr} {l : List α} (hpos : 0 < size) (hcl : ∀ x, (cells x).length = size) (h : Lies size cells w B (some ad) l) : ∀ j u, (l.flatMap cells)[j]? = some u → w.cell? (ad.add j) = some u := by
  intro j u hu
  obtain ⟨i, r, y, rfl, hi, hr⟩ := flat_back hpos hcl l j u hu
  have hp : 0 < l.length := by have := (List.getElem?_eq_some_iff.1 hi).1; omega
  obtain ⟨b, o, e, _, hc⟩ := h hp
  obtain rfl : ad = ⟨b, o, none⟩ := by injection e
  have ea : (⟨b, o, none⟩ : Addr).add (i * size + r) = ⟨b, o + i * size + r, none⟩ := by unfold Addr.add; split <;> simp_all <;> omega
  rw [ea]
  exact hc i y hi r u hr
theorem row_sliceJ {w : World} {base n : Nat} {e : TypeId} {v : Value} {l : List Up} (hn : n = l.length) (h : w.ownsRow base e 6 v n (l.flatMap Up.cells)) : ∃ A c, v = .slice A n c := by
  subst hn
  obtain ⟨A, c, e, _⟩ := lies_of_own (size := 6) (cells := Up.cells) (by decide) ucells_len rfl h
  exact ⟨A, c, e⟩
set_option maxRecDepth 100000 in
set_option maxHeartbeats 800000 in
theorem cloneU_any (A : Option Addr) (c : Nat) (l : List Up) (w : World) (hl : Lies 6 Up.cells w w.heap.size A l) (hn : l.length ≤ 1099511627776) :
    Calls Tryz.prog 46 #[.slice A l.length c] w fun e w' => ∃ A' c', e = .returned (.slice A' l.length c') ∧ w'.ownsRow w.heap.size 49 6 (.slice A' l.length c') l.length (l.flatMap Up.cells) ∧ Below w.heap.size w w' := by
  have q26 := fun (w : World) (a : Option Addr) (n c n' c' : Nat) => Lib.run_eql_slice_nil (P := Tryz.prog) w _ _ a n c n' c' Tryz.underlying22
  have hU := Tryz.underlying22
  obtain ⟨i0, hi, hz0, hz1, hz2⟩ := info_parts infoUp
  cases A with
  | none =>
    have h0 : l = [] := by
      cases l with
      | nil => rfl
      | cons x l => obtain ⟨_, _, e, _⟩ := hl (by simp); cases e
    subst h0
    clear hl
    go_enter Tryz.func46, Tryz.ntmps46
    go_wp2_with fail
    go_ret
    exact ⟨none, 0, rfl, World.ownsRow_nil _ _ _ _, Below.refl _ _⟩
  | some ad =>
    have HN := Lib.hid (lies_newsJ (size := 6) (cells := Up.cells) (by decide) (fun _ => rfl) hl)
    have hone : ∀ u ∈ l.flatMap Up.cells, u.oneCell' = true := fun u hu => by obtain ⟨x, _, hx⟩ := List.mem_flatMap.1 hu; exact ucells_one x u hx
    have hlen : (l.flatMap Up.cells).length = l.length * 6 := flat_size (size := 6) (cells := Up.cells) (fun _ => rfl) l
    have HO := Lib.hid (And.intro hone hlen)
    clear hl hone hlen
    go_enter Tryz.func46, Tryz.ntmps46
    go_wp2_with (at_builtin; refine wpList_append_own_at _ rfl _ _ 22 rfl w.heap.size 49 i0 _ 6 80 hU hi hz0 hz1 hz2 rfl (by decide) _ _ _ rfl (World.ownsRow_made w #[] 0 (Nat.le_refl _) (Nat.zero_le _) rfl) ad l.length c (l.flatMap Up.cells) rfl ?c1 ?c2 ?c3 ?c4 ?c5 ?c6 ?_)
    case c1 => exact HO.out.2
    case c2 => exact fun j u hu => (World.cell?_alloc_some _ _ _ (by rw [HN.out j u hu]; rfl)).trans (HN.out j u hu)
    case c3 => exact HO.out.1
    case c4 => unfold maxLen; omega
    case c5 => omega
    case c6 => simp
    intro v' w' ho' hg' _ _
    have hb : Below w.heap.size w w' := ((Below.refl _ _).alloc (Nat.le_refl _) _).grown hg' (by simp) (by simp [Value.ownBlock])
    obtain ⟨A', c', rfl⟩ := row_sliceJ rfl ho'
    have HX := Lib.hid (And.intro ho' hb)
    clear ho' hg' hb
    go_wp2
    go_ret
    exact ⟨A', c', rfl, HX.out.1, HX.out.2⟩
end Go.Proofs.YtjffohpdjicfpaaGreat
namespace Go.Proofs.YtjffohpdjicfpaaGreat
open Go Go.RowKit Go.Sort Go.Lib Go.Shelf
def OffL (g : Nat) (u : Up) : Prop := Awn (fun b => b ≠ g) u
theorem OffL.aw {g : Nat} {u : Up} (h : OffL g u) : Aw g (.slice none 0 0) u := h.imp fun b hb => ⟨hb, by simp [Value.ownBlock]⟩
set_option maxRecDepth 100000 in
set_option maxHeartbeats 3200000 in
theorem sortP_any (g cap : Nat) (l : List Up) (w : World) (hrow : RowOf Up.cells 6 w g l) (hg : g < w.heap.size) (hin : ∀ u ∈ l, UIn w w.heap.size u ∧ UOk u ∧ OffL g u) (hpos : 0 < l.length) (hn : l.length < 4611686018427387904) :
    Calls Tryz.prog 47 #[.slice (some ⟨g, 0, none⟩) l.length cap, .func (.func 34) #[] #[]] w fun e w' => e = .returned (.tuple #[]) ∧ ∃ l' : List Up, l'.Perm l ∧ l'.Pairwise (fun x y => x.k.cmp y.k ≤ 0) ∧ RowOf Up.cells 6 w' g l' ∧ RowKit.Below g w w' ∧ ∀ b, b ≠ g → b < w.heap.size → w'.heap[b]? = w.heap[b]? := by
  obtain ⟨m, rfl⟩ := map_pick (p := fun x : Up => UIn w w.heap.size x ∧ UOk x ∧ OffL g x) l fun x hx => hin x hx
  have eg : ∀ args w, (callFunc 34 args).run Tryz.prog w = .ok (.enter 34 args) w := enters_of Tryz.func34 (by kernel_rfl) rfl
  have hlen : (m.map (·.1)).length = m.length := List.length_map ..
  letI : Inhabited {x : Up // UIn w w.heap.size x ∧ UOk x ∧ OffL g x} := ⟨m[0]'(by rw [hlen] at hpos; exact hpos)⟩
  have hcon := sort_gen (α := {x : Up // UIn w w.heap.size x ∧ UOk x ∧ OffL g x}) Tryz.sortP 6 Tryz.isAgg49 Tryz.sizeOf49 (fun x => Up.cells x.1) (fun _ => rfl) (by decide) (fun x => ucells_one x.1)
    (fun x y => x.1.k.cmp y.1.k) (swo_lin uk_lin fun x : {x : Up // UIn w w.heap.size x ∧ UOk x ∧ OffL g x} => x.1.k) 34 #[] g cap m w eg
    (fun mm os dk _ x y => by
      have hb := sortWorld_below (enc := fun x : {x : Up // UIn w w.heap.size x ∧ UOk x ∧ OffL g x} => Up.cells x.1) (k := 6) (off := 0) (m := mm) (dk := dk) (os := os) (Nat.le_refl g) hg
      have hpk : PKeep w (sortWorldK (fun x : {x : Up // UIn w w.heap.size x ∧ UOk x ∧ OffL g x} => Up.cells x.1) 6 w g 0 mm dk os) g (.slice none 0 0) := ⟨hb.os, hb.tape, hb.output, hb.size, fun k hk h1 _ => sortWorld_other h1 hk⟩
      exact dcompare_gr x.1 y.1 _ (uin_pk x.2.1 x.2.2.2.aw hpk) (uin_pk y.2.1 y.2.2.2.aw hpk) x.2.2.1 y.2.2.1)
    (fun i x hx j v hv => hrow i x.1 (by rw [List.getElem?_map, hx]; rfl) j v hv) hg (by rw [hlen] at hn; exact hn)
  change Calls Tryz.prog 47 _ _ _ at hcon
  rw [hlen]
  refine hcon.mono ?_
  rintro e w' ⟨rfl, l', hp, hs, hr, hb, ho⟩
  refine ⟨rfl, l'.map (·.1), hp.map _, ?_, fun i x hx j v hv => ?_, hb, ho⟩
  · rw [List.pairwise_map]
    exact hs.imp fun {a b} h => by
      have := uk_lin.swap a.1.k b.1.k
      omega
  · rw [List.getElem?_map] at hx
    obtain ⟨y, hy, rfl⟩ := Option.map_eq_some_iff.1 hx
    exact hr i y hy j v hv
theorem sortP_all (v : Value) (n base : Nat) (l : List Up) (w : World) (hnl : n = l.length) (h : w.ownsRow base 49 6 v n (l.flatMap Up.cells)) (hin : ∀ u ∈ l, UIn w w.heap.size u ∧ UOk u ∧ Awn (fun b => v.ownBlock ≠ some b) u) (hn : l.length < 4611686018427387904) :
    ∃ A c, v = .slice A n c ∧ n ≤ c ∧ c ≤ maxLen ∧ Calls Tryz.prog 47 #[.slice A n c, .func (.func 34) #[] #[]] w fun e w' => e = .returned (.tuple #[]) ∧ ∃ l' : List Up, l'.Perm l ∧ l'.Pairwise (fun x y => x.k.cmp y.k ≤ 0) ∧ Lies 6 Up.cells w' w'.heap.size A l' ∧ (∀ b o, A = some ⟨b, o, none⟩ → v.ownBlock = some b) ∧ ∀ PB, PKeep w w' PB v := by
  subst hnl
  by_cases h0 : l.length = 0
  · obtain rfl : l = [] := List.eq_nil_of_length_eq_zero h0
    have key : ∀ A c, (∀ b o, A = some ⟨b, o, none⟩ → v.ownBlock = some b) → Calls Tryz.prog 47 #[.slice A 0 c, .func (.func 34) #[] #[]] w fun e w' => e = .returned (.tuple #[]) ∧ ∃ l' : List Up, l'.Perm [] ∧ l'.Pairwise (fun x y => x.k.cmp y.k ≤ 0) ∧ Lies 6 Up.cells w' w'.heap.size A l' ∧ (∀ b o, A = some ⟨b, o, none⟩ → v.ownBlock = some b) ∧ ∀ PB, PKeep w w' PB v := fun A c hA =>
      (AnyF.slices_SortFunc_none Tryz.sortP A c _ w).mono fun e w' ⟨he, hw⟩ => ⟨he, [], List.Perm.refl _, List.Pairwise.nil, Lies.nil_, hA, fun PB => hw ▸ PKeep.refl⟩
    rcases h.2 with ⟨rfl, _⟩ | ⟨g, cap, cur, rfl, _, _, h1, h2, _⟩
    · exact ⟨_, _, rfl, Nat.le_refl _, Nat.zero_le _, key _ _ fun b o e => by cases e⟩
    · refine ⟨_, _, rfl, h1, h2, key _ _ fun b o e => ?_⟩
      simp only [Option.some.injEq, Addr.mk.injEq, and_true] at e
      obtain ⟨rfl, _⟩ := e
      rfl
  · rcases h.2 with ⟨_, hz⟩ | ⟨g, cap, cur, rfl, hb, hheap, h1, h2, _⟩
    · exact absurd hz h0
    · have hg : g < w.heap.size := (Array.getElem?_eq_some_iff.1 hheap).1
      have hrow : RowOf Up.cells 6 w g l := fun i x hx j u hj => by
        have hf := flat_of (cells := Up.cells) (size := 6) (fun _ => rfl) l i j x u hx hj
        have hlt : i * 6 + j < l.length * 6 := by have := (List.getElem?_eq_some_iff.1 hf).1; rwa [flat_size (cells := Up.cells) (size := 6) (fun _ => rfl)] at this
        exact ⟨by rw [h.cellAt _ hlt]; exact hf, h.frozenAt _⟩
      refine ⟨_, _, rfl, h1, h2, (sortP_any g cap l w hrow hg (fun u hu => ⟨(hin u hu).1, (hin u hu).2.1, (hin u hu).2.2.imp fun b hbo e => hbo (by rw [e]; rfl)⟩) (by omega) hn).mono ?_⟩
      rintro e w' ⟨he, l', hp, hs, hr, hbe, ho⟩
      refine ⟨he, l', hp, hs, fun _ => ⟨g, 0, rfl, Nat.lt_of_lt_of_le hg hbe.size, fun i x hx j u hj => ?_⟩, fun b o e => ?_, fun PB => ⟨hbe.os, hbe.tape, hbe.output, hbe.size, fun k hk _ hne => ho k (fun e => hne (by rw [e]; rfl)) hk⟩⟩
      · rw [Nat.zero_add]
        exact (hr i x hx j u hj).1
      · simp only [Option.some.injEq, Addr.mk.injEq, and_true] at e
        obtain ⟨rfl, _⟩ := e
        rfl
set_option maxRecDepth 100000 in
set_option maxHeartbeats 3200000 in
theorem bykey_gr (a b : Up) (w : World) (ha : UIn w w.heap.size a) (hb : UIn w w.heap.size b) (oa : UOk a) (ob : UOk b) :
    Calls Tryz.prog 48 #[a.val, b.val] w fun e w' => e = .returned (.int .i64 (cmpRows a.key b.key)) ∧ Gr w w' := by
  have y1 := fun W h1 h2 => Lib.hid (rows_gr a.kA b.kA a.kc b.kc a.key b.key W h1 h2 (maxn oa.kn) (maxn ob.kn))
  obtain ⟨W, hW, hg, o1, o2⟩ := two_box w a b
  have HB := Lib.hid (And.intro hg (And.intro (ha.keep hg.below) (hb.keep hg.below)))
  obtain ⟨a0, a1, a2, a3, a4, a5⟩ := own6 o1
  obtain ⟨b0, b1, b2, b3, b4, b5⟩ := own6 o2
  generalize cmpRows a.key b.key = x at *
  unfold Up.val
  clear ha hb oa ob hg o1 o2
  go_enter Tryz.func48, Tryz.ntmps48
  go_upto_region 1 with fail
  rw [← hW]
  clear hW
  go_wp2_with fail
  refine (y1 _ HB.out.2.1.key HB.out.2.2.key).out.mono ?_
  rintro _ w1 ⟨rfl, g1⟩
  have H1 := Lib.hid (HB.out.1.trans g1)
  clear g1
  go_wp2_with fail
  go_ret
  exact ⟨rfl, H1.out⟩
set_option maxRecDepth 100000 in
set_option maxHeartbeats 3200000 in
theorem sortK_any (g cap : Nat) (l : List Up) (w : World) (hrow : RowOf Up.cells 6 w g l) (hg : g < w.heap.size) (hin : ∀ u ∈ l, UIn w w.heap.size u ∧ UOk u ∧ OffL g u) (hpos : 0 < l.length) (hn : l.length < 4611686018427387904) :
    Calls Tryz.prog 47 #[.slice (some ⟨g, 0, none⟩) l.length cap, .func (.func 48) #[] #[]] w fun e w' => e = .returned (.tuple #[]) ∧ ∃ l' : List Up, l'.Perm l ∧ l'.Pairwise (fun x y => cmpRows x.key y.key ≤ 0) ∧ RowOf Up.cells 6 w' g l' ∧ RowKit.Below g w w' ∧ ∀ b, b ≠ g → b < w.heap.size → w'.heap[b]? = w.heap[b]? := by
  obtain ⟨m, rfl⟩ := map_pick (p := fun x : Up => UIn w w.heap.size x ∧ UOk x ∧ OffL g x) l fun x hx => hin x hx
  have eg : ∀ args w, (callFunc 48 args).run Tryz.prog w = .ok (.enter 48 args) w := enters_of Tryz.func48 (by kernel_rfl) rfl
  have hlen : (m.map (·.1)).length = m.length := List.length_map ..
  letI : Inhabited {x : Up // UIn w w.heap.size x ∧ UOk x ∧ OffL g x} := ⟨m[0]'(by rw [hlen] at hpos; exact hpos)⟩
  have hcon := sort_gen (α := {x : Up // UIn w w.heap.size x ∧ UOk x ∧ OffL g x}) Tryz.sortP 6 Tryz.isAgg49 Tryz.sizeOf49 (fun x => Up.cells x.1) (fun _ => rfl) (by decide) (fun x => ucells_one x.1)
    (fun x y => cmpRows x.1.key y.1.key) (swo_lin row_lin fun x : {x : Up // UIn w w.heap.size x ∧ UOk x ∧ OffL g x} => x.1.key) 48 #[] g cap m w eg
    (fun mm os dk _ x y => by
      have hb := sortWorld_below (enc := fun x : {x : Up // UIn w w.heap.size x ∧ UOk x ∧ OffL g x} => Up.cells x.1) (k := 6) (off := 0) (m := mm) (dk := dk) (os := os) (Nat.le_refl g) hg
      have hpk : PKeep w (sortWorldK (fun x : {x : Up // UIn w w.heap.size x ∧ UOk x ∧ OffL g x} => Up.cells x.1) 6 w g 0 mm dk os) g (.slice none 0 0) := ⟨hb.os, hb.tape, hb.output, hb.size, fun k hk h1 _ => sortWorld_other h1 hk⟩
      exact bykey_gr x.1 y.1 _ (uin_pk x.2.1 x.2.2.2.aw hpk) (uin_pk y.2.1 y.2.2.2.aw hpk) x.2.2.1 y.2.2.1)
    (fun i x hx j v hv => hrow i x.1 (by rw [List.getElem?_map, hx]; rfl) j v hv) hg (by rw [hlen] at hn; exact hn)
  change Calls Tryz.prog 47 _ _ _ at hcon
  rw [hlen]
  refine hcon.mono ?_
  rintro e w' ⟨rfl, l', hp, hs, hr, hb, ho⟩
  refine ⟨rfl, l'.map (·.1), hp.map _, ?_, fun i x hx j v hv => ?_, hb, ho⟩
  · rw [List.pairwise_map]
    exact hs.imp fun {a b} h => by
      have := row_lin.swap a.1.key b.1.key
      omega
  · rw [List.getElem?_map] at hx
    obtain ⟨y, hy, rfl⟩ := Option.map_eq_some_iff.1 hx
    exact hr i y hy j v hv
theorem sortK_all (v : Value) (n base : Nat) (l : List Up) (w : World) (hnl : n = l.length) (h : w.ownsRow base 49 6 v n (l.flatMap Up.cells)) (hin : ∀ u ∈ l, UIn w w.heap.size u ∧ UOk u ∧ Awn (fun b => v.ownBlock ≠ some b) u) (hn : l.length < 4611686018427387904) :
    ∃ A c, v = .slice A n c ∧ n ≤ c ∧ c ≤ maxLen ∧ Calls Tryz.prog 47 #[.slice A n c, .func (.func 48) #[] #[]] w fun e w' => e = .returned (.tuple #[]) ∧ ∃ l' : List Up, l'.Perm l ∧ l'.Pairwise (fun x y => cmpRows x.key y.key ≤ 0) ∧ Lies 6 Up.cells w' w'.heap.size A l' ∧ (∀ b o, A = some ⟨b, o, none⟩ → v.ownBlock = some b) ∧ ∀ PB, PKeep w w' PB v := by
  subst hnl
  by_cases h0 : l.length = 0
  · obtain rfl : l = [] := List.eq_nil_of_length_eq_zero h0
    have key : ∀ A c, (∀ b o, A = some ⟨b, o, none⟩ → v.ownBlock = some b) → Calls Tryz.prog 47 #[.slice A 0 c, .func (.func 48) #[] #[]] w fun e w' => e = .returned (.tuple #[]) ∧ ∃ l' : List Up, l'.Perm [] ∧ l'.Pairwise (fun x y => cmpRows x.key y.key ≤ 0) ∧ Lies 6 Up.cells w' w'.heap.size A l' ∧ (∀ b o, A = some ⟨b, o, none⟩ → v.ownBlock = some b) ∧ ∀ PB, PKeep w w' PB v := fun A c hA =>
      (AnyF.slices_SortFunc_none Tryz.sortP A c _ w).mono fun e w' ⟨he, hw⟩ => ⟨he, [], List.Perm.refl _, List.Pairwise.nil, Lies.nil_, hA, fun PB => hw ▸ PKeep.refl⟩
    rcases h.2 with ⟨rfl, _⟩ | ⟨g, cap, cur, rfl, _, _, h1, h2, _⟩
    · exact ⟨_, _, rfl, Nat.le_refl _, Nat.zero_le _, key _ _ fun b o e => by cases e⟩
    · refine ⟨_, _, rfl, h1, h2, key _ _ fun b o e => ?_⟩
      simp only [Option.some.injEq, Addr.mk.injEq, and_true] at e
      obtain ⟨rfl, _⟩ := e
      rfl
  · rcases h.2 with ⟨_, hz⟩ | ⟨g, cap, cur, rfl, hb, hheap, h1, h2, _⟩
    · exact absurd hz h0
    · have hg : g < w.heap.size := (Array.getElem?_eq_some_iff.1 hheap).1
      have hrow : RowOf Up.cells 6 w g l := fun i x hx j u hj => by
        have hf := flat_of (cells := Up.cells) (size := 6) (fun _ => rfl) l i j x u hx hj
        have hlt : i * 6 + j < l.length * 6 := by have := (List.getElem?_eq_some_iff.1 hf).1; rwa [flat_size (cells := Up.cells) (size := 6) (fun _ => rfl)] at this
        exact ⟨by rw [h.cellAt _ hlt]; exact hf, h.frozenAt _⟩
      refine ⟨_, _, rfl, h1, h2, (sortK_any g cap l w hrow hg (fun u hu => ⟨(hin u hu).1, (hin u hu).2.1, (hin u hu).2.2.imp fun b hbo e => hbo (by rw [e]; rfl)⟩) (by omega) hn).mono ?_⟩
      rintro e w' ⟨he, l', hp, hs, hr, hbe, ho⟩
      refine ⟨he, l', hp, hs, fun _ => ⟨g, 0, rfl, Nat.lt_of_lt_of_le hg hbe.size, fun i x hx j u hj => ?_⟩, fun b o e => ?_, fun PB => ⟨hbe.os, hbe.tape, hbe.output, hbe.size, fun k hk _ hne => ho k (fun e => hne (by rw [e]; rfl)) hk⟩⟩
      · rw [Nat.zero_add]
        exact (hr i x hx j u hj).1
      · simp only [Option.some.injEq, Addr.mk.injEq, and_true] at e
        obtain ⟨rfl, _⟩ := e
        rfl
end Go.Proofs.YtjffohpdjicfpaaGreat
namespace Go.Proofs.YtjffohpdjicfpaaGreat
open Go Go.RowKit
set_option maxRecDepth 100000 in
set_option maxHeartbeats 3200000 in
theorem match1_any (P Q : Nat) (A : Option Addr) (c : Nat) (l : List Up) (x : Up) (k : Nat) (u : Up) (w : World) (hb : Own w P 22 [.slice A l.length c]) (hq : Own w Q 49 x.cells) (hl : Ups w w.heap.size A l) (hx : UIn w w.heap.size x) (ox : UOk x) (ou : UOk u) (hu : l[k]? = some u) :
    Calls Tryz.prog 50 #[.int .i64 (k : Int), .pointer (some ⟨P, 0, none⟩), .pointer (some ⟨Q, 0, none⟩)] w fun e w' => e = .returned (.bool (decide (0 ≤ cmpRows u.key x.key))) ∧ Below w.heap.size w w' := by
  have hlt : k < l.length := (List.getElem?_eq_some_iff.1 hu).1
  have hui := hl.each_ u (List.mem_of_getElem? hu)
  obtain ⟨b', o, hA, hB, hxs⟩ := lies_up hl.head (by omega)
  have hP := fun p : Past w => (hb.past p.h hb.inside).at_ 0
  simp only [List.getElem?_cons_zero] at hP
  rw [hA] at hP
  have hE := fun p : Past w => ((hxs k u hu).past_ p.h hB).six
  have hF := fun p : Past w => own6 (hq.past p.h hq.inside)
  have e0 := fun p : Past w => (hE p).1
  have e1 := fun p : Past w => (hE p).2.1
  have e2 := fun p : Past w => (hE p).2.2.1
  have e3 := fun p : Past w => (hE p).2.2.2.1
  have e4 := fun p : Past w => (hE p).2.2.2.2.1
  have e5 := fun p : Past w => (hE p).2.2.2.2.2
  have f0 := fun p : Past w => (hF p).1
  have f1 := fun p : Past w => (hF p).2.1
  have f2 := fun p : Past w => (hF p).2.2.1
  have f3 := fun p : Past w => (hF p).2.2.2.1
  have f4 := fun p : Past w => (hF p).2.2.2.2.1
  have f5 := fun p : Past w => (hF p).2.2.2.2.2
  have u1 := fun p : Past w => calls_past ((bykey_gr u x p.w (hui.keep p.h) (hx.keep p.h) ou ox).mono fun x w' h => ⟨h.1, h.2.below⟩)
  unfold Up.val at u1
  have q0 : (0 : Int) ≤ (k : Int) := by omega
  have q1 : (k : Int) < (l.length : Int) := by omega
  obtain ⟨z, hz⟩ : ∃ z, cmpRows u.key x.key = z := ⟨_, rfl⟩
  rw [hz] at u1 ⊢
  obtain ⟨B, hB'⟩ : ∃ B, decide (0 ≤ z) = B := ⟨_, rfl⟩
  rw [hB']
  clear hb hq hl hx ox ou hu hui hxs hE hF hz hA hB hlt
  go_enter Tryz.func50, Tryz.ntmps50
  go_upto_region 1 with fail
  refine wp_region_past w (by kernel_rfl) (by kernel_rfl) (Below.refl _ _) ?_
  repeat (first | go_big_quiet_step (fail) | quiet_step (fail))
  quiet_step ((go_at_call 48; exact u1 _))
  repeat (first | go_big_quiet_step (fail) | quiet_step (fail))
  clear u1
  refine wpQuiet_nil ?_
  intro wz hw'
  obtain ⟨⟨wy, hbz⟩, hw''⟩ := hw'
  dsimp only at hw''
  subst hw''
  go_wp2_with fail
  go_ret
  exact ⟨rfl, hbz⟩
def SeeksJ (P Q : Nat) (l : List Up) (key : List Vl) (w : World) : Prop :=
  ∀ (k : Nat) (u : Up) (W : World), l[k]? = some u → Below w.heap.size w W → Calls Tryz.prog 50 #[.int .i64 (k : Int), .pointer (some ⟨P, 0, none⟩), .pointer (some ⟨Q, 0, none⟩)] W fun e w' => e = .returned (.bool (decide (0 ≤ cmpRows u.key key))) ∧ Below W.heap.size W w'
set_option maxRecDepth 100000 in
set_option maxHeartbeats 3200000 in
theorem searchJ_any (P Q : Nat) (l : List Up) (key : List Vl) (w : World) (hl : KeysUp l) (hn : l.length ≤ 1099511627776) (hs : SeeksJ P Q l key w) :
    Calls Tryz.prog 49 #[.int .i64 (l.length : Int), .func (.func 50) #[] #[.pointer (some ⟨P, 0, none⟩), .pointer (some ⟨Q, 0, none⟩)]] w fun x w' => x = .returned (.int .i64 (seekB l key : Int)) ∧ Below w.heap.size w w' := by
  have HS := Lib.hid hs
  have HK := Lib.hid hl
  clear hs hl
  go_enter Tryz.func49, Tryz.ntmps49
  go_wp2_with fail
  go_loopw [5, 6] (fun v5 v6 wr => ∃ i j : Nat, v5 = .int .i64 (i : Int) ∧ v6 = .int .i64 (j : Int) ∧ i ≤ seekB l key ∧ seekB l key ≤ j ∧ j ≤ l.length ∧ Below w.heap.size w wr) (fun v5 v6 _ => (intOf v6).toNat - (intOf v5).toNat)
  case atStart => exact ⟨0, l.length, rfl, rfl, Nat.zero_le _, seek_len l key, Nat.le_refl _, Below.refl _ _⟩
  case round =>
    obtain ⟨i, j, rfl, rfl, h1, h2, h3, hb⟩ := hrel
    by_cases hlt : i < j
    · have t0 : decide ((i : Int) < (j : Int)) = true := decide_eq_true (by omega)
      have t0' : decide (i < j) = true := decide_eq_true hlt
      obtain ⟨m, hm⟩ : ∃ m, m = (i + j) / 2 := ⟨_, rfl⟩
      have hmI : ((i : Int) + (j : Int)) / 2 = (m : Int) := by omega
      have him : i ≤ m := by omega
      have hmj : m < j := by omega
      have hml : m < l.length := by omega
      have hx : l[m]? = some l[m] := List.getElem?_eq_getElem hml
      have hlo := fun h => seek_lt l key m l[m] h hx
      have hhi := fun h => seek_ge (k := key) HK.out h hx
      have y1 := Lib.hid (HS.out m _ wr hx hb)
      generalize l[m] = u at *
      obtain ⟨B, hB⟩ : ∃ B, decide (0 ≤ cmpRows u.key key) = B := ⟨_, rfl⟩
      rw [hB] at y1
      cases B with
      | true =>
        have h4 : seekB l key ≤ m := by
          apply Decidable.byContradiction
          intro h
          have := hlo (by omega)
          have := of_decide_eq_true hB
          omega
        have HH := Lib.hid (And.intro hb (And.intro h1 (And.intro h4 hml)))
        clear hb h1 h2 hx hlo hhi hB h4 hm
        go_wp2_with fail
        refine y1.out.mono ?_
        rintro _ w2 ⟨rfl, b2⟩
        have H2 := Lib.hid (HH.out.1.trans (b2.mono HH.out.1.size))
        clear b2
        go_wp2_with fail
        go_roundw
        case rel => exact ⟨i, m, rfl, by first | rfl | go_num, HH.out.2.1, HH.out.2.2.1, by omega, H2.out⟩
        case measure => simp [intOf]; omega
      | false =>
        have h4 : m + 1 ≤ seekB l key := by
          apply Decidable.byContradiction
          intro h
          have h5 := hhi (by omega)
          have := of_decide_eq_false hB
          omega
        have HH := Lib.hid (And.intro hb (And.intro h2 (And.intro h4 hml)))
        clear hb h1 h2 hx hlo hhi hB h4 hm
        go_wp2_with fail
        refine y1.out.mono ?_
        rintro _ w2 ⟨rfl, b2⟩
        have H2 := Lib.hid (HH.out.1.trans (b2.mono HH.out.1.size))
        clear b2
        go_wp2_with fail
        go_roundw
        case rel => exact ⟨m + 1, j, by go_num, rfl, HH.out.2.2.1, HH.out.2.1, h3, H2.out⟩
        case measure => simp [intOf]; omega
    · have t0 : decide ((i : Int) < (j : Int)) = false := decide_eq_false (by omega)
      have t0' : decide (i < j) = false := decide_eq_false hlt
      have HH := Lib.hid (And.intro hb (show i = seekB l key by omega))
      clear hb h1 h2
      go_wp2_with fail
      go_ret
      exact ⟨by rw [HH.out.2]; rfl, HH.out.1⟩
theorem seeksJ_of {P Q : Nat} {A : Option Addr} {c : Nat} {l : List Up} {x : Up} {w : World} (hb : Own w P 22 [.slice A l.length c]) (hq : Own w Q 49 x.cells) (hl : Ups w w.heap.size A l) (hx : UIn w w.heap.size x) (ox : UOk x) (ol : ∀ u ∈ l, UOk u) : SeeksJ P Q l x.key w := fun k u W hu hW =>
  match1_any P Q A c l x k u W (hb.past hW hb.inside) (hq.past hW hq.inside) (hl.keep hW) (hx.keep hW) ox (ol u (List.mem_of_getElem? hu)) hu
end Go.Proofs.YtjffohpdjicfpaaGreat
