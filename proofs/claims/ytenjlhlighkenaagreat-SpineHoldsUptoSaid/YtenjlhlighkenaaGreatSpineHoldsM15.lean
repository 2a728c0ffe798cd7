/- Part 15 of the texts on which SpineHolds rests: facts and contracts. -/
import Derived.Test.YtenjlhlighkenaaGreatSpineHoldsM14
import Derived.Deep.RegionHeld3
namespace Go.Proofs.YtenjlhlighkenaaGreat
open Go Go.RowKit Go.ChangeShapes Go.WideShapes Go.ChangeAt Go.Deep

set_option maxRecDepth 100000
section
variable {H : Type} {enc : TypeId × Value → H} {w : World} {base : Nat} {spare : Nat → Bool} {held : Bool}
structure LvSh (l : Lv) : Prop where
  b : ∀ u ∈ l.b.l, u.key.length ≤ 1099511627776 ∧ u.row.length ≤ 1099511627776
  m : ∀ u, u ∈ l.m.a ∨ u ∈ l.m.b ∨ u ∈ l.m.o → u.key.length ≤ 1099511627776 ∧ u.row.length ≤ 1099511627776
  le : l.b.l.length ≤ l.b.uc
  uc : l.b.uc ≤ maxLen
  ole : l.m.o.length ≤ l.m.oc
  oc : l.m.oc ≤ maxLen
def LvIs (w : World) (l : Lv) (b : Nat) : Prop := LvIn w w.heap.size l ∧ (b ≤ 1048576 → LvOk l ∧ LvSh l) ∧ wtL l ≤ b
end
end Go.Proofs.YtenjlhlighkenaaGreat
namespace Go.Proofs.YtenjlhlighkenaaGreat
open Go Go.RowKit Go.ChangeShapes Go.WideShapes Go.ChangeAt Go.Deep

structure Stp where
  u : Rw Up
  fuel : Int
  since : Nat
instance : Inhabited Stp := ⟨⟨⟨none, 0, []⟩, 0, 0⟩⟩
def Stp.cells (y : Stp) : List Value := [.slice y.u.A y.u.l.length y.u.c, .int .i64 y.fuel, .int .u64 (y.since : Int)]
structure StpOk (w : World) (y : Stp) : Prop where
  le : y.u.l.length ≤ y.u.c
  cm : y.u.c ≤ maxLen
  ups : Ups w w.heap.size y.u.A y.u.l
  f1 : -9223372036854775808 ≤ y.fuel
  f2 : y.fuel ≤ 9223372036854775807
  s1 : y.since < 18446744073709551616
set_option maxRecDepth 100000
section
variable {H : Type} {enc : TypeId × Value → H} {w : World} {base : Nat} {spare : Nat → Bool} {held : Bool}
theorem trod_step {fuel : Nat} {cs : List Value} {x : DataW H × List MemPlace} (h : DataW.trod enc Tryz.prog w base spare held fuel 34 cs = some x) : ∃ y : Stp, cs = y.cells ∧ StpOk w y ∧ (Rows.uptoBulk x.1 ≤ 1048576 → ∀ u ∈ y.u.l, UOk u) ∧ y.u.l.length ≤ Rows.uptoBulk x.1 := by
  obtain ⟨xs, n, _, hx, hlen, hxs, hf⟩ := DataW.trod_struct Tryz.underlying34 h
  have hc : Tryz.prog.cellsOf 34 = 3 := by kernel_rfl
  have hc0 : Tryz.prog.cellsOf 32 = 1 := by kernel_rfl
  have hc1 : Tryz.prog.cellsOf 3 = 1 := by kernel_rfl
  have hc2 : Tryz.prog.cellsOf 23 = 1 := by kernel_rfl
  rw [hc] at hlen
  match cs, hlen with
  | [c0, c1, c2], _ =>
    have h0 := hf 0 _ rfl
    have h1 := hf 1 _ rfl
    have h2 := hf 2 _ rfl
    match xs, hxs with
    | [y0, y1, y2], _ =>
      simp only [hc0, hc1, hc2, List.drop_zero, List.take_succ_cons, List.take_zero, List.drop_succ_cons, List.getElem?_cons_zero, List.getElem?_cons_succ] at h0 h1 h2
      obtain ⟨⟨A0, k0, l0⟩, e0, g0, m0, i0, o0, n0⟩ := open_upsC h0
      obtain ⟨n1, e1, x1, w1⟩ := DataW.trod_int Tryz.underlying3 h1
      obtain ⟨n2, e2, x2, w2⟩ := DataW.trod_int Tryz.underlying23 h2
      obtain rfl := (List.cons.inj e0).1
      obtain rfl := (List.cons.inj e1).1
      obtain rfl := (List.cons.inj e2).1
      have hM : Rows.uptoBulk y0.1 ≤ Rows.uptoBulk x.1 := by
        rw [hx]
        simp only [List.map_cons, List.map_nil, Rows.uptoBulk, Rows.uptoBulkAll]
        omega
      have n0 : l0.length + 1 ≤ Rows.uptoBulk y0.1 := n0
      obtain ⟨q1, q2⟩ := wf_u64 w2
      obtain ⟨m, rfl⟩ := Int.eq_ofNat_of_zero_le q1
      exact ⟨⟨⟨A0, k0, l0⟩, n1, m⟩, rfl, ⟨g0, m0, i0, (wf_i64 w1).1, (wf_i64 w1).2, by show m < _; omega⟩, fun hb => o0 (by omega), by show l0.length ≤ _; omega⟩
def stpU (L : List Stp) : List Up := L.flatMap fun y => y.u.l
theorem open_steps {v : Value} {d : DataW H} {p : List MemPlace} {r : Reach} {b0 : Nat} (hv : Value.okWide Tryz.prog w r b0 22 v) (h : DataW.Trod enc Tryz.prog w base spare held 22 v d p) :
    ∃ (A : Option Addr) (c : Nat) (L : List Stp), v = .slice A L.length c ∧ Lies 3 Stp.cells w w.heap.size A L ∧ (∀ y ∈ L, StpOk w y) ∧ (Rows.uptoBulk d ≤ 1048576 → ∀ y ∈ L, ∀ u ∈ y.u.l, UOk u) ∧ (stpU L).length ≤ Rows.uptoBulk d ∧ L.length ≤ Rows.uptoBulk d := by
  obtain ⟨a0, n0, c0, rfl⟩ := okWide_slice Tryz.underlying22 hv
  obtain ⟨fuel, hf⟩ := h
  simp only [Value.cells] at hf
  obtain ⟨A, c, l, bs, e, h1, h2, h3, h4, h5, h6, h7⟩ := open_list_bulk (size := 3) (cells := Stp.cells) (OK := fun y b => StpOk w y ∧ (b ≤ 1048576 → ∀ u ∈ y.u.l, UOk u) ∧ y.u.l.length ≤ b) Tryz.underlying22 (by kernel_rfl) (fun _ => by simp [Stp.cells]) (fun {n cs x} _ ht => trod_step ht) hf
  change bs.sum + 1 ≤ Rows.uptoBulk d at h5
  have hlen := len_le_sum h6
  have hsum := sum_pair (g := fun y : Stp => y.u.l.length) l bs h4 fun i y hi => by
    obtain ⟨b, hb, hs⟩ := h7 i y hi
    exact ⟨b, hb, hs.2.2⟩
  refine ⟨A, c, l, by simpa using e, h3, fun y hy => ?_, fun hb y hy => ?_, ?_, by omega⟩
  · obtain ⟨i, hi⟩ := List.getElem?_of_mem hy
    exact (h7 i y hi).elim fun _ h => h.2.1
  · obtain ⟨i, hi⟩ := List.getElem?_of_mem hy
    obtain ⟨b, hb1, hb2⟩ := h7 i y hi
    have := mem_le_sum (List.mem_of_getElem? hb1)
    exact hb2.2.1 (by omega)
  · unfold stpU
    rw [List.length_flatMap]
    omega
end
end Go.Proofs.YtenjlhlighkenaaGreat
namespace Go.Proofs.YtenjlhlighkenaaGreat
open Go Go.RowKit

structure HoldR (w : World) (P R0 k : Nat) (L : List Stp) (s : Sp) (B : Option Addr) (bc : Nat) (put : List Up) (X : World) : Prop where
  box : BoxS P s X
  row : X.ownsRow R0 57 6 (.slice B put.length bc) put.length (put.flatMap Up.cells)
  st : HoldSt s put
  len : put.length ≤ (stpU (L.take k)).length
  each : ∀ u ∈ put, UIn w w.heap.size u ∧ UOk u
  far : Below w.heap.size w X
theorem stp_box (w : World) (y : Stp) : ∃ V, V = w.alloc (.cells #[.slice y.u.A y.u.l.length y.u.c, .int .i64 y.fuel, .int .u64 (y.since : Int)] 34) ∧ Below w.heap.size w V ∧ Own V w.heap.size 34 y.cells :=
  ⟨_, rfl, (Below.refl _ _).alloc (Nat.le_refl _) _, Own.made w _ _⟩
theorem tm_boxH (w : World) (t : Tm) : ∃ V, V = w.alloc (.cells #[.int .u64 (t.e : Int), .int .u64 (t.a : Int), .int .u64 (t.b : Int)] 26) ∧ Below w.heap.size w V ∧ Own V w.heap.size 26 t.cells :=
  ⟨_, rfl, (Below.refl _ _).alloc (Nat.le_refl _) _, Own.made w _ _⟩
theorem sp_off {w X : World} {S : Nat → Prop} {B : Nat} {s : Sp} (h : SpIn w w.heap.size s) (lo : SpLo B s) (hS : ∀ b, S b → b < B) (k : KeptK w X S) : SpIn X X.heap.size s :=
  ⟨times_kept h.since (lo.f.of hS) k, ⟨lies_kept h.lev.head (fun _ b o e hs => by have := lo.l b o e; have := hS b hs; omega) k, fun l hl => lv_kept (h.lev.each_ l hl) ((lo.each_ l hl).of hS) k⟩⟩
theorem stp_take {L : List Stp} {k : Nat} {y : Stp} (h : L[k]? = some y) : stpU (L.take (k + 1)) = stpU (L.take k) ++ y.u.l := by
  unfold stpU
  rw [List.take_add_one, h, List.flatMap_append]
  simp
section
variable {w wr V X : World} {P R0 k Z : Nat} {L : List Stp} {s a : Sp} {B B' : Option Addr} {bc bc' : Nat} {put : List Up} {y : Stp}
theorem HoldR.past (h : HoldR w P R0 k L s B bc put wr) (hb : Below wr.heap.size wr X) (hy : L[k]? = some y) : HoldR w P R0 (k + 1) L s B bc put X :=
  ⟨h.box.keep hb, own_below h.row hb, h.st, by rw [stp_take hy, List.length_append]; have := h.len; omega, h.each, h.far.trans (hb.mono h.far.size)⟩
theorem HoldR.keep (h : HoldR w P R0 k L s B bc put wr) (hb : Below wr.heap.size wr X) : HoldR w P R0 k L s B bc put X :=
  ⟨h.box.keep hb, own_below h.row hb, h.st, h.len, h.each, h.far.trans (hb.mono h.far.size)⟩
theorem HoldR.rowlt (h : HoldR w P R0 k L s B bc put wr) : ∀ b, blkS B = some b → R0 ≤ b ∧ b < wr.heap.size := fun b e => h.row.lt b (by rw [blkS_own]; exact e)
theorem HoldR.ins (h : HoldR w P R0 k L s B bc put wr) (hP : w.heap.size ≤ P) (hR : w.heap.size ≤ R0) (hb : Below wr.heap.size wr V) (ia : SpIn V V.heap.size a) (oa : SpOk a) (loa : SpLo Z a) (hZ : wr.heap.size ≤ Z) (kk : KeptK V X (fun b => b = P ∨ blkS B = some b)) (own : Own X P 31 a.cells)
    {Y : List Up} (row : X.ownsRow R0 57 6 (.slice B' (put ++ Y).length bc') (put ++ Y).length ((put ++ Y).flatMap Up.cells)) (st : HoldSt a (put ++ Y)) (hY : ∀ u ∈ Y, UIn w w.heap.size u ∧ UOk u) (k' : Nat) (hlen : (put ++ Y).length ≤ (stpU (L.take k')).length) : HoldR w P R0 k' L a B' bc' (put ++ Y) X := by
  have hin := h.box.own.inside
  have hS : ∀ b, (b = P ∨ blkS B = some b) → b < Z := fun b e => by
    rcases e with rfl | e
    · omega
    · have := (h.rowlt b e).2; omega
  have hw : w.heap.size ≤ V.heap.size := Nat.le_trans h.far.size hb.size
  refine ⟨⟨own, sp_off ia loa hS kk, oa, loa.mono (by omega)⟩, row, st, hlen, fun u hu => ?_, (h.far.trans (hb.mono h.far.size)).trans (kk.below (fun b e => ?_) hw)⟩
  · rcases List.mem_append.1 hu with hu | hu
    · exact h.each u hu
    · exact hY u hu
  · rcases e with rfl | e
    · exact hP
    · have := (h.rowlt b e).1; omega
theorem HoldR.spine (h : HoldR w P R0 k L s B bc put wr) (hP : w.heap.size ≤ P) (hb : Below wr.heap.size wr V) (ia : SpIn V V.heap.size a) (oa : SpOk a) (loa : SpLo Z a) (hZ : wr.heap.size ≤ Z) (kk : KeptK V X (fun b => b = P)) (own : Own X P 31 a.cells) (hPR : P < R0) (st : HoldSt a put) : HoldR w P R0 k L a B bc put X := by
  have hin := h.box.own.inside
  have hw : w.heap.size ≤ V.heap.size := Nat.le_trans h.far.size hb.size
  exact ⟨⟨own, sp_off ia loa (fun b e => by omega) kk, oa, loa.mono (by omega)⟩, kk.row (own_below h.row hb) (fun b e e2 => by rw [blkS_own] at e; have := (h.rowlt b e).1; omega), st, h.len, h.each, (h.far.trans (hb.mono h.far.size)).trans (kk.below (fun b e => by omega) hw)⟩
theorem HoldR.put_ (h : HoldR w P R0 k L s B bc put wr) (hP : w.heap.size ≤ P) (hPR : P < R0) (hb : Below wr.heap.size wr V) (ia : SpIn V V.heap.size a) (oa : SpOk a) (loa : SpLo wr.heap.size a) (st : HoldSt a put) : HoldR w P R0 k L a B bc put ((V.setCell ⟨P, 0, none⟩ (.slice a.sA a.f.length a.sc)).setCell ⟨P, 1, none⟩ (.slice a.lA a.L.length a.lc)) :=
  h.spine hP hb ia oa loa (Nat.le_refl _) (((KeptK.refl V (fun b => b = P)).set_ (o := 0) (.inl rfl) _).set_ (o := 1) (.inl rfl) _) (((h.box.keep hb).own.set_ 0 _).set_ 1 _) hPR st
theorem own_put (V : World) (P : Nat) (u v : Value) {g : Nat} {ty : TypeId} {l : List Value} (h : Own V g ty l) (hg : g ≠ P) : Own ((V.setCell ⟨P, 0, none⟩ u).setCell ⟨P, 1, none⟩ v) g ty l :=
  (((KeptK.refl V (fun b => b = P)).set_ (o := 0) (.inl rfl) u).set_ (o := 1) (.inl rfl) v).own h hg
theorem HoldR.lit (_ : HoldR w P R0 k L s B bc put wr) (n : Nat) : ∃ V, V = wr.alloc (.cells #[.int .u64 (n : Int), .int .u64 0, .int .u64 0] 26) ∧ Below wr.heap.size wr V ∧ Times V V.heap.size (some ⟨wr.heap.size, 0, none⟩) [⟨n, 0, 0⟩] :=
  ⟨_, rfl, (Below.refl _ _).alloc (Nat.le_refl _) _, times_made wr ⟨n, 0, 0⟩⟩
theorem HoldR.small (h : HoldR w P R0 k L s B bc put wr) (hn : (stpU L).length ≤ 1048576) : wtS s.L ≤ 1048576 ∧ put.length ≤ 1048576 := by
  have h3 : (stpU (L.take k)).length ≤ (stpU L).length := by
    have : stpU L = stpU (L.take k) ++ stpU (L.drop k) := by unfold stpU; rw [← List.flatMap_append, List.take_append_drop]
    rw [this, List.length_append]; omega
  have h1 := h.len
  have h2 := h.st.wt
  exact ⟨by omega, by omega⟩
end
theorem HoldR.ups {w wr : World} {P R0 k : Nat} {L : List Stp} {s : Sp} {B : Option Addr} {bc : Nat} {put : List Up} (h : HoldR w P R0 k L s B bc put wr) : Ups wr wr.heap.size B put := ⟨by
  obtain ⟨A', c', hv, _, _, hl⟩ := lies_of_own (size := 6) (cells := Up.cells) (by decide) (fun _ => rfl) rfl h.row
  injection hv with h1 h2 h3
  rw [h1]; exact hl, fun u hu => (((h.each u hu).1).past h.far (Nat.le_refl _)).wide h.far.size⟩
theorem hold_all {s : Sp} {put : List Up} {b : Bt} {e : Int} (h : HoldSt s put) (ha : (¬ SpGood s.f s.L ∧ e = 8 ∧ b = Bt.nil) ∨ (SpGood s.f s.L ∧ e = bldE s.f (partsS s.L) ∧ (e = 0 → b.l.map Up.p = consL [advL s.f (partsS s.L)]) ∧ (e ≠ 0 → b = Bt.nil))) : e = 10 ∨ e = 0 ∧ consE [advL s.f (partsS s.L)] = 0 ∧ b.l.map Up.p = consL [advL s.f (partsS s.L)] := by
  rcases ha with ⟨h1, _⟩ | ⟨_, h2, h3, _⟩
  · exact absurd h.good h1
  · have e1 : bldE s.f (partsS s.L) = consE [advL s.f (partsS s.L)] := if_pos h.good.front
    have c0 : chkLs [advL s.f (partsS s.L)] = 0 := chkLs_all.2 fun l hl => by
      obtain rfl := List.mem_singleton.1 hl
      rw [chkUs_adv h.good.front.right]; exact h.good.chk
    have e2 : consE [advL s.f (partsS s.L)] = 0 ∨ consE [advL s.f (partsS s.L)] = 10 := by
      unfold consE
      rw [if_pos c0]
      unfold resE
      split
      · exact .inl rfl
      · exact .inr rfl
    rcases e2 with e2 | e2
    · exact .inr ⟨by rw [h2, e1, e2], e2, h3 (by rw [h2, e1, e2])⟩
    · exact .inl (by rw [h2, e1, e2])
set_option maxRecDepth 100000 in
set_option maxHeartbeats 12800000 in
theorem holds_walk (A : Option Addr) (c : Nat) (L : List Stp) (t : Tm) (w : World) (hl : Lies 3 Stp.cells w w.heap.size A L) (hst : ∀ y ∈ L, StpOk w y) (hok : ∀ y ∈ L, ∀ u ∈ y.u.l, UOk u) (hn : (stpU L).length ≤ 1048576) (hLn : L.length ≤ 1048576) :
    Calls Tryz.prog 3 #[.slice A L.length c, t.val] w fun e w' => e = .returned (.bool true) ∧ Below w.heap.size w w' := by
  obtain ⟨V, hV, hvb, hvo⟩ := tm_boxH w t
  have y0 := Lib.hid (slives_true V)
  have H := Lib.hid (And.intro hl (And.intro hst (And.intro hok (And.intro hn (And.intro hvb hvo)))))
  rw [show t.val = .agg #[.int .u64 (t.e : Int), .int .u64 (t.a : Int), .int .u64 (t.b : Int)] from rfl]
  clear hl hst hok hn hvb hvo
  go_enter Tryz.func3, Tryz.ntmps3
  go_upto_region 1 with fail
  rw [← hV]
  clear hV
  go_wp2_with fail
  refine y0.out.mono ?_
  rintro _ w1 ⟨rfl, b1⟩
  obtain ⟨V2, hV2, bb2, hs2, ho2⟩ := spbox w1 Sp.nil
  have HA := Lib.hid (show HoldR w w1.heap.size (w1.heap.size + 1) 0 L Sp.nil none 0 [] V2 ∧ Own V2 w.heap.size 26 t.cells ∧ w.heap.size < w1.heap.size from
    ⟨⟨⟨ho2, sp_nil_in _ _, sp_nil_ok, sp_nil_lo _⟩, World.ownsRow_nil _ _ _ _, hold_nil, Nat.zero_le _, fun u hu => (by cases hu), (H.out.2.2.2.2.1.trans (b1.mono H.out.2.2.2.2.1.size)).trans (bb2.mono (Nat.le_trans H.out.2.2.2.2.1.size b1.size))⟩, (H.out.2.2.2.2.2.past b1 H.out.2.2.2.2.2.inside).past bb2 (Nat.lt_of_lt_of_le H.out.2.2.2.2.2.inside b1.size), Nat.lt_of_lt_of_le H.out.2.2.2.2.2.inside b1.size⟩)
  clear b1 y0 bb2 hs2 ho2
  dsimp only [Sp.nil, List.length_nil] at hV2
  go_upto_region 4 with fail
  rw [← hV2]
  clear hV2
  go_wp2_with fail
  go_loopw [6, 30] (fun v6 v30 wr => ∃ (k : Nat) (s : Sp) (B : Option Addr) (bc : Nat) (put : List Up), v30 = .int .i64 (k : Int) ∧ v6 = .slice B put.length bc ∧ k ≤ L.length ∧ k ≤ 30 ∧ HoldR w w1.heap.size (w1.heap.size + 1) k L s B bc put wr ∧ Own wr w.heap.size 26 t.cells)
    (fun _ i _ => L.length - (intOf i).toNat)
  case atStart => exact ⟨0, Sp.nil, none, 0, [], rfl, rfl, Nat.zero_le _, by omega, HA.out.1, HA.out.2.1⟩
  case round =>
    obtain ⟨k, s, B, bc, put, rfl, rfl, hkL, hk30, hr, hT⟩ := hrel
    by_cases hlt : k < L.length
    · by_cases h30 : k = 30
      · subst h30
        obtain ⟨y, hy⟩ : ∃ y, L[30]? = some y := ⟨_, List.getElem?_eq_getElem hlt⟩
        obtain ⟨bb, o, hA, hB, hc⟩ := H.out.1 (by omega)
        have c0 : wr.cell? ⟨bb, o + 30 * 3, none⟩ = some (.slice y.u.A y.u.l.length y.u.c) := (hr.far.cell (p := ⟨bb, o + 30 * 3 + 0, none⟩) hB).trans (hc 30 y hy 0 _ rfl)
        have c1 : wr.cell? ⟨bb, o + 30 * 3 + 1, none⟩ = some (.int .i64 y.fuel) := (hr.far.cell (p := ⟨bb, o + 30 * 3 + 1, none⟩) hB).trans (hc 30 y hy 1 _ rfl)
        have c2 : wr.cell? ⟨bb, o + 30 * 3 + 2, none⟩ = some (.int .u64 (y.since : Int)) := (hr.far.cell (p := ⟨bb, o + 30 * 3 + 2, none⟩) hB).trans (hc 30 y hy 2 _ rfl)
        obtain ⟨V5, hV5, hb5, ho5⟩ := stp_box wr y
        have HT := Lib.hid (And.intro (hr.keep hb5) (hT.past hb5 hT.inside))
        have q0 : (0 : Int) ≤ ((30 : Nat) : Int) := by omega
        have q1 : ((30 : Nat) : Int) < (L.length : Int) := by omega
        rw [hA]
        clear hr hT hB hc ho5 hb5 hA
        go_upto_region 8 with fail
        rw [← hV5]
        clear hV5 c0 c1 c2
        have y1 := Lib.hid (all_any s V5 HT.out.1.box.in_ HT.out.1.box.ok (by have h1 := parts_wt s.L; have := (HT.out.1.small H.out.2.2.2.1).1; omega))
        rw [show s.val = .agg #[.slice s.sA s.f.length s.sc, .slice s.lA s.L.length s.lc] from rfl] at y1
        obtain ⟨d0, d1⟩ := own2 HT.out.1.box.own
        go_wp2_with fail
        refine y1.out.mono ?_
        rintro _ w2 ⟨b, e, rfl, hres, bi, bo, blo, b2⟩
        have hcs := hold_all HT.out.1.st hres
        have HT2 := Lib.hid (And.intro (HT.out.1.keep b2) (And.intro (HT.out.2.past b2 HT.out.2.inside) (And.intro bi.ups bo)))
        clear hres bi bo blo b2 y1
        rcases hcs with rfl | ⟨rfl, hc0, hbl⟩
        · go_wp2_with fail
          go_ret
          exact ⟨rfl, HT2.out.1.far⟩
        · have HCS := Lib.hid (And.intro hc0 hbl)
          clear hc0 hbl
          obtain ⟨d0, d1⟩ := own2 HT2.out.1.box.own
          obtain ⟨z0, z1, z2⟩ := own3 HT2.out.2.1
          by_cases hf : s.f.length = 0
          · have HPP := Lib.hid (show Past_ s.f t from .inl (List.eq_nil_of_length_eq_zero hf))
            have HT3 := HT2
            have q3 : (s.f.length : Int) = 0 := by omega
            have q4 : ¬ (0 : Int) < (s.f.length : Int) := by omega
            have y4 := Lib.hid (there_at b.uA b.uc b.l t w2 HT3.out.2.2.1 HT3.out.2.2.2.l.ok HT3.out.2.2.2.l.n)
            obtain ⟨z0, z1, z2⟩ := own3 HT3.out.2.1
            go_wp2_with fail
            refine y4.out.mono ?_
            rintro _ w4 ⟨A4, c4, l4, rfl, hl4, ht4, ho4, hn4, b4⟩
            have HT4 := Lib.hid (And.intro (HT3.out.1.keep b4) (HT3.out.2.1.past b4 HT3.out.2.1.inside))
            have H4 := Lib.hid (And.intro hl4 (And.intro ht4 (And.intro ho4 hn4)))
            clear hl4 ht4 ho4 hn4 b4 y4
            have y5 := Lib.hid (there_at B bc put t w4 HT4.out.1.ups (fun u hu => (HT4.out.1.each u hu).2) (by have := (HT4.out.1.small H.out.2.2.2.1).2; omega))
            obtain ⟨z0, z1, z2⟩ := own3 HT4.out.2
            go_wp2_with fail
            refine y5.out.mono ?_
            rintro _ w5 ⟨A5, c5, l5, rfl, hl5, ht5, ho5, hn5, b5⟩
            have heq := hold_at HT4.out.1.st HCS.out.1 HCS.out.2 HPP.out
            have y6 := Lib.hid (same_yes A4 A5 c4 c5 l4 l5 w5 (H4.out.2.1.keep b5) ht5 H4.out.2.2.1 ho5 H4.out.2.2.2 hn5 (by rw [H4.out.1, hl5, heq.1]))
            have HT5 := Lib.hid (HT4.out.1.keep b5)
            rw [heq.2]
            clear hl5 ht5 ho5 hn5 b5 y5 heq
            generalize atE put t = EE
            go_wp2_with fail
            refine y6.out.mono ?_
            rintro _ w6 ⟨rfl, b6⟩
            have HT6 := Lib.hid (belows HT5.out.far b6)
            clear b6 y6
            go_wp2_with fail
            go_ret
            exact ⟨rfl, HT6.out⟩
          · have q4 : (0 : Int) < (s.f.length : Int) := by omega
            have y3 := Lib.hid (beyond_any s.sA s.sc s.f t w2 HT2.out.1.box.in_.since (by have := HT2.out.1.box.ok.f.n; unfold maxLen; omega))
            go_wp2_with fail
            refine y3.out.mono ?_
            rintro _ w3 ⟨rfl, b3⟩
            have HT3 := Lib.hid (And.intro (HT2.out.1.keep b3) (And.intro (HT2.out.2.1.past b3 HT2.out.2.1.inside) (And.intro (HT2.out.2.2.1.keep b3) HT2.out.2.2.2)))
            clear b3 y3
            cases hbb : beyond s.f t
            · go_wp2_with fail
              go_ret
              exact ⟨rfl, HT3.out.1.far⟩
            · have HPP := Lib.hid (show Past_ s.f t from .inr hbb)
              have y4 := Lib.hid (there_at b.uA b.uc b.l t w3 HT3.out.2.2.1 HT3.out.2.2.2.l.ok HT3.out.2.2.2.l.n)
              obtain ⟨z0, z1, z2⟩ := own3 HT3.out.2.1
              go_wp2_with fail
              refine y4.out.mono ?_
              rintro _ w4 ⟨A4, c4, l4, rfl, hl4, ht4, ho4, hn4, b4⟩
              have HT4 := Lib.hid (And.intro (HT3.out.1.keep b4) (HT3.out.2.1.past b4 HT3.out.2.1.inside))
              have H4 := Lib.hid (And.intro hl4 (And.intro ht4 (And.intro ho4 hn4)))
              clear hl4 ht4 ho4 hn4 b4 y4
              have y5 := Lib.hid (there_at B bc put t w4 HT4.out.1.ups (fun u hu => (HT4.out.1.each u hu).2) (by have := (HT4.out.1.small H.out.2.2.2.1).2; omega))
              obtain ⟨z0, z1, z2⟩ := own3 HT4.out.2
              go_wp2_with fail
              refine y5.out.mono ?_
              rintro _ w5 ⟨A5, c5, l5, rfl, hl5, ht5, ho5, hn5, b5⟩
              have heq := hold_at HT4.out.1.st HCS.out.1 HCS.out.2 HPP.out
              have y6 := Lib.hid (same_yes A4 A5 c4 c5 l4 l5 w5 (H4.out.2.1.keep b5) ht5 H4.out.2.2.1 ho5 H4.out.2.2.2 hn5 (by rw [H4.out.1, hl5, heq.1]))
              have HT5 := Lib.hid (HT4.out.1.keep b5)
              rw [heq.2]
              clear hl5 ht5 ho5 hn5 b5 y5 heq
              generalize atE put t = EE
              go_wp2_with fail
              refine y6.out.mono ?_
              rintro _ w6 ⟨rfl, b6⟩
              have HT6 := Lib.hid (belows HT5.out.far b6)
              clear b6 y6
              go_wp2_with fail
              go_ret
              exact ⟨rfl, HT6.out⟩
      · obtain ⟨y, hy⟩ : ∃ y, L[k]? = some y := ⟨_, List.getElem?_eq_getElem hlt⟩
        have hym := List.mem_of_getElem? hy
        obtain ⟨bb, o, hA, hB, hc⟩ := H.out.1 (by omega)
        have c0 : wr.cell? ⟨bb, o + k * 3, none⟩ = some (.slice y.u.A y.u.l.length y.u.c) := (hr.far.cell (p := ⟨bb, o + k * 3 + 0, none⟩) hB).trans (hc k y hy 0 _ rfl)
        have c1 : wr.cell? ⟨bb, o + k * 3 + 1, none⟩ = some (.int .i64 y.fuel) := (hr.far.cell (p := ⟨bb, o + k * 3 + 1, none⟩) hB).trans (hc k y hy 1 _ rfl)
        have c2 : wr.cell? ⟨bb, o + k * 3 + 2, none⟩ = some (.int .u64 (y.since : Int)) := (hr.far.cell (p := ⟨bb, o + k * 3 + 2, none⟩) hB).trans (hc k y hy 2 _ rfl)
        have sy := H.out.2.1 y hym
        have oy := H.out.2.2.1 y hym
        obtain ⟨V5, hV5, hb5, ho5⟩ := stp_box wr y
        have h5far : Below w.heap.size w V5 := hr.far.trans (hb5.mono hr.far.size)
        have hu5 : Ups V5 V5.heap.size y.u.A y.u.l := (sy.ups.past h5far (Nat.le_refl _)).wide h5far.size
        obtain ⟨V6, hV6, hb6, hul⟩ := one_list V5 y.u.A y.u.c y.u.l hu5
        have h56 := belows hb5 hb6
        have hbx := hr.box.keep h56
        have y1 := Lib.hid (insert_sp s (some ⟨V5.heap.size, 0, none⟩) 1 [⟨y.u.A, y.u.c, y.u.l⟩] V6 hbx.in_ hbx.ok hul (fun r hr2 u hu => by
          obtain rfl := List.mem_singleton.1 hr2
          exact oy u hu) (by
          have h1 := hr.st.wt
          have h2 := hr.len
          have h3 : (stpU (L.take k)).length ≤ (stpU L).length := by
            have : stpU L = stpU (L.take k) ++ stpU (L.drop k) := by unfold stpU; rw [← List.flatMap_append, List.take_append_drop]
            rw [this, List.length_append]; omega
          have h4 : y.u.l.length ≤ (stpU L).length := by
            unfold stpU
            rw [List.length_flatMap]
            exact mem_le_sum (List.mem_map_of_mem hym)
          have h5 := H.out.2.2.2.1
          simp [flatR]
          omega) (by simp))
        obtain ⟨d0, d1⟩ := own2 (hr.box.keep hb5).own
        obtain ⟨e0, e1, e2⟩ := own3 ho5
        have HR := Lib.hid (And.intro hr (And.intro hT (And.intro hy (And.intro hb5 (And.intro ho5 (And.intro h56 (And.intro sy (And.intro oy hb6))))))))
        have q0 : (0 : Int) ≤ (k : Int) := by omega
        have q1 : (k : Int) < (L.length : Int) := by omega
        have t30 : ((k : Int) == 30) = false := beq_eq_false_iff_ne.2 (by omega)
        have hP5 := (hr.box.keep hb5).own.inside
        rw [hA]
        rw [show s.val = .agg #[.slice s.sA s.f.length s.sc, .slice s.lA s.L.length s.lc] from rfl] at y1
        clear hr hT hym hB hc sy oy hb5 ho5 h5far hu5 hb6 hul h56 hbx hA
        go_upto_region 8 with fail
        rw [← hV5]
        clear hV5 c0 c1 c2
        go_wp2_with fail
        rw [← hV6]
        clear hV6
        refine y1.out.mono ?_
        rintro _ w7 ⟨a, E, rfl, hres, ia, oa, loa, b7⟩
        obtain ⟨V7, hV7, hb7, hs7, ho7⟩ := spbox w7 a
        have hb07 := belows HR.out.2.2.2.2.2.1 (belows b7 hb7)
        have oX7 := HR.out.2.2.2.2.1.past (belows HR.out.2.2.2.2.2.2.2.2 (belows b7 hb7)) HR.out.2.2.2.2.1.inside
        have oT7 := HR.out.2.1.past hb07 HR.out.2.1.inside
        have oP7 := (HR.out.1.box.keep hb07).own
        have H7 := Lib.hid (And.intro hres (And.intro (ia.keep hb7) (And.intro oa (And.intro loa (And.intro hb07 (And.intro ho7 (And.intro oX7 (And.intro oT7 HR.out.2.2.2.2.2.1.size))))))))
        have hPw : w1.heap.size < wr.heap.size := HR.out.1.box.own.inside
        have hXw : wr.heap.size < w7.heap.size := Nat.lt_of_lt_of_le HR.out.2.2.2.2.1.inside (Nat.le_trans HR.out.2.2.2.2.2.2.2.2.size b7.size)
        have HX := Lib.hid (And.intro hPw hXw)
        obtain ⟨a0, a1⟩ := own2 ho7
        obtain ⟨e0, e1, e2⟩ := own3 oX7
        obtain ⟨d0, d1⟩ := own2 oP7
        rw [show a.val = .agg #[.slice a.sA a.f.length a.sc, .slice a.lA a.L.length a.lc] from rfl]
        clear hres ia oa loa b7 hb7 hs7 ho7 hb07 y1 hP5 hPw hXw
        go_upto_region 10 with fail
        rw [← hV7]
        clear hV7
        go_upto_if 46 with fail
        go_cut [6] (fun s6 wx => ∃ (s2 : Sp) (B2 : Option Addr) (bc2 : Nat) (put2 : List Up), s6 = .slice B2 put2.length bc2 ∧ HoldR w w1.heap.size (w1.heap.size + 1) (k + 1) L s2 B2 bc2 put2 wx ∧ Own wx w.heap.size 26 t.cells ∧ Own wx wr.heap.size 34 y.cells)
        case first =>
          by_cases hE : E = 0
          · subst hE
            have hst2 := hold_ins HR.out.1.st H7.out.1 rfl
            have hfy : flatR [(⟨y.u.A, y.u.c, y.u.l⟩ : Rw Up)] = y.u.l := by simp [flatR]
            rw [hfy] at hst2
            have HS2 := Lib.hid hst2
            clear hst2 hfy
            go_upto_region 11 with fail
            have hlen1 : put.length + y.u.l.length ≤ (stpU (L.take (k + 1))).length := by
              rw [stp_take HR.out.2.2.1, List.length_append]; have := HR.out.1.len; omega
            have hlen2 : put.length + y.u.l.length ≤ 1048576 := by
              have h3 : (stpU (L.take (k + 1))).length ≤ (stpU L).length := by
                have : stpU L = stpU (L.take (k + 1)) ++ stpU (L.drop (k + 1)) := by unfold stpU; rw [← List.flatMap_append, List.take_append_drop]
                rw [this, List.length_append]; omega
              have h5 := H.out.2.2.2.1
              omega
            have far7 : Below w.heap.size w V7 := HR.out.1.far.trans (H7.out.2.2.2.2.1.mono HR.out.1.far.size)
            have hly : Lies 6 Up.cells V7.drew w.heap.size y.u.A y.u.l := (HR.out.2.2.2.2.2.2.1.ups.past far7 (Nat.le_refl _)).head
            have hrow : V7.drew.ownsRow (w1.heap.size + 1) 57 6 (.slice B put.length bc) put.length (put.flatMap Up.cells) := own_below HR.out.1.row H7.out.2.2.2.2.1.drew
            have hbs : w1.heap.size + 1 ≤ V7.drew.heap.size := by have h1 := HX.out.1; have h2 := H7.out.2.2.2.2.1.size; show _ ≤ V7.heap.size; omega
            obtain ⟨i0, hi0, hz0, hz1, hz2⟩ := info_parts infoUp
            have HI := Lib.hid (And.intro Tryz.underlying32 (And.intro hi0 (And.intro hz0 (And.intro hz1 hz2))))
            have HL := Lib.hid (And.intro hlen1 (And.intro hlen2 (And.intro hly (And.intro hrow hbs))))
            clear hlen1 hlen2 far7 hly hrow hbs hi0 hz0 hz1 hz2
            have HFN := Lib.hid (show ∀ (w6 : World) (B' : Option Addr) (bc' : Nat), w6.ownsRow (w1.heap.size + 1) 57 6 (.slice B' (put.length + y.u.l.length) bc') (put.length + y.u.l.length) (put.flatMap Up.cells ++ y.u.l.flatMap Up.cells) → V7.drew.grownBy w6 (blkS B) → (blkS B' = blkS B ∨ blkS B' = some V7.drew.heap.size) →
                HoldR w w1.heap.size (w1.heap.size + 1) (k + 1) L a B' bc' (put ++ y.u.l) ((w6.setCell ⟨w1.heap.size, 0, none⟩ (.slice a.sA a.f.length a.sc)).setCell ⟨w1.heap.size, 1, none⟩ (.slice a.lA a.L.length a.lc)) ∧ Own ((w6.setCell ⟨w1.heap.size, 0, none⟩ (.slice a.sA a.f.length a.sc)).setCell ⟨w1.heap.size, 1, none⟩ (.slice a.lA a.L.length a.lc)) w.heap.size 26 t.cells ∧ Own ((w6.setCell ⟨w1.heap.size, 0, none⟩ (.slice a.sA a.f.length a.sc)).setCell ⟨w1.heap.size, 1, none⟩ (.slice a.lA a.L.length a.lc)) wr.heap.size 34 y.cells from by
              intro w6 B' bc' hr6 hg6 hob6
              have hHA := HA.out.2.2
              have hX1 := HX.out.1
              have hX2 := HX.out.2
              have hrl := HR.out.1.rowlt
              have k6 : KeptK V7.drew w6 (fun b => b = w1.heap.size ∨ blkS B = some b) := KeptK.of_grown hg6 (fun _ e => .inr e)
              have kk := (k6.set_ (o := 0) (.inl (.inl rfl)) (.slice a.sA a.f.length a.sc)).set_ (o := 1) (.inl (.inl rfl)) (.slice a.lA a.L.length a.lc)
              have o6 : Own w6 w1.heap.size 31 s.cells := (KeptK.of_grown (S := fun b => blkS B = some b) hg6 (fun _ e => e)).own (HR.out.1.box.keep H7.out.2.2.2.2.1).own (fun e => by have := (hrl _ e).1; omega)
              have oo := (o6.set_ 0 (.slice a.sA a.f.length a.sc)).set_ 1 (.slice a.lA a.L.length a.lc)
              have hne : ∀ b, blkS B' = some b → w1.heap.size < b := fun b e => by
                rcases hob6 with h1 | h1
                · rw [h1] at e; have := (hrl b e).1; omega
                · rw [h1] at e
                  injection e with e
                  have h2 := H7.out.2.2.2.2.1.size
                  have h3 : V7.drew.heap.size = V7.heap.size := rfl
                  omega
              have row6 : w6.ownsRow (w1.heap.size + 1) 57 6 (.slice B' (put ++ y.u.l).length bc') (put ++ y.u.l).length ((put ++ y.u.l).flatMap Up.cells) := by
                rw [List.length_append, List.flatMap_append]; exact hr6
              have kz := ((KeptK.refl w6 (fun b => b = w1.heap.size)).set_ (o := 0) (.inl rfl) (.slice a.sA a.f.length a.sc)).set_ (o := 1) (.inl rfl) (.slice a.lA a.L.length a.lc)
              have rowX := kz.row row6 (fun b e e2 => by rw [blkS_own] at e; have := hne b e; omega)
              refine ⟨HR.out.1.ins (Nat.le_of_lt hHA) (by omega) (V := V7.drew) H7.out.2.2.2.2.1.drew (H7.out.2.1.keep (Below.drew (Below.refl _ _))) H7.out.2.2.1 H7.out.2.2.2.1 H7.out.2.2.2.2.2.2.2.2 kk oo rowX HS2.out (fun u hu => ?_) (k + 1) (by rw [List.length_append]; exact HL.out.1), kk.own H7.out.2.2.2.2.2.2.2.1 (fun e => ?_), kk.own H7.out.2.2.2.2.2.2.1 (fun e => ?_)⟩
              · exact ⟨HR.out.2.2.2.2.2.2.1.ups.each_ u hu, HR.out.2.2.2.2.2.2.2.1 u hu⟩
              · rcases e with e | e
                · omega
                · have := (hrl _ e).1; omega
              · rcases e with e | e
                · omega
                · have := (hrl _ e).2; omega)
            refine wp_region_held_drew (S := fun w' => Own w' w7.heap.size 31 a.cells ∧ Own w' wr.heap.size 34 y.cells) (by kernel_rfl) ⟨H7.out.2.2.2.2.2.1, H7.out.2.2.2.2.2.2.1⟩ (fun hS => ?_)
            refine wpAnyH_take (i := 0) (v := .agg #[.slice a.sA a.f.length a.sc, .slice a.lA a.L.length a.lc]) rfl (by kernel_rfl) (by kernel_rfl) (by kernel_rfl) (fun _ _ _ h => h) (Or.inl ⟨by rfl, fun w hSw => ?_⟩) hS ?_
            · obtain ⟨y0, y1⟩ := hSw
              obtain ⟨n0, n1⟩ := own2 y0
              go_simp
            simp only [Act.put, List.setIfInBounds_toArray, List.set_cons_zero, List.set_cons_succ]
            refine wpAnyH_take (i := 1) (v := .slice B put.length bc) rfl (by kernel_rfl) (by kernel_rfl) (by kernel_rfl) (fun _ _ _ h => h) (Or.inl ⟨by rfl, fun w hSw => ?_⟩) hS ?_
            · go_simp
            simp only [Act.put, List.setIfInBounds_toArray, List.set_cons_zero, List.set_cons_succ]
            refine wpAnyH_take (i := 2) (v := .pointer (some ⟨wr.heap.size, 0, none⟩)) rfl (by kernel_rfl) (by kernel_rfl) (by kernel_rfl) (fun _ _ _ h => h) (Or.inl ⟨by rfl, fun w hSw => ?_⟩) hS ?_
            · obtain ⟨y0, y1⟩ := hSw
              obtain ⟨n0, n1, n2⟩ := own3 y1
              go_simp
            simp only [Act.put, List.setIfInBounds_toArray, List.set_cons_zero, List.set_cons_succ]
            refine wpAnyH_take (i := 3) (v := .slice y.u.A y.u.l.length y.u.c) rfl (by kernel_rfl) (by kernel_rfl) (by kernel_rfl) (fun _ _ _ h => h) (Or.inl ⟨by rfl, fun w hSw => ?_⟩) hS ?_
            · obtain ⟨y0, y1⟩ := hSw
              obtain ⟨n0, n1, n2⟩ := own3 y1
              go_simp
            simp only [Act.put, List.setIfInBounds_toArray, List.set_cons_zero, List.set_cons_succ]
            refine wpAnyH_ready (rs := [4]) (by kernel_rfl) (by simp) ?_
            refine AllReadyH.cons rfl (fun K hK => ?_) AllReadyH.nil
            refine step_append_anyS (size := 6) (cells := Up.cells) (l := y.u.l) (A := y.u.A) (B := w.heap.size) V7.drew rfl (.tmp 48) (.tmp 50) 32 57 rfl i0 _ 80 HI.out.1 HI.out.2.1 HI.out.2.2.1 HI.out.2.2.2.1 HI.out.2.2.2.2 rfl (by decide) (fun _ => rfl) ucells_one (w1.heap.size + 1) (.slice B put.length bc) put.length (put.flatMap Up.cells) rfl HL.out.2.2.2.1 y.u.c rfl HL.out.2.2.1 (by have := HL.out.2.1; unfold maxLen; omega) (by have := HL.out.2.1; omega) HL.out.2.2.2.2 ?_
            intro v' w6 hr6 hb6 hob6 hg6
            obtain ⟨B', bc', rfl⟩ := slice_of_row hr6
            rw [blkS_own, blkS_own] at hob6
            rw [blkS_own] at hg6
            have HFIN := Lib.hid (HFN.out w6 B' bc' hr6 hg6 hob6)
            have k6 : KeptK V7.drew w6 (fun q => blkS B = some q) := KeptK.of_grown hg6 (fun _ e => e)
            have hrl := HR.out.1.rowlt
            have hX1 := HX.out.1
            have hX2 := HX.out.2
            have hS6 : Own w6 w7.heap.size 31 a.cells ∧ Own w6 wr.heap.size 34 y.cells := ⟨k6.own hS.1 (fun e => by have := (hrl _ e).2; omega), k6.own hS.2 (fun e => by have := (hrl _ e).2; omega)⟩
            have o6 : Own w6 w1.heap.size 31 s.cells := k6.own (HR.out.1.box.keep H7.out.2.2.2.2.1).own (fun e => by have := (hrl _ e).1; omega)
            have z0 : w6.cell? ⟨w1.heap.size, 0, none⟩ = some (.slice s.sA s.f.length s.sc) := o6.at_ 0
            have z1 : w6.cell? ⟨w1.heap.size, 1, none⟩ = some (.slice s.lA s.L.length s.lc) := o6.at_ 1
            have g0 : w6.frozen? ⟨w1.heap.size, 0, none⟩ = false := o6.open_ 0
            have g1 : w6.frozen? ⟨w1.heap.size, 1, none⟩ = false := o6.open_ 1
            have HS7 := Lib.hid (show Own ((w6.setCell ⟨w1.heap.size, 0, none⟩ (.slice a.sA a.f.length a.sc)).setCell ⟨w1.heap.size, 1, none⟩ (.slice a.lA a.L.length a.lc)) w7.heap.size 31 a.cells ∧ Own ((w6.setCell ⟨w1.heap.size, 0, none⟩ (.slice a.sA a.f.length a.sc)).setCell ⟨w1.heap.size, 1, none⟩ (.slice a.lA a.L.length a.lc)) wr.heap.size 34 y.cells from by
              have kz := ((KeptK.refl w6 (fun b => b = w1.heap.size)).set_ (o := 0) (.inl rfl) (.slice a.sA a.f.length a.sc)).set_ (o := 1) (.inl rfl) (.slice a.lA a.L.length a.lc)
              exact ⟨kz.own hS6.1 (by omega), kz.own hS6.2 (by omega)⟩)
            clear hr6 hb6 hob6 hg6 k6 o6 hX1 hX2 hrl
            refine hK.out _ _ hS6 (fun _ => ?_)
            clear hK K
            try simp only [Act.put, List.setIfInBounds_toArray, List.set_cons_zero, List.set_cons_succ]
            refine wpAnyH_ready (rs := [5]) (by kernel_rfl) (by simp) ?_
            refine AllReadyH.cons rfl (fun K hK => ?_) AllReadyH.nil
            go_simp
            refine hK.out _ _ HS7.out (fun _ => ?_)
            clear hK K
            try simp only [Act.put, List.setIfInBounds_toArray, List.set_cons_zero, List.set_cons_succ]
            refine wpAnyH_ready (rs := [6]) (by kernel_rfl) (by simp) ?_
            refine AllReadyH.cons rfl (fun K hK => ?_) AllReadyH.nil
            go_simp
            refine hK.out _ _ HS7.out (fun _ => ?_)
            clear hK K
            try simp only [Act.put, List.setIfInBounds_toArray, List.set_cons_zero, List.set_cons_succ]
            refine wpAnyH_done (by kernel_rfl) ?_ _
            go_wp2_with fail
            go_meet
            exact ⟨a, B', bc', put ++ y.u.l, by rw [List.length_append], HFIN.out.1, HFIN.out.2.1, HFIN.out.2.2⟩
          · have t2 : (E == 0) = false := beq_eq_false_iff_ne.2 hE
            have HZ := Lib.hid (HR.out.1.past H7.out.2.2.2.2.1 HR.out.2.2.1)
            go_wp2_with fail
            go_meet
            exact ⟨s, B, bc, put, rfl, HZ.out, H7.out.2.2.2.2.2.2.2.1, H7.out.2.2.2.2.2.2.1⟩
        case rest =>
          obtain ⟨s2, B2, bc2, put2, rfl, hr2, hT2, hX2⟩ := hcut
          obtain ⟨d0, d1⟩ := own2 hr2.box.own
          obtain ⟨e0, e1, e2⟩ := own3 hX2
          have y2 := Lib.hid (work_sp s2 y.fuel _ hr2.box.in_ hr2.box.ok (by have := (hr2.small H.out.2.2.2.1).1; omega) HR.out.2.2.2.2.2.2.1.f1 HR.out.2.2.2.2.2.2.1.f2)
          rw [show s2.val = .agg #[.slice s2.sA s2.f.length s2.sc, .slice s2.lA s2.L.length s2.lc] from rfl] at y2
          have H2 := Lib.hid (And.intro hr2 (And.intro hT2 (And.intro hX2 (And.intro HR.out.2.2.1 (And.intro HR.out.2.2.2.2.2.2.1 HR.out.2.2.2.2.2.2.2.1)))))
          clear hr2 hT2 hX2 HR H7 oX7 oT7 oP7
          go_wp2_with fail
          refine y2.out.mono ?_
          rintro _ w8 ⟨s8, c8, E8, rfl, hres, i8, o8, lo8, b8⟩
          obtain ⟨V8, hV8, hb8, hs8, ho8⟩ := spbox w8 s8
          have H8 := Lib.hid (And.intro hres (And.intro (i8.keep hb8) (And.intro o8 (And.intro lo8 (And.intro (belows b8 hb8) (And.intro ho8 b8.size))))))
          have hPb := H2.out.1.box.own.inside
          have hXb := H2.out.2.2.1.inside
          have oP8 := (H2.out.1.box.keep H8.out.2.2.2.2.1).own
          obtain ⟨a0, a1⟩ := own2 ho8
          obtain ⟨d0, d1⟩ := own2 oP8
          rw [show s8.val = .agg #[.slice s8.sA s8.f.length s8.sc, .slice s8.lA s8.L.length s8.lc] from rfl]
          clear hres i8 o8 lo8 b8 hb8 hs8 ho8 y2
          go_upto_region 13 with fail
          rw [← hV8]
          clear hV8
          go_upto_if 61 with fail
          go_cut [] (fun wx => ∃ s3 : Sp, HoldR w w1.heap.size (w1.heap.size + 1) (k + 1) L s3 B2 bc2 put2 wx ∧ Own wx w.heap.size 26 t.cells ∧ Own wx wr.heap.size 34 y.cells)
          case first =>
            by_cases hE : E8 = 0
            · subst hE
              have HZ := Lib.hid (show HoldR w w1.heap.size (w1.heap.size + 1) (k + 1) L s8 B2 bc2 put2 ((V8.setCell ⟨w1.heap.size, 0, none⟩ (.slice s8.sA s8.f.length s8.sc)).setCell ⟨w1.heap.size, 1, none⟩ (.slice s8.lA s8.L.length s8.lc)) ∧ Own ((V8.setCell ⟨w1.heap.size, 0, none⟩ (.slice s8.sA s8.f.length s8.sc)).setCell ⟨w1.heap.size, 1, none⟩ (.slice s8.lA s8.L.length s8.lc)) w.heap.size 26 t.cells ∧ Own ((V8.setCell ⟨w1.heap.size, 0, none⟩ (.slice s8.sA s8.f.length s8.sc)).setCell ⟨w1.heap.size, 1, none⟩ (.slice s8.lA s8.L.length s8.lc)) wr.heap.size 34 y.cells from by
                have h1 := HA.out.2.2
                have h2 := HX.out.1
                exact ⟨H2.out.1.put_ (Nat.le_of_lt h1) (Nat.lt_succ_self _) H8.out.2.2.2.2.1 H8.out.2.1 H8.out.2.2.1 H8.out.2.2.2.1 (hold_work H2.out.1.st H8.out.1 rfl), own_put _ _ _ _ (H2.out.2.1.past H8.out.2.2.2.2.1 H2.out.2.1.inside) (by omega), own_put _ _ _ _ (H2.out.2.2.1.past H8.out.2.2.2.2.1 H2.out.2.2.1.inside) (by omega)⟩)
              have g0 : V8.frozen? ⟨w1.heap.size, 0, none⟩ = false := oP8.open_ 0
              have g1 : V8.frozen? ⟨w1.heap.size, 1, none⟩ = false := oP8.open_ 1
              go_wp2_with fail
              go_meet
              exact ⟨s8, HZ.out⟩
            · have t2 : (E8 == 0) = false := beq_eq_false_iff_ne.2 hE
              have HZ := Lib.hid (And.intro (H2.out.1.keep H8.out.2.2.2.2.1) (And.intro (H2.out.2.1.past H8.out.2.2.2.2.1 H2.out.2.1.inside) (H2.out.2.2.1.past H8.out.2.2.2.2.1 H2.out.2.2.1.inside)))
              go_wp2_with fail
              go_meet
              exact ⟨s2, HZ.out⟩
          case rest =>
            obtain ⟨s3, hr3, hT3, hX3⟩ := hcut
            have H3 := Lib.hid (And.intro hr3 (And.intro hT3 hX3))
            obtain ⟨d0, d1⟩ := own2 hr3.box.own
            obtain ⟨e0, e1, e2⟩ := own3 hX3
            clear hr3 hT3 hX3 H8 oP8 a0 a1
            go_upto_if 65 with fail
            go_cut [] (fun wx => ∃ s4 : Sp, HoldR w w1.heap.size (w1.heap.size + 1) (k + 1) L s4 B2 bc2 put2 wx ∧ Own wx w.heap.size 26 t.cells)
            case first =>
              by_cases hs0 : y.since = 0
              · go_wp2_with fail
                go_meet
                exact ⟨s3, H3.out.1, H3.out.2.1⟩
              · have hs1 : (0 : Int) < (y.since : Int) := by omega
                obtain ⟨V9, hV9, hb9, ht9⟩ := H3.out.1.lit y.since
                have hb3 := H3.out.1.box.keep hb9
                have y3 := Lib.hid (compact_any s3 _ 1 [⟨y.since, 0, 0⟩] V9 hb3.in_ hb3.ok ht9 ⟨by simp, by simp, by unfold maxLen; simp⟩ (by have := (H3.out.1.small H.out.2.2.2.1).1; omega))
                rw [show s3.val = .agg #[.slice s3.sA s3.f.length s3.sc, .slice s3.lA s3.L.length s3.lc] from rfl] at y3
                have H9 := Lib.hid hb9
                clear hb3 ht9 hb9 hs0
                go_wp2_with fail
                rw [← hV9]
                clear hV9
                refine y3.out.mono ?_
                rintro _ w10 ⟨s10, E10, rfl, hres, i10, o10, lo10, b10⟩
                obtain ⟨V10, hV10, hb10, hs10, ho10⟩ := spbox w10 s10
                have H10 := Lib.hid (And.intro hres (And.intro (i10.keep hb10) (And.intro o10 (And.intro lo10 (And.intro (belows b10 hb10) (And.intro ho10 (belows H9.out (belows b10 hb10))))))))
                have hXb : wr.heap.size < _ := H3.out.2.2.inside
                have oP10 := (H3.out.1.box.keep H10.out.2.2.2.2.2.2).own
                obtain ⟨a0, a1⟩ := own2 ho10
                obtain ⟨d0, d1⟩ := own2 oP10
                rw [show s10.val = .agg #[.slice s10.sA s10.f.length s10.sc, .slice s10.lA s10.L.length s10.lc] from rfl]
                clear hres i10 o10 lo10 b10 hb10 hs10 ho10 y3
                go_upto_region 17 with fail
                rw [← hV10]
                clear hV10
                go_upto_if 76 with fail
                by_cases hE : E10 = 0
                · subst hE
                  have HZ := Lib.hid (show HoldR w w1.heap.size (w1.heap.size + 1) (k + 1) L s10 B2 bc2 put2 ((V10.setCell ⟨w1.heap.size, 0, none⟩ (.slice s10.sA s10.f.length s10.sc)).setCell ⟨w1.heap.size, 1, none⟩ (.slice s10.lA s10.L.length s10.lc)) ∧ Own ((V10.setCell ⟨w1.heap.size, 0, none⟩ (.slice s10.sA s10.f.length s10.sc)).setCell ⟨w1.heap.size, 1, none⟩ (.slice s10.lA s10.L.length s10.lc)) w.heap.size 26 t.cells from by
                    have h1 := HA.out.2.2
                    exact ⟨(H3.out.1.keep H9.out).put_ (Nat.le_of_lt h1) (Nat.lt_succ_self _) H10.out.2.2.2.2.1 H10.out.2.1 H10.out.2.2.1 H10.out.2.2.2.1 (hold_comp H3.out.1.st H10.out.1 rfl), own_put _ _ _ _ (H3.out.2.1.past H10.out.2.2.2.2.2.2 H3.out.2.1.inside) (by omega)⟩)
                  have g0 : V10.frozen? ⟨w1.heap.size, 0, none⟩ = false := oP10.open_ 0
                  have g1 : V10.frozen? ⟨w1.heap.size, 1, none⟩ = false := oP10.open_ 1
                  go_wp2_with fail
                  go_meet
                  exact ⟨s10, HZ.out⟩
                · have t2 : (E10 == 0) = false := beq_eq_false_iff_ne.2 hE
                  have HZ := Lib.hid (And.intro (H3.out.1.keep H10.out.2.2.2.2.2.2) (H3.out.2.1.past H10.out.2.2.2.2.2.2 H3.out.2.1.inside))
                  go_wp2_with fail
                  go_meet
                  exact ⟨s3, HZ.out⟩
            case rest =>
              obtain ⟨s4, hr4, hT4⟩ := hcut
              have H4 := Lib.hid (And.intro hr4 hT4)
              obtain ⟨d0, d1⟩ := own2 hr4.box.own
              have y4 := Lib.hid (size_any s4 _ hr4.box.in_ hr4.box.ok (by have h1 := parts_wt s4.L; have := (hr4.small H.out.2.2.2.1).1; omega))
              clear hr4 hT4 H3 e0 e1 e2
              rw [show s4.val = .agg #[.slice s4.sA s4.f.length s4.sc, .slice s4.lA s4.L.length s4.lc] from rfl] at y4
              go_wp2_with fail
              refine y4.out.mono ?_
              rintro _ w11 ⟨n11, k11, E11, rfl, hres, b11⟩
              obtain ⟨rfl, rfl⟩ : n11 = (cntS s4.L : Int) ∧ E11 = 0 := by
                rcases hres with ⟨h1, _⟩ | ⟨_, h1, _, h2⟩
                · exact absurd H4.out.1.st.good h1
                · exact ⟨h1, h2⟩
              have hs11 := H4.out.1.keep b11
              have y5 := Lib.hid (scheck_any s4 w11 hs11.box.in_ hs11.box.ok)
              have few := hold_few H4.out.1.st
              have hp2 := (H4.out.1.small H.out.2.2.2.1).2
              obtain ⟨d0, d1⟩ := own2 hs11.box.own
              have H11 := Lib.hid (And.intro hs11 (And.intro (H4.out.2.past b11 H4.out.2.inside) (And.intro few hp2)))
              rw [show s4.val = .agg #[.slice s4.sA s4.f.length s4.sc, .slice s4.lA s4.L.length s4.lc] from rfl] at y5
              clear hs11 few hp2 hres b11 y4
              go_wp2_with fail
              refine y5.out.mono ?_
              rintro _ w12 ⟨n12, rfl, hn12, b12⟩
              obtain rfl : n12 = 0 := by
                rcases hn12 with ⟨_, h1⟩ | ⟨h1, _⟩
                · exact h1
                · exact absurd H4.out.1.st.good h1
              have H12 := Lib.hid b12
              clear hn12 b12 y5
              have y6 := Lib.hid (Tryz.bits_Len (put2.length : Int) w12 (by omega) (by have := H11.out.2.2.2; omega))
              have hwp : IntKind.u64.wrap (put2.length : Int) = (put2.length : Int) := by rw [IntKind.wrap_u64]; have := H11.out.2.2.2; omega
              obtain ⟨q, hq⟩ : ∃ q : Nat, q = Lib.bitLen ((put2.length : Int).toNat) := ⟨_, rfl⟩
              have hqc : q = clsN put2.length := by rw [hq, Int.toNat_natCast, bitLen_cls _ (by have := H11.out.2.2.2; omega)]
              have hq21 : q ≤ 64 := by
                rw [hqc]
                have h1 := cls_pow (n := put2.length) (k := 64) (by have := H11.out.2.2.2; omega)
                exact h1
              have hf2 : (cntS s4.L : Int) ≤ 2 * (q : Int) := by rw [hqc]; have := H11.out.2.2.1; omega
              have hf3 : ¬ (2 * (q : Int) < (cntS s4.L : Int)) := by omega
              have hwq : IntKind.i64.wrap (2 * (q : Int)) = 2 * (q : Int) := by rw [IntKind.wrap_i64]; omega
              rw [← hq] at y6
              clear hq hqc hq21
              go_wp2_with fail
              refine y6.out.mono ?_
              rintro _ _ ⟨rfl, rfl⟩
              go_wp2_with fail
              go_roundw
              case rel => exact ⟨k + 1, s4, B2, bc2, put2, by go_num, rfl, hlt, by omega, H11.out.1.keep H12.out, H11.out.2.1.past H12.out H11.out.2.1.inside⟩
              case measure => simp [intOf]; omega
    · obtain rfl : k = L.length := by omega
      have HT := Lib.hid (And.intro hr hT)
      clear hr hT
      have y1 := Lib.hid (all_any s wr HT.out.1.box.in_ HT.out.1.box.ok (by have h1 := parts_wt s.L; have := (HT.out.1.small H.out.2.2.2.1).1; omega))
      rw [show s.val = .agg #[.slice s.sA s.f.length s.sc, .slice s.lA s.L.length s.lc] from rfl] at y1
      obtain ⟨d0, d1⟩ := own2 HT.out.1.box.own
      go_wp2_with fail
      refine y1.out.mono ?_
      rintro _ w2 ⟨b, e, rfl, hres, bi, bo, blo, b2⟩
      have hcs := hold_all HT.out.1.st hres
      have HT2 := Lib.hid (And.intro (HT.out.1.keep b2) (And.intro (HT.out.2.past b2 HT.out.2.inside) (And.intro bi.ups bo)))
      clear hres bi bo blo b2 y1
      rcases hcs with rfl | ⟨rfl, hc0, hbl⟩
      · go_wp2_with fail
        go_ret
        exact ⟨rfl, HT2.out.1.far⟩
      · have HCS := Lib.hid (And.intro hc0 hbl)
        clear hc0 hbl
        obtain ⟨d0, d1⟩ := own2 HT2.out.1.box.own
        obtain ⟨z0, z1, z2⟩ := own3 HT2.out.2.1
        by_cases hf : s.f.length = 0
        · have HPP := Lib.hid (show Past_ s.f t from .inl (List.eq_nil_of_length_eq_zero hf))
          have HT3 := HT2
          have q3 : (s.f.length : Int) = 0 := by omega
          have q4 : ¬ (0 : Int) < (s.f.length : Int) := by omega
          have y4 := Lib.hid (there_at b.uA b.uc b.l t w2 HT3.out.2.2.1 HT3.out.2.2.2.l.ok HT3.out.2.2.2.l.n)
          obtain ⟨z0, z1, z2⟩ := own3 HT3.out.2.1
          go_wp2_with fail
          refine y4.out.mono ?_
          rintro _ w4 ⟨A4, c4, l4, rfl, hl4, ht4, ho4, hn4, b4⟩
          have HT4 := Lib.hid (And.intro (HT3.out.1.keep b4) (HT3.out.2.1.past b4 HT3.out.2.1.inside))
          have H4 := Lib.hid (And.intro hl4 (And.intro ht4 (And.intro ho4 hn4)))
          clear hl4 ht4 ho4 hn4 b4 y4
          have y5 := Lib.hid (there_at B bc put t w4 HT4.out.1.ups (fun u hu => (HT4.out.1.each u hu).2) (by have := (HT4.out.1.small H.out.2.2.2.1).2; omega))
          obtain ⟨z0, z1, z2⟩ := own3 HT4.out.2
          go_wp2_with fail
          refine y5.out.mono ?_
          rintro _ w5 ⟨A5, c5, l5, rfl, hl5, ht5, ho5, hn5, b5⟩
          have heq := hold_at HT4.out.1.st HCS.out.1 HCS.out.2 HPP.out
          have y6 := Lib.hid (same_yes A4 A5 c4 c5 l4 l5 w5 (H4.out.2.1.keep b5) ht5 H4.out.2.2.1 ho5 H4.out.2.2.2 hn5 (by rw [H4.out.1, hl5, heq.1]))
          have HT5 := Lib.hid (HT4.out.1.keep b5)
          rw [heq.2]
          clear hl5 ht5 ho5 hn5 b5 y5 heq
          generalize atE put t = EE
          go_wp2_with fail
          refine y6.out.mono ?_
          rintro _ w6 ⟨rfl, b6⟩
          have HT6 := Lib.hid (belows HT5.out.far b6)
          clear b6 y6
          go_wp2_with fail
          go_ret
          exact ⟨rfl, HT6.out⟩
        · have q4 : (0 : Int) < (s.f.length : Int) := by omega
          have y3 := Lib.hid (beyond_any s.sA s.sc s.f t w2 HT2.out.1.box.in_.since (by have := HT2.out.1.box.ok.f.n; unfold maxLen; omega))
          go_wp2_with fail
          refine y3.out.mono ?_
          rintro _ w3 ⟨rfl, b3⟩
          have HT3 := Lib.hid (And.intro (HT2.out.1.keep b3) (And.intro (HT2.out.2.1.past b3 HT2.out.2.1.inside) (And.intro (HT2.out.2.2.1.keep b3) HT2.out.2.2.2)))
          clear b3 y3
          cases hbb : beyond s.f t
          · go_wp2_with fail
            go_ret
            exact ⟨rfl, HT3.out.1.far⟩
          · have HPP := Lib.hid (show Past_ s.f t from .inr hbb)
            have y4 := Lib.hid (there_at b.uA b.uc b.l t w3 HT3.out.2.2.1 HT3.out.2.2.2.l.ok HT3.out.2.2.2.l.n)
            obtain ⟨z0, z1, z2⟩ := own3 HT3.out.2.1
            go_wp2_with fail
            refine y4.out.mono ?_
            rintro _ w4 ⟨A4, c4, l4, rfl, hl4, ht4, ho4, hn4, b4⟩
            have HT4 := Lib.hid (And.intro (HT3.out.1.keep b4) (HT3.out.2.1.past b4 HT3.out.2.1.inside))
            have H4 := Lib.hid (And.intro hl4 (And.intro ht4 (And.intro ho4 hn4)))
            clear hl4 ht4 ho4 hn4 b4 y4
            have y5 := Lib.hid (there_at B bc put t w4 HT4.out.1.ups (fun u hu => (HT4.out.1.each u hu).2) (by have := (HT4.out.1.small H.out.2.2.2.1).2; omega))
            obtain ⟨z0, z1, z2⟩ := own3 HT4.out.2
            go_wp2_with fail
            refine y5.out.mono ?_
            rintro _ w5 ⟨A5, c5, l5, rfl, hl5, ht5, ho5, hn5, b5⟩
            have heq := hold_at HT4.out.1.st HCS.out.1 HCS.out.2 HPP.out
            have y6 := Lib.hid (same_yes A4 A5 c4 c5 l4 l5 w5 (H4.out.2.1.keep b5) ht5 H4.out.2.2.1 ho5 H4.out.2.2.2 hn5 (by rw [H4.out.1, hl5, heq.1]))
            have HT5 := Lib.hid (HT4.out.1.keep b5)
            rw [heq.2]
            clear hl5 ht5 ho5 hn5 b5 y5 heq
            generalize atE put t = EE
            go_wp2_with fail
            refine y6.out.mono ?_
            rintro _ w6 ⟨rfl, b6⟩
            have HT6 := Lib.hid (belows HT5.out.far b6)
            clear b6 y6
            go_wp2_with fail
            go_ret
            exact ⟨rfl, HT6.out⟩
end Go.Proofs.YtenjlhlighkenaaGreat
namespace Go.Proofs.YtenjlhlighkenaaGreat
open Go Go.RowKit

theorem holds_law (A : Option Addr) (c : Nat) (L : List Stp) (t : Tm) (w : World) (hl : Lies 3 Stp.cells w w.heap.size A L) (hst : ∀ y ∈ L, StpOk w y) (hok : ∀ y ∈ L, ∀ u ∈ y.u.l, UOk u) (hn : (stpU L).length ≤ 1048576) (hLn : L.length ≤ 1048576) (_ : 0 ≤ 1048576) :
    Calls Tryz.prog 3 #[.slice A L.length c, t.val] w fun e w' => e = .returned (.bool true) ∧ Below w.heap.size w w' := holds_walk A c L t w hl hst hok hn hLn
end Go.Proofs.YtenjlhlighkenaaGreat
