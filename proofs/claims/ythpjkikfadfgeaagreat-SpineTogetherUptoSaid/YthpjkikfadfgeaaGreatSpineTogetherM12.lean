/- Part 12 of the texts on which SpineTogether rests: facts and contracts. -/
import Derived.Test.YthpjkikfadfgeaaGreatSpineTogetherM11
import Derived.Test.YthpjkikfadfgeaaGreatRows
import Derived.WalkKit
import Derived.ProofKit
import Derived.OpenShut
import Derived.JoinedCond
import Derived.Carry
import Derived.ChangeArms
import Derived.Deep.Slices
import Derived.SizedLaws
namespace Go.Proofs.YthpjkikfadfgeaaGreat
open Go Go.RowKit

theorem lies_dropQ {w : World} {B g o : Nat} {l : List Up} {q : Nat} (h : Lies 6 Up.cells w B (some ⟨g, o, none⟩) l) : Lies 6 Up.cells w B (some ⟨g, o + q * 6, none⟩) (l.drop q) := fun hp => by
  obtain ⟨b', o', e, hb, hc⟩ := h (by rw [List.length_drop] at hp; omega)
  simp only [Option.some.injEq, Addr.mk.injEq, and_true] at e
  obtain ⟨rfl, rfl⟩ := e
  refine ⟨g, o + q * 6, rfl, hb, fun i x hi j u hj => ?_⟩
  rw [List.getElem?_drop] at hi
  have := hc (q + i) x hi j u hj
  rw [show o + q * 6 + i * 6 + j = o + (q + i) * 6 + j by omega]
  exact this
def dropA (A : Option Addr) (c q : Nat) : Option Addr := if c = q then A else A.map fun a => ⟨a.block, a.off + q * 6, a.spot⟩
theorem ups_dropQ {w : World} {B c q : Nat} {A : Option Addr} {l : List Up} (h : Ups w B A l) (hc : l.length ≤ c) : Ups w B (dropA A c q) (l.drop q) := by
  refine ⟨fun hp => ?_, fun u hu => h.each_ u (List.mem_of_mem_drop hu)⟩
  rw [List.length_drop] at hp
  obtain ⟨b', o', rfl, _⟩ := h.head (by omega)
  unfold dropA
  rw [if_neg (by omega)]
  exact lies_dropQ h.head (by rw [List.length_drop]; omega)
def partsR (l : Lv) : List (Rw Up) := if l.busy = true then [⟨dropA l.m.aA l.m.ac l.m.i.toNat, l.m.ac - l.m.i.toNat, l.m.a.drop l.m.i.toNat⟩, ⟨dropA l.m.bA l.m.bc l.m.j.toNat, l.m.bc - l.m.j.toNat, l.m.b.drop l.m.j.toNat⟩, ⟨l.m.oA, l.m.oc, l.m.o⟩] else [⟨l.b.uA, l.b.uc, l.b.l⟩]
theorem partsR_flat (l : Lv) : flatR (partsR l) = partsL l := by
  unfold partsR partsL
  split
  · simp [flatR, partsM]
  · simp [flatR]
theorem partsR_len (l : Lv) : (partsR l).length ≤ 3 := by
  unfold partsR
  split <;> simp
def PartsSay (l : Lv) (w : World) (x : Ending) (w' : World) : Prop := ∃ G, x = .returned (.slice (some ⟨G, 0, none⟩) (partsR l).length (partsR l).length) ∧ ULs w' w'.heap.size (some ⟨G, 0, none⟩) (partsR l) ∧ w.heap.size ≤ G ∧ Below w.heap.size w w'
theorem three_lists (w : World) (A1 A2 A3 : Option Addr) (c1 c2 c3 : Nat) (l1 l2 l3 : List Up) (h1 : Ups w w.heap.size A1 l1) (h2 : Ups w w.heap.size A2 l2) (h3 : Ups w w.heap.size A3 l3) :
    ∃ V, V = w.alloc (.cells #[.slice A1 l1.length c1, .slice A2 l2.length c2, .slice A3 l3.length c3] 22) ∧ Below w.heap.size w V ∧ ULs V V.heap.size (some ⟨w.heap.size, 0, none⟩) [⟨A1, c1, l1⟩, ⟨A2, c2, l2⟩, ⟨A3, c3, l3⟩] := by
  obtain ⟨W, e1, s1, b1, o1⟩ := boxd w [.slice A1 l1.length c1, .slice A2 l2.length c2, .slice A3 l3.length c3] 22
  refine ⟨W, e1, b1, rw_own (t := 22) o1, fun s hs => ?_⟩
  simp only [List.mem_cons, List.not_mem_nil, or_false] at hs
  rcases hs with rfl | rfl | rfl
  · exact h1.keep b1
  · exact h2.keep b1
  · exact h3.keep b1
set_option maxRecDepth 100000 in
set_option maxHeartbeats 6400000 in
theorem partsI_any (cl : Int) (b : Bt) (m : Mg) (w : World) (hl : LvIn w w.heap.size ⟨cl, false, b, m⟩) :
    Calls Tryz.prog 60 #[(⟨cl, false, b, m⟩ : Lv).val] w (PartsSay ⟨cl, false, b, m⟩ w) := by
  obtain ⟨V, hV, hvb, hvs, hvo⟩ := lvbox w ⟨cl, false, b, m⟩
  obtain ⟨a0, a1, a2, a3, a4, a5, a6, a7, a8, a9⟩ := own10 hvo
  obtain ⟨V2, hV2, hb2, hs2, ho2⟩ := mgbox V m
  obtain ⟨b0, b1, b2, b3, b4, b5, b6, b7, b8, b9⟩ := own10 (hvo.past hb2 hvo.inside)
  have hin := (hl.keep hvb).keep hb2
  have HB := Lib.hid (And.intro (belows hvb hb2) hin.b.ups)
  rw [show (⟨cl, false, b, m⟩ : Lv).val = .agg #[.int .i64 cl, .bool false, .slice b.sA b.f.length b.sc, .slice b.uA b.l.length b.uc, .slice m.aA m.a.length m.ac, .slice m.bA m.b.length m.bc, .int .i64 m.i, .int .i64 m.j, .slice m.sA m.f.length m.sc, .slice m.oA m.o.length m.oc] from rfl]
  dsimp only at hV a0 a1 a2 a3 a4 a5 a6 a7 a8 a9 b0 b1 b2 b3 b4 b5 b6 b7 b8 b9
  have HP := Lib.hid (show ∀ (G : Nat) w', ULs w' w'.heap.size (some ⟨G, 0, none⟩) [⟨b.uA, b.uc, b.l⟩] → w.heap.size ≤ G → Below w.heap.size w w' → PartsSay ⟨cl, false, b, m⟩ w (.returned (.slice (some ⟨G, 0, none⟩) 1 1)) w' from fun G w' h1 h0 h2 => ⟨G, rfl, h1, h0, h2⟩)
  clear hl hvb hvs hvo hb2 hs2 ho2 hin
  go_enter Tryz.func60, Tryz.ntmps60
  go_upto_region 1 with fail
  rw [← hV]
  clear hV
  go_upto_region 2 with fail
  rw [← hV2]
  clear hV2
  go_wp2_with fail
  go_ret
  obtain ⟨W, hW, hbW, hoW⟩ := one_list V2 b.uA b.uc b.l HB.out.2
  rw [← hW]
  exact HP.out _ _ hoW HB.out.1.size (belows HB.out.1 hbW)
set_option maxRecDepth 100000 in
set_option maxHeartbeats 6400000 in
theorem partsB_any (cl : Int) (b : Bt) (m : Mg) (i j : Nat) (w : World) (hl : LvIn w w.heap.size ⟨cl, true, b, m⟩) (cm : McOk m) (hi : m.i = (i : Int)) (hj : m.j = (j : Int)) (hia : i ≤ m.a.length) (hjb : j ≤ m.b.length) (na : 0 < m.a.length) (nb : 0 < m.b.length) :
    Calls Tryz.prog 60 #[(⟨cl, true, b, m⟩ : Lv).val] w (PartsSay ⟨cl, true, b, m⟩ w) := by
  obtain ⟨V, hV, hvb, hvs, hvo⟩ := lvbox w ⟨cl, true, b, m⟩
  obtain ⟨a0, a1, a2, a3, a4, a5, a6, a7, a8, a9⟩ := own10 hvo
  obtain ⟨V2, hV2, hb2, hs2, ho2⟩ := mgbox V m
  obtain ⟨b0, b1, b2, b3, b4, b5, b6, b7, b8, b9⟩ := own10 (hvo.past hb2 hvo.inside)
  have hin := ((hl.keep hvb).keep hb2).m
  have HB := Lib.hid (And.intro (belows hvb hb2) (And.intro hin (And.intro hi (And.intro hj cm))))
  obtain ⟨ga, oa, hA, _⟩ := hin.a.head na
  obtain ⟨gb, ob, hBB, _⟩ := hin.b.head nb
  have hX := fun q : Past V2 => own6 (ho2.past q.h ho2.inside)
  rw [hA, hBB, hi, hj] at hX
  rw [show (⟨cl, true, b, m⟩ : Lv).val = .agg #[.int .i64 cl, .bool true, .slice b.sA b.f.length b.sc, .slice b.uA b.l.length b.uc, .slice m.aA m.a.length m.ac, .slice m.bA m.b.length m.bc, .int .i64 m.i, .int .i64 m.j, .slice m.sA m.f.length m.sc, .slice m.oA m.o.length m.oc] from rfl]
  dsimp only at hV a0 a1 a2 a3 a4 a5 a6 a7 a8 a9 b0 b1 b2 b3 b4 b5 b6 b7 b8 b9
  have HA := Lib.hid (And.intro hA hBB)
  have k1 := cm.a
  have k2 := cm.b
  have q1 : (0 : Int) ≤ (i : Int) := by omega
  have q2 : (i : Int) ≤ (m.a.length : Int) := by omega
  have q3 : (0 : Int) ≤ (j : Int) := by omega
  have q4 : (j : Int) ≤ (m.b.length : Int) := by omega
  obtain ⟨B1, hB1⟩ : ∃ B1 : Option Addr, (if m.ac = i then (some ⟨ga, oa, none⟩ : Option Addr) else some ⟨ga, oa + i * 6, none⟩) = B1 := ⟨_, rfl⟩
  obtain ⟨B2, hB2⟩ : ∃ B2 : Option Addr, (if m.bc = j then (some ⟨gb, ob, none⟩ : Option Addr) else some ⟨gb, ob + j * 6, none⟩) = B2 := ⟨_, rfl⟩
  have HBB := Lib.hid (show B1 = dropA m.aA m.ac i ∧ B2 = dropA m.bA m.bc j from by
    rw [← hB1, ← hB2, hA, hBB]
    exact ⟨rfl, rfl⟩)
  have HU := Lib.hid (show ∀ W, Below V2.heap.size V2 W → Ups W W.heap.size B1 (m.a.drop i) ∧ Ups W W.heap.size B2 (m.b.drop j) ∧ Ups W W.heap.size m.oA m.o from fun W hb => by
    rw [HBB.out.1, HBB.out.2]
    exact ⟨ups_dropQ (hin.a.keep hb) cm.a, ups_dropQ (hin.b.keep hb) cm.b, hin.o.keep hb⟩)
  have HPR := Lib.hid (show partsR ⟨cl, true, b, m⟩ = [⟨B1, m.ac - i, m.a.drop i⟩, ⟨B2, m.bc - j, m.b.drop j⟩, ⟨m.oA, m.oc, m.o⟩] from by
    rw [HBB.out.1, HBB.out.2]
    have e1 : m.i.toNat = i := by omega
    have e2 : m.j.toNat = j := by omega
    show (if true = true then _ else _) = _
    rw [if_pos rfl, e1, e2])
  clear hl hvb hvs hvo hb2 hs2 ho2 hin hi hj hA hBB cm
  go_enter Tryz.func60, Tryz.ntmps60
  go_upto_region 1 with fail
  rw [← hV]
  clear hV
  go_upto_region 2 with fail
  rw [← hV2]
  clear hV2
  go_upto_region 3 with fail
  refine wp_region_past_tail V2 12 (by kernel_rfl) (by kernel_rfl) (Below.refl _ _) ?_
  repeat (first | go_big_quiet_step (fail) | quiet_step (fail))
  refine wpQuiet_nil ?_
  intro wt hw'
  obtain ⟨⟨wu, hbt⟩, hw''⟩ := hw'
  dsimp only at hw''
  subst hw''
  have HT := Lib.hid hbt
  clear hX hbt
  go_wp2_with fail
  go_ret
  obtain ⟨W, hW, hbW, hoW⟩ := three_lists wt B1 B2 m.oA (m.ac - i) (m.bc - j) m.oc (m.a.drop i) (m.b.drop j) m.o (HU.out wt HT.out).1 (HU.out wt HT.out).2.1 (HU.out wt HT.out).2.2
  rw [List.length_drop, List.length_drop] at hW
  rw [← hW]
  have bb := belows HB.out.1 (belows HT.out hbW)
  exact ⟨wt.heap.size, by rw [HPR.out]; rfl, by rw [HPR.out]; exact hoW, (belows HB.out.1 HT.out).size, bb⟩
theorem parts_anyS (l : Lv) (f : List Tm) (w : World) (hl : LvIn w w.heap.size l) (ol : LvOk l) (hg : LvGood f l) (hp : 1 ≤ l.cls) : Calls Tryz.prog 60 #[l.val] w (PartsSay l w) := by
  obtain ⟨cl, bu, b, m⟩ := l
  cases bu
  · exact partsI_any cl b m w hl
  · obtain ⟨_, _, h3, h4, h5, _, _⟩ := hg.busy rfl
    have hp : 1 ≤ cl := hp
    have h4 : (clsN m.a.length : Int) = cl := h4
    have h5 : (clsN m.b.length : Int) = cl := h5
    have z1 := (cls_zero (n := m.a.length)).2
    have z2 := (cls_zero (n := m.b.length)).2
    have d1 : 0 ≤ m.i := h3.da.lo
    have d2 : m.i ≤ (m.a.length : Int) := h3.da.hi
    have d3 : 0 ≤ m.j := h3.db.lo
    have d4 : m.j ≤ (m.b.length : Int) := h3.db.hi
    exact partsB_any cl b m m.i.toNat m.j.toNat w hl ol.cap (by omega) (by omega) (by omega) (by omega) (by
      rcases Nat.eq_zero_or_pos m.a.length with h | h
      · have := z1 h; omega
      · exact h) (by
      rcases Nat.eq_zero_or_pos m.b.length with h | h
      · have := z2 h; omega
      · exact h)
end Go.Proofs.YthpjkikfadfgeaaGreat
namespace Go.Proofs.YthpjkikfadfgeaaGreat
open Go Go.RowKit

def listsS (L : List Lv) : List (Rw Up) := L.flatMap partsR
theorem listsS_flat (L : List Lv) : flatR (listsS L) = partsS L := by
  unfold listsS partsS flatR
  rw [List.flatMap_assoc]
  congr 1
  funext l
  exact partsR_flat l
theorem listsS_take {L : List Lv} {k : Nat} {l : Lv} (h : L[k]? = some l) : listsS (L.take (k + 1)) = listsS (L.take k) ++ partsR l := by
  unfold listsS
  rw [List.take_add_one, h, List.flatMap_append]
  simp
theorem listsS_len (L : List Lv) : (listsS L).length ≤ 3 * L.length := by
  induction L with
  | nil => exact Nat.zero_le _
  | cons l L ih =>
    have h := partsR_len l
    show ((l :: L).flatMap partsR).length ≤ _
    rw [List.flatMap_cons, List.length_append, List.length_cons]
    have ih : (L.flatMap partsR).length ≤ 3 * L.length := ih
    omega
theorem partsR_in {w : World} {B : Nat} {l : Lv} (h : LvIn w B l) (ol : LvOk l) : ∀ r ∈ partsR l, Ups w B r.A r.l := by
  intro r hr
  unfold partsR at hr
  split at hr
  · simp only [List.mem_cons, List.not_mem_nil, or_false] at hr
    rcases hr with rfl | rfl | rfl
    · exact ups_dropQ h.m.a ol.cap.a
    · exact ups_dropQ h.m.b ol.cap.b
    · exact h.m.o
  · simp only [List.mem_cons, List.not_mem_nil, or_false] at hr
    subst hr
    exact h.b.ups
theorem partsR_uok {l : Lv} (ol : LvOk l) : ∀ r ∈ partsR l, ∀ u ∈ r.l, UOk u := by
  intro r hr u hu
  unfold partsR at hr
  split at hr
  · simp only [List.mem_cons, List.not_mem_nil, or_false] at hr
    rcases hr with rfl | rfl | rfl
    · exact ol.m.a.ok u (List.mem_of_mem_drop hu)
    · exact ol.m.b.ok u (List.mem_of_mem_drop hu)
    · exact ol.m.o.ok u hu
  · simp only [List.mem_cons, List.not_mem_nil, or_false] at hr
    subst hr
    exact ol.b.l.ok u hu
theorem infoUl : (Tryz.prog.info? 22).map (fun i => (i.zero, i.size, i.bytes)) = some (some (.slice none 0 0), 1, 24) := by kernel_rfl
theorem rwcell_len {α : Type} (s : Rw α) : (Rw.cells s).length = 1 := rfl
def CollS (f : List Tm) (l : List Up) (w : World) (x : Ending) (w' : World) : Prop :=
  ∃ b : Bt, x = .returned (.tuple #[.slice b.uA b.l.length b.uc, .int .i64 (bldE f l)]) ∧ (bldE f l = 0 → FrontOk f ∧ b.f = f ∧ b.l.map Up.p = consL [advL f l]) ∧ (bldE f l ≠ 0 → b = Bt.nil) ∧ BtIn w' w'.heap.size b ∧ BtOk b ∧ BtLo w.heap.size b ∧ Below w.heap.size w w'
set_option maxRecDepth 100000 in
set_option maxHeartbeats 1600000 in
theorem all1_any (v : Value) (w : World) : Calls Tryz.prog 65 #[v] w fun e w' => e = .returned v ∧ Below w.heap.size w w' := by
  go_enter Tryz.func65, Tryz.ntmps65
  go_wp2_with fail
  go_ret
  exact ⟨rfl, Below.refl _ _⟩
structure ClI (base : Nat) (Ls : List (Rw Up)) (v : Value) (wr : World) : Prop where
  own : wr.ownsRow base 22 1 v Ls.length (Ls.flatMap Rw.cells)
structure PtI (v : Value) (G : Nat) (R : List (Rw Up)) (wr : World) : Prop where
  in_ : G < wr.heap.size
  ne : v.ownBlock ≠ some G
  cells : ∀ j r, R[j]? = some r → wr.cell? ⟨G, j, none⟩ = some (.slice r.A r.l.length r.c)
theorem PtI.push {v v' : Value} {G : Nat} {R : List (Rw Up)} {w w' : World} (h : PtI v G R w) (hg : w.grownBy w' v.ownBlock) (hv : v'.ownBlock = v.ownBlock ∨ v'.ownBlock = some (w.heap.size + 1)) : PtI v' G R w' := by
  have hin := h.in_
  refine ⟨Nat.lt_of_lt_of_le h.in_ hg.size, ?_, fun j r hr => ?_⟩
  · rcases hv with e | e
    · rw [e]; exact h.ne
    · rw [e]; intro hh; injection hh with hh; omega
  · rw [← h.cells j r hr]
    unfold World.cell?
    rw [hg.block G h.in_ (fun e => h.ne e.symm)]
theorem partsR_pos (l : Lv) : 0 < (partsR l).length := by
  unfold partsR
  split <;> simp
theorem cl_keep {base : Nat} {Ls : List (Rw Up)} {v : Value} {w w' : World} (h : ClI base Ls v w) (hb : Below w.heap.size w w') : ClI base Ls v w' := ⟨own_below h.own hb⟩
theorem pt_start {base : Nat} {Ls : List (Rw Up)} {v : Value} {w V w' : World} {G : Nat} {R : List (Rw Up)} (h : ClI base Ls v w) (_ : Below w.heap.size w w') (hG : V.heap.size ≤ G) (hV : w.heap.size ≤ V.heap.size) (hu : ULs w' w'.heap.size (some ⟨G, 0, none⟩) R) (hp : 0 < R.length) : PtI v G R w' := by
  obtain ⟨g, o, e, hgi, hgc⟩ := hu.head hp
  simp only [Option.some.injEq, Addr.mk.injEq, and_true] at e
  obtain ⟨rfl, rfl⟩ := e
  refine ⟨hgi, fun e => ?_, fun j r hr => ?_⟩
  · have := (h.own.lt _ e).2
    omega
  · have := hgc j r hr 0 _ rfl
    simpa using this
theorem PtI.keep {v : Value} {G : Nat} {R : List (Rw Up)} {w w' : World} (h : PtI v G R w) (hb : Below w.heap.size w w') : PtI v G R w' :=
  ⟨Nat.lt_of_lt_of_le h.in_ hb.size, h.ne, fun j r hr => (hb.cell (p := ⟨G, j, none⟩) h.in_).trans (h.cells j r hr)⟩
theorem cl_push {base : Nat} {Ls : List (Rw Up)} {r : Rw Up} {v : Value} {w : World} (h : w.ownsRow base 22 1 v (Ls.length + 1) (Ls.flatMap Rw.cells ++ #[Value.slice r.A r.l.length r.c].toList)) : ClI base (Ls ++ [r]) v w := by
  refine ⟨?_⟩
  rw [List.length_append, List.flatMap_append]
  exact h
set_option maxRecDepth 100000 in
set_option maxHeartbeats 6400000 in
theorem collect_all (s : Sp) (w : World) (hs : SpIn w w.heap.size s) (os : SpOk s) (hg : SpGood s.f s.L) (hn : (partsS s.L).length ≤ 1099511627776) :
    Calls Tryz.prog 64 #[s.val, .func (.func 65) #[] #[]] w (CollS s.f (partsS s.L) w) := by
  obtain ⟨i0, hi, hz0, hz1, hz2⟩ := info_parts infoUl
  have HI := Lib.hid (And.intro Tryz.underlying31 (And.intro hi (And.intro hz0 (And.intro hz1 hz2))))
  obtain ⟨V, hV, hvb, hvs, hvo⟩ := spbox w s
  have hin := hs.keep hvb
  have H := Lib.hid (And.intro hin (And.intro os (And.intro hvb (And.intro hvo (And.intro hg hn)))))
  have hnL := os.n
  rw [show s.val = .agg #[.slice s.sA s.f.length s.sc, .slice s.lA s.L.length s.lc] from rfl]
  have hX := Lib.hid (fun W (hb : Below V.heap.size V W) => own2 (hvo.past hb hvo.inside))
  obtain ⟨d0, d1⟩ := own2 hvo
  have h0 := World.ownsRow_nil V V.heap.size 22 1
  clear hs os hvb hvs hvo hin hi hz0 hz1 hz2 hg hn
  go_enter Tryz.func64, Tryz.ntmps64
  go_upto_region 1 with fail
  rw [← hV]
  clear hV
  go_wp2_with fail
  go_loopw [6, 16] (fun v i wr => ∃ k : Nat, i = .int .i64 (k : Int) ∧ k ≤ s.L.length ∧ ClI V.heap.size (listsS (s.L.take k)) v wr ∧ Below V.heap.size V wr)
    (fun _ i _ => s.L.length - (intOf i).toNat)
  case atStart => exact ⟨0, rfl, by omega, ⟨h0⟩, Below.refl _ _⟩
  case round =>
    obtain ⟨k, rfl, hk, hown, hb⟩ := hrel
    by_cases hlt : k < s.L.length
    · obtain ⟨l, hl⟩ : ∃ l, s.L[k]? = some l := ⟨_, List.getElem?_eq_getElem hlt⟩
      obtain ⟨b, o, hA, hB, hc⟩ := lies_lv H.out.1.lev.head (by omega)
      obtain ⟨c0, c1, c2, c3, c4, c5, c6, c7, c8, c9⟩ := lv_ten fun j u hj => (hb.cell (p := ⟨b, o + k * 10 + j, none⟩) hB).trans (hc k l hl j u hj)
      have hlm := List.mem_of_getElem? hl
      have hli := ((H.out.1.lev.each_ l hlm).past hb (Nat.le_refl _)).wide hb.size
      have hlo := H.out.2.1.each_ l hlm
      obtain ⟨V5, hV5, hb5, hs5, ho5⟩ := lvbox wr l
      obtain ⟨e0, e1, e2, e3, e4, e5, e6, e7, e8, e9⟩ := own10 ho5
      have u1 := Lib.hid (parts_anyS l s.f V5 (hli.keep hb5) hlo (H.out.2.2.2.2.1.each l hlm) (H.out.2.2.2.2.1.pos l hlm))
      rw [show l.val = .agg #[.int .i64 l.cls, .bool l.busy, .slice l.b.sA l.b.f.length l.b.sc, .slice l.b.uA l.b.l.length l.b.uc, .slice l.m.aA l.m.a.length l.m.ac, .slice l.m.bA l.m.b.length l.m.bc, .int .i64 l.m.i, .int .i64 l.m.j, .slice l.m.sA l.m.f.length l.m.sc, .slice l.m.oA l.m.o.length l.m.oc] from rfl] at u1
      have hpl := partsR_len l
      have hll := listsS_len (s.L.take k)
      rw [List.length_take, Nat.min_eq_left (by omega)] at hll
      have htk := listsS_take hl
      have HA := Lib.hid hA
      have HK := Lib.hid (And.intro hown (And.intro hb (And.intro hb5 htk)))
      have q0 : (0 : Int) ≤ (k : Int) := by omega
      have q1 : (k : Int) < (s.L.length : Int) := by omega
      obtain ⟨d0, d1⟩ := hX.out wr hb
      clear hlm hli hlo hl hown hb hb5 htk hc
      go_upto_region 5 with fail
      rw [← hV5]
      clear hV5
      go_wp2_with fail
      refine u1.out.mono ?_
      rintro _ w1 ⟨G, rfl, hul, hG, hb1⟩
      have hpt := pt_start HK.out.1 (belows HK.out.2.2.1 hb1) hG HK.out.2.2.1.size hul (partsR_pos l)
      have hb1' := belows HK.out.2.1 (belows HK.out.2.2.1 hb1)
      have hown1 := cl_keep HK.out.1 (belows HK.out.2.2.1 hb1)
      have H1 := Lib.hid (And.intro hpt (And.intro hb1' hown1))
      have hpp := partsR_pos l
      clear hpt hb1' hown1 hul hG hb1
      clear u1 e0 e1 e2 e3 e4 e5 e6 e7 e8 e9 c0 c1 c2 c3 c4 c5 c6 c7 c8 c9 d0 d1
      go_wp2_with fail
      go_loopw [6, 23] (fun v i wi => ∃ j : Nat, i = .int .i64 (j : Int) ∧ j ≤ (partsR l).length ∧ ClI V.heap.size (listsS (s.L.take k) ++ (partsR l).take j) v wi ∧ PtI v G (partsR l) wi ∧ Below V.heap.size V wi)
        (fun _ i _ => (partsR l).length - (intOf i).toNat)
      case atStart => exact ⟨0, rfl, by omega, by simpa using H1.out.2.2, H1.out.1, H1.out.2.1⟩
      case round =>
        obtain ⟨j, rfl, hj, hown2, hp2, hb2⟩ := hrel
        by_cases hlt2 : j < (partsR l).length
        · obtain ⟨r, hr⟩ : ∃ r, (partsR l)[j]? = some r := ⟨_, List.getElem?_eq_getElem hlt2⟩
          have z0 := hp2.cells j r hr
          have z1 := z0
          rw [show j = 0 + j by omega] at z1
          have q2 : (0 : Int) ≤ (j : Int) := by omega
          have q3 : (j : Int) < ((partsR l).length : Int) := by omega
          have htj : (partsR l).take (j + 1) = (partsR l).take j ++ [r] := by rw [List.take_add_one, hr]; rfl
          have hlj : (listsS (s.L.take k) ++ (partsR l).take j).length ≤ 3 * k + 3 := by rw [List.length_append, List.length_take]; omega
          generalize hLs : listsS (s.L.take k) ++ (partsR l).take j = Ls at hown2 hlj
          have H2 := Lib.hid (And.intro hown2 (And.intro hp2 (And.intro hb2 (And.intro hLs htj))))
          clear hown2 hp2 hb2 hr hLs htj
          go_wp2_with fail
          refine (all1_any _ _).mono ?_
          rintro _ w2 ⟨rfl, b2⟩
          have hown3 := cl_keep H2.out.1 b2
          have hp3 := H2.out.2.1.keep b2
          have hb3 := belows H2.out.2.2.1 b2
          have H3 := Lib.hid (And.intro hown3 (And.intro hp3 hb3))
          clear b2 hown3 hp3 hb3 z0 z1
          go_wp2_with (at_builtin; refine wpList_push _ rfl _ _ 31 rfl V.heap.size 22 i0 _ 1 24 HI.out.1 HI.out.2.1 HI.out.2.2.1 HI.out.2.2.2.1 HI.out.2.2.2.2 rfl (by decide) _ _ _ rfl H3.out.1.own #[.slice r.A r.l.length r.c] rfl rfl ?k1 ?k2 ?k3 ?k4 ?_)
          case k1 => rfl
          case k2 => unfold maxLen; omega
          case k3 => omega
          case k4 => exact H3.out.2.2.size
          intro v4 w4 ho4 hb4 hv4 hg4
          have hp4 := H3.out.2.1.push hg4 hv4
          have hb5 := H3.out.2.2.trans hb4
          have ho5 : ClI V.heap.size (Ls ++ [r]) v4 w4 := cl_push ho4
          rw [← H2.out.2.2.2.1, List.append_assoc, ← H2.out.2.2.2.2] at ho5
          have H4 := Lib.hid (And.intro ho5 (And.intro hp4 hb5))
          clear ho4 hb4 hv4 hg4 hp4 hb5 ho5
          go_wp2_with fail
          go_roundw
          case rel => exact ⟨j + 1, by go_num, by omega, H4.out.1, H4.out.2.1, H4.out.2.2⟩
          case measure => simp [intOf]; omega
        · have hj2 : j = (partsR l).length := by omega
          subst hj2
          rw [List.take_length, ← HK.out.2.2.2] at hown2
          have H2 := Lib.hid (And.intro hown2 hb2)
          clear hown2 hb2 hp2
          go_wp2_with fail
          clear hA
          rw [← HA.out]
          go_roundw
          case rel =>
            exact ⟨k + 1, by go_num, by omega, H2.out.1, H2.out.2⟩
          case measure => simp [intOf]; omega
    · have hk2 : k = s.L.length := by omega
      subst hk2
      rw [List.take_length] at hown
      have hll := listsS_len s.L
      obtain ⟨A7, k7, hv7, _, _, hl7⟩ := lies_of_own (l := listsS s.L) (by decide) rwcell_len rfl hown.own
      subst hv7
      obtain ⟨d0, d1⟩ := hX.out wr hb
      have hul : ULs wr wr.heap.size A7 (listsS s.L) := ⟨hl7, fun r hr => by
        obtain ⟨l, hl, hrl⟩ := List.mem_flatMap.1 hr
        exact ((partsR_in (H.out.1.lev.each_ l hl) (H.out.2.1.each_ l hl) r hrl).past hb (Nat.le_refl _)).wide hb.size⟩
      have u1 := Lib.hid (build_any s.sA s.sc s.f A7 k7 (listsS s.L) wr ((H.out.1.since.past hb (Nat.le_refl _)).wide hb.size) H.out.2.1.f hul (fun r hr => by
        obtain ⟨l, hl, hrl⟩ := List.mem_flatMap.1 hr
        exact partsR_uok (H.out.2.1.each_ l hl) r hrl) (by rw [listsS_flat]; exact H.out.2.2.2.2.2) (by omega))
      rw [listsS_flat] at u1
      have HH := Lib.hid hb
      clear hb hown hl7 hul
      go_wp2_with fail
      refine u1.out.mono ?_
      rintro _ w1 ⟨bt, rfl, h1, h2, h3, h4, h5, h6⟩
      have hbx := HH.out
      have H1 := Lib.hid (And.intro h1 (And.intro h2 (And.intro h3 (And.intro h4 (And.intro h5 h6)))))
      clear h1 h2 h3 h4 h5 h6 u1
      rw [show bt.val = .agg #[.slice bt.sA bt.f.length bt.sc, .slice bt.uA bt.l.length bt.uc] from rfl]
      go_wp2_with fail
      exact bodyPost_ret (v := .tuple #[.slice bt.uA bt.l.length bt.uc, .int .i64 (bldE s.f (partsS s.L))]) (by simp [results, Tryz.results64, go_sem]) rfl ⟨bt, rfl, H1.out.1, H1.out.2.1, H1.out.2.2.1.keep ((Below.refl _ _).alloc (Nat.le_refl _) _), H1.out.2.2.2.1, H1.out.2.2.2.2.1.mono (belows H.out.2.2.1 hbx).size, belows (belows H.out.2.2.1 (belows hbx H1.out.2.2.2.2.2)) ((Below.refl _ _).alloc (Nat.le_refl _) _)⟩
end Go.Proofs.YthpjkikfadfgeaaGreat
namespace Go.Proofs.YthpjkikfadfgeaaGreat
open Go Go.RowKit

def AllS (s : Sp) (w : World) (x : Ending) (w' : World) : Prop :=
  ∃ (b : Bt) (e : Int), x = .returned (.tuple #[.slice b.uA b.l.length b.uc, .int .i64 e]) ∧ ((¬ SpGood s.f s.L ∧ e = 8 ∧ b = Bt.nil) ∨ (SpGood s.f s.L ∧ e = bldE s.f (partsS s.L) ∧ (e = 0 → b.l.map Up.p = consL [advL s.f (partsS s.L)]) ∧ (e ≠ 0 → b = Bt.nil))) ∧ BtIn w' w'.heap.size b ∧ BtOk b ∧ BtLo w.heap.size b ∧ Below w.heap.size w w'
set_option maxRecDepth 100000 in
set_option maxHeartbeats 6400000 in
theorem all_any (s : Sp) (w : World) (hs : SpIn w w.heap.size s) (os : SpOk s) (hn : (partsS s.L).length ≤ 1099511627776) :
    Calls Tryz.prog 27 #[s.val] w (AllS s w) := by
  obtain ⟨V, hV, hvb, hvs, hvo⟩ := spbox w s
  have hin := hs.keep hvb
  have u1 := Lib.hid (scheck_any s V hin os)
  have H := Lib.hid (And.intro hin (And.intro os (And.intro hvb (And.intro hvo hn))))
  obtain ⟨d0, d1⟩ := own2 hvo
  rw [show s.val = .agg #[.slice s.sA s.f.length s.sc, .slice s.lA s.L.length s.lc] from rfl] at u1 ⊢
  have HP := Lib.hid (show ∀ (b : Bt) e w', ((¬ SpGood s.f s.L ∧ e = 8 ∧ b = Bt.nil) ∨ (SpGood s.f s.L ∧ e = bldE s.f (partsS s.L) ∧ (e = 0 → b.l.map Up.p = consL [advL s.f (partsS s.L)]) ∧ (e ≠ 0 → b = Bt.nil))) → BtIn w' w'.heap.size b → BtOk b → BtLo w.heap.size b → Below w.heap.size w w' → AllS s w (.returned (.tuple #[.slice b.uA b.l.length b.uc, .int .i64 e])) w' from fun b e w' h1 h2 h3 h4 h5 => ⟨b, e, rfl, h1, h2, h3, h4, h5⟩)
  clear hs os hvb hvs hvo hin hn
  go_enter Tryz.func27, Tryz.ntmps27
  go_upto_region 1 with fail
  rw [← hV]
  clear hV
  go_wp2_with fail
  refine u1.out.mono ?_
  rintro _ w1 ⟨e, rfl, he, b1⟩
  have H1 := Lib.hid (And.intro b1 he)
  clear u1
  obtain ⟨d0, d1⟩ := own2 (H.out.2.2.2.1.past b1 H.out.2.2.2.1.inside)
  by_cases h0 : e = 0
  · have hg : SpGood s.f s.L := by
      rcases he with ⟨h, _⟩ | ⟨_, h⟩
      · exact h
      · omega
    have u2 := Lib.hid (collect_all s w1 (H.out.1.keep b1) H.out.2.1 hg H.out.2.2.2.2)
    rw [show s.val = .agg #[.slice s.sA s.f.length s.sc, .slice s.lA s.L.length s.lc] from rfl] at u2
    have HG := Lib.hid hg
    have t1 : (e != 0) = false := by simp [h0]
    clear he b1 hg h0
    go_wp2_with fail
    refine u2.out.mono ?_
    rintro _ w2 ⟨b, rfl, h1, h2, h3, h4, h5, h6⟩
    have H2 := Lib.hid (And.intro h1 (And.intro h2 (And.intro h3 (And.intro h4 (And.intro h5 h6)))))
    clear h1 h2 h3 h4 h5 h6 u2
    go_wp2_with fail
    exact bodyPost_ret (v := .tuple #[.slice b.uA b.l.length b.uc, .int .i64 (bldE s.f (partsS s.L))]) (by simp [results, Tryz.results27, go_sem]) rfl (HP.out b _ _ (.inr ⟨HG.out, rfl, fun h => (H2.out.1 h).2.2, H2.out.2.1⟩) H2.out.2.2.1 H2.out.2.2.2.1 (H2.out.2.2.2.2.1.mono (belows H.out.2.2.1 H1.out.1).size) (belows H.out.2.2.1 (belows H1.out.1 H2.out.2.2.2.2.2)))
  · have hg : ¬ SpGood s.f s.L ∧ e = 8 := by
      rcases he with ⟨_, h⟩ | h
      · exact absurd h h0
      · exact h
    have t1 : (e != 0) = true := bne_iff_ne.2 h0
    have HG := Lib.hid hg
    clear he b1 hg h0
    go_wp2_with fail
    exact bodyPost_ret (v := .tuple #[.slice none 0 0, .int .i64 e]) (by simp [results, Tryz.results27, go_sem]) rfl (HP.out Bt.nil e _ (.inl ⟨HG.out.1, HG.out.2, rfl⟩) (bt_nil_in _ _) bt_nil_ok (bt_nil_lo _) (belows H.out.2.2.1 H1.out.1))
end Go.Proofs.YthpjkikfadfgeaaGreat
namespace Go.Proofs.YthpjkikfadfgeaaGreat
open Go Go.RowKit

theorem times_keepS {w w' : World} {A : Option Addr} {l : List Tm} (h : Times w w.heap.size A l) (hb : Below w.heap.size w w') : Times w' w'.heap.size A l := (h.past hb (Nat.le_refl _)).wide hb.size
def CompS (s : Sp) (g : List Tm) (w : World) (x : Ending) (w' : World) : Prop :=
  ∃ (s' : Sp) (E : Int), x = .returned (.tuple #[s'.val, .int .i64 E]) ∧ ((¬ SpGood s.f s.L ∧ E = 8 ∧ s' = Sp.nil) ∨ (SpGood s.f s.L ∧ s'.L.map Lv.pl = s.L.map Lv.pl ∧ ((¬ FrontOk g ∧ E = 4 ∧ s'.f = s.f) ∨ (FrontOk g ∧ ¬ LaterF g s.f ∧ E = 1 ∧ s'.f = s.f) ∨ (FrontOk g ∧ LaterF g s.f ∧ E = 0 ∧ s'.f = g)))) ∧ SpIn w' w'.heap.size s' ∧ SpOk s' ∧ SpLo w.heap.size s' ∧ Below w.heap.size w w'
set_option maxRecDepth 100000 in
set_option maxHeartbeats 12800000 in
theorem compact_any (s : Sp) (A : Option Addr) (c : Nat) (g : List Tm) (w : World) (hs : SpIn w w.heap.size s) (ok : SpOk s) (hgt : Times w w.heap.size A g) (hgo : TsOk g c) (hw : wtS s.L ≤ 274877906944) :
    Calls Tryz.prog 20 #[s.val, .slice A g.length c] w (CompS s g w) := by
  obtain ⟨V, hV, hvb, hvs, hvo, hvz⟩ := sp_box2 w s
  have hin := hs.keep hvb
  have y1 := Lib.hid (scheck_any s V hin ok)
  have H := Lib.hid (And.intro hs (And.intro ok (And.intro hgt (And.intro hgo (And.intro hw (And.intro hvb (And.intro hvo hvz)))))))
  obtain ⟨d0, d1⟩ := own2 hvo
  have HP := Lib.hid (show ∀ x w' (s' : Sp) (E : Int), x = .returned (.tuple #[s'.val, .int .i64 E]) → ((¬ SpGood s.f s.L ∧ E = 8 ∧ s' = Sp.nil) ∨ (SpGood s.f s.L ∧ s'.L.map Lv.pl = s.L.map Lv.pl ∧ ((¬ FrontOk g ∧ E = 4 ∧ s'.f = s.f) ∨ (FrontOk g ∧ ¬ LaterF g s.f ∧ E = 1 ∧ s'.f = s.f) ∨ (FrontOk g ∧ LaterF g s.f ∧ E = 0 ∧ s'.f = g)))) → SpIn w' w'.heap.size s' → SpOk s' → SpLo w.heap.size s' → Below w.heap.size w w' → CompS s g w x w' from fun x w' s' E h1 h2 h3 h4 h5 h6 => ⟨s', E, h1, h2, h3, h4, h5, h6⟩)
  have hsv : s.val = .agg #[.slice s.sA s.f.length s.sc, .slice s.lA s.L.length s.lc] := rfl
  rw [hsv] at y1 ⊢
  clear hs ok hgt hgo hw hvb hvs hvo hvz hin
  go_enter Tryz.func20, Tryz.ntmps20
  go_upto_region 1 with fail
  rw [← hV]
  clear hV
  go_wp2_with fail
  refine y1.out.mono ?_
  rintro _ w1 ⟨n, rfl, hn, b1⟩
  have hv1 := H.out.2.2.2.2.2.2.1.past b1 H.out.2.2.2.2.2.2.1.inside
  have hz1 := H.out.2.2.2.2.2.2.2.past b1 H.out.2.2.2.2.2.2.2.inside
  have H1 := Lib.hid (And.intro hn (And.intro (H.out.2.2.2.2.2.1.trans (b1.mono H.out.2.2.2.2.2.1.size)) (And.intro hv1 (And.intro hz1 hz1.inside))))
  clear hn b1 d0 d1 y1
  by_cases h0 : n = 0
  case neg =>
    have t1 : (n != 0) = true := bne_iff_ne.2 h0
    have HN := Lib.hid (show ¬ SpGood s.f s.L ∧ n = 8 from by
      rcases H1.out.1 with ⟨_, h⟩ | h
      · exact absurd h h0
      · exact h)
    obtain ⟨z0, z1⟩ := own2 hz1
    have f0 := hz1.open_ 0
    have f1 := hz1.open_ 1
    have hX := (hz1.set_ 0 (.slice none 0 0)).set_ 1 (.slice none 0 0)
    obtain ⟨x0, x1⟩ := own2 hX
    have HB := Lib.hid (below_two H1.out.2.1 (Nat.le_succ _) (P := w.heap.size + 1) (.slice none 0 0) (.slice none 0 0))
    clear hv1 hz1 hX h0
    go_wp2_with fail
    exact bodyPost_ret (v := .tuple #[.agg #[.slice none 0 0, .slice none 0 0], .int .i64 n]) (by simp [results, Tryz.results20, go_sem, x0, x1]) rfl (HP.out _ _ Sp.nil n rfl (.inl ⟨HN.out.1, HN.out.2, rfl⟩) (sp_nil_in _ _) sp_nil_ok (sp_nil_lo _) HB.out)
  subst h0
  have hgood : SpGood s.f s.L := by
    rcases H1.out.1 with ⟨h, _⟩ | ⟨_, h⟩
    · exact h
    · exact absurd h (by decide)
  have hin1 := H.out.1.keep H1.out.2.1
  have y2 := Lib.hid (copyS_any s w1 hin1 H.out.2.1 hgood H.out.2.2.2.2.1)
  have HG := Lib.hid hgood
  obtain ⟨d0, d1⟩ := own2 hv1
  rw [hsv] at y2
  clear hv1 hz1 hgood hin1
  go_wp2_with fail
  refine y2.out.mono ?_
  rintro _ w2 ⟨s1, rfl, hc, b2⟩
  rw [show s1.val = .agg #[.slice s1.sA s1.f.length s1.sc, .slice s1.lA s1.L.length s1.lc] from rfl]
  obtain ⟨V3, hV3, b3, hs3, o3⟩ := spbox w2 s1
  have b23 := belows b2 b3
  have b03 := belows H1.out.2.1 b23
  have HC := Lib.hid (And.intro hc.f hc.L)
  have HL := Lib.hid (And.intro hc.in_ (And.intro hc.ok (And.intro hc.lo (And.intro b2.size b3))))
  have H3 := Lib.hid (And.intro b03 (And.intro (H1.out.2.2.1.past b23 H1.out.2.2.1.inside) (And.intro (H1.out.2.2.2.1.past b23 H1.out.2.2.2.1.inside) o3)))
  have hgt3 := times_keepS H.out.2.2.1 b03
  have y3 := Lib.hid (frontier_anyS A c g V3 hgt3 H.out.2.2.2.1)
  clear hc b2 b3 b23 b03 d0 d1 y2 hs3 o3 hgt3
  go_upto_region 5 with fail
  rw [← hV3]
  clear hV3
  go_wp2_with fail
  refine y3.out.mono ?_
  rintro _ w4 ⟨fb, rfl, hfb, b4⟩
  have H4 := Lib.hid (And.intro (belows H3.out.1 b4) (And.intro (H3.out.2.1.past b4 H3.out.2.1.inside) (And.intro (H3.out.2.2.1.past b4 H3.out.2.2.1.inside) (And.intro (H3.out.2.2.2.past b4 H3.out.2.2.2.inside) (belows HL.out.2.2.2.2 b4)))))
  have HFB := Lib.hid hfb
  clear b4 hfb y3
  cases fb with
  | false =>
    have oz := H4.out.2.2.1
    obtain ⟨z0, z1⟩ := own2 oz
    have f0 := oz.open_ 0
    have f1 := oz.open_ 1
    obtain ⟨g0, g1⟩ := own2 H4.out.2.2.2.1
    have hX := (oz.set_ 0 (.slice s1.sA s1.f.length s1.sc)).set_ 1 (.slice s1.lA s1.L.length s1.lc)
    obtain ⟨x0, x1⟩ := own2 hX
    have hP1 : w.heap.size + 1 < w1.heap.size := H1.out.2.2.2.2
    have HX := Lib.hid (And.intro (sp_kept ((HL.out.1.past H4.out.2.2.2.2 (Nat.le_refl _)).wide H4.out.2.2.2.2.size) (HL.out.2.2.1.mono hP1) (kept_two (P := w.heap.size + 1) (.slice s1.sA s1.f.length s1.sc) (.slice s1.lA s1.L.length s1.lc))) (And.intro (HL.out.2.2.1.mono H1.out.2.1.size) (below_two H4.out.1 (Nat.le_succ w.heap.size) (.slice s1.sA s1.f.length s1.sc) (.slice s1.lA s1.L.length s1.lc))))
    clear oz hX
    go_wp2_with fail
    exact bodyPost_ret (v := .tuple #[.agg #[.slice s1.sA s1.f.length s1.sc, .slice s1.lA s1.L.length s1.lc], .int .i64 4]) (by simp [results, Tryz.results20, go_sem, x0, x1]) rfl (HP.out _ _ s1 4 rfl (.inr ⟨HG.out, HC.out.2, .inl ⟨fun h => absurd (HFB.out.2 h) (by decide), rfl, HC.out.1⟩⟩) HX.out.1 HL.out.2.1 HX.out.2.1 HX.out.2.2)
  | true =>
    have hgt4 := times_keepS H.out.2.2.1 H4.out.1
    have y4 := Lib.hid (later_any A c g s.sA s.sc s.f w4 hgt4 (Nat.le_trans H.out.2.2.2.1.le H.out.2.2.2.1.c_) (H.out.1.keep H4.out.1).since (Nat.le_trans H.out.2.1.f.le H.out.2.1.f.c_))
    obtain ⟨d0, d1⟩ := own2 H4.out.2.1
    clear hgt4
    go_wp2_with fail
    refine y4.out.mono ?_
    rintro _ w5 ⟨lb, rfl, hlb, b5⟩
    have H5 := Lib.hid (And.intro (belows H4.out.1 b5) (And.intro (H4.out.2.2.1.past b5 H4.out.2.2.1.inside) (And.intro (H4.out.2.2.2.1.past b5 H4.out.2.2.2.1.inside) (belows H4.out.2.2.2.2 b5))))
    have HLB := Lib.hid hlb
    clear b5 hlb y4 d0 d1
    cases lb with
    | false =>
      have oz := H5.out.2.1
      obtain ⟨z0, z1⟩ := own2 oz
      have f0 := oz.open_ 0
      have f1 := oz.open_ 1
      obtain ⟨g0, g1⟩ := own2 H5.out.2.2.1
      have hX := (oz.set_ 0 (.slice s1.sA s1.f.length s1.sc)).set_ 1 (.slice s1.lA s1.L.length s1.lc)
      obtain ⟨x0, x1⟩ := own2 hX
      have hP1 : w.heap.size + 1 < w1.heap.size := H1.out.2.2.2.2
      have HX := Lib.hid (And.intro (sp_kept ((HL.out.1.past H5.out.2.2.2 (Nat.le_refl _)).wide H5.out.2.2.2.size) (HL.out.2.2.1.mono hP1) (kept_two (P := w.heap.size + 1) (.slice s1.sA s1.f.length s1.sc) (.slice s1.lA s1.L.length s1.lc))) (And.intro (HL.out.2.2.1.mono H1.out.2.1.size) (below_two H5.out.1 (Nat.le_succ w.heap.size) (.slice s1.sA s1.f.length s1.sc) (.slice s1.lA s1.L.length s1.lc))))
      clear oz hX
      go_wp2_with fail
      exact bodyPost_ret (v := .tuple #[.agg #[.slice s1.sA s1.f.length s1.sc, .slice s1.lA s1.L.length s1.lc], .int .i64 1]) (by simp [results, Tryz.results20, go_sem, x0, x1]) rfl (HP.out _ _ s1 1 rfl (.inr ⟨HG.out, HC.out.2, .inr (.inl ⟨HFB.out.1 (by first | trivial | rfl), fun h => absurd (HLB.out.2 h) (by decide), rfl, HC.out.1⟩)⟩) HX.out.1 HL.out.2.1 HX.out.2.1 HX.out.2.2)
    | true =>
      have hgn := H.out.2.2.2.1.n
      have y5 := Lib.hid (listT_times A c g w5 (times_keepS H.out.2.2.1 H5.out.1) (by omega))
      go_wp2_with fail
      refine y5.out.mono ?_
      rintro _ w6 ⟨A', rfl, ht6, hlo6, b6⟩
      have oz := H5.out.2.1.past b6 H5.out.2.1.inside
      have oq := H5.out.2.2.1.past b6 H5.out.2.2.1.inside
      have b26 := belows H5.out.2.2.2 b6
      have b06 := belows H5.out.1 b6
      have hq : w2.heap.size < w5.heap.size := H5.out.2.2.1.inside
      have hPQ : w.heap.size + 1 ≠ w2.heap.size := by have := H1.out.2.2.2.2; have := HL.out.2.2.2.1; omega
      have hP1 : w.heap.size + 1 < w1.heap.size := H1.out.2.2.2.2
      have hP2 := HL.out.2.2.2.1
      have hin7 : SpIn (w6.setCell ⟨w2.heap.size, 0, none⟩ (.slice A' g.length g.length)) w2.heap.size s1 := HL.out.1.past (b26.setCell (p := ⟨w2.heap.size, 0, none⟩) (Nat.le_refl _) _) (Nat.le_refl _)
      have hlo6' : LoT w5.heap.size A' := fun b o e => (hlo6 b o e).1
      have ht7 := times_kept ht6 (hlo6'.of (S := fun b => b = w2.heap.size) (fun b e => by omega)) (KeptK.set_ (S := fun b => b = w2.heap.size) (o := 0) (KeptK.refl w6 _) (.inl rfl) (.slice A' g.length g.length))
      have hsz : (w6.setCell ⟨w2.heap.size, 0, none⟩ (.slice A' g.length g.length)).heap.size = w6.heap.size := by simp
      have hspi : SpIn (w6.setCell ⟨w2.heap.size, 0, none⟩ (.slice A' g.length g.length)) (w6.setCell ⟨w2.heap.size, 0, none⟩ (.slice A' g.length g.length)).heap.size ⟨A', g.length, g, s1.lA, s1.lc, s1.L⟩ := ⟨ht7, (hin7.wide (by rw [hsz]; exact b26.size)).lev⟩
      have hlo7 : SpLo w1.heap.size ⟨A', g.length, g, s1.lA, s1.lc, s1.L⟩ := ⟨hlo6'.mono (by omega), HL.out.2.2.1.l, HL.out.2.2.1.each_⟩
      have hok7 : SpOk ⟨A', g.length, g, s1.lA, s1.lc, s1.L⟩ := ⟨⟨hgn, Nat.le_refl _, by show g.length ≤ maxLen; unfold maxLen; omega⟩, HL.out.2.1.n, HL.out.2.1.le, HL.out.2.1.c_, HL.out.2.1.each_⟩
      have oq7 := oq.set_ 0 (.slice A' g.length g.length)
      have oz7 := (KeptK.set_ (S := fun b => b = w2.heap.size) (o := 0) (KeptK.refl w6 _) (.inl rfl) (.slice A' g.length g.length)).own oz hPQ
      have fq := oq.open_ 0
      obtain ⟨k0, k1⟩ := own2 oq
      obtain ⟨g0, g1⟩ := own2 oq7
      obtain ⟨z0, z1⟩ := own2 oz7
      have f0 := oz7.open_ 0
      have f1 := oz7.open_ 1
      have hX := (oz7.set_ 0 (.slice A' g.length g.length)).set_ 1 (.slice s1.lA s1.L.length s1.lc)
      obtain ⟨x0, x1⟩ := own2 hX
      have HX := Lib.hid (And.intro (sp_kept hspi (hlo7.mono hP1) (kept_two (P := w.heap.size + 1) (.slice A' g.length g.length) (.slice s1.lA s1.L.length s1.lc))) (And.intro (hlo7.mono H1.out.2.1.size) (And.intro (below_two (b06.setCell (p := ⟨w2.heap.size, 0, none⟩) (by show w.heap.size ≤ w2.heap.size; omega) (.slice A' g.length g.length)) (Nat.le_succ w.heap.size) (.slice A' g.length g.length) (.slice s1.lA s1.L.length s1.lc)) hok7)))
      clear oz oq b26 b06 hq hPQ hin7 hlo6' ht7 hspi hlo7 hok7 oq7 oz7 hX ht6 hlo6 b6 hP2 hP1 y5
      go_wp2_with fail
      exact bodyPost_ret (v := .tuple #[.agg #[.slice A' g.length g.length, .slice s1.lA s1.L.length s1.lc], .int .i64 0]) (by simp [results, Tryz.results20, go_sem, x0, x1]) rfl (HP.out _ _ ⟨A', g.length, g, s1.lA, s1.lc, s1.L⟩ 0 rfl (.inr ⟨HG.out, HC.out.2, .inr (.inr ⟨HFB.out.1 (by first | trivial | rfl), HLB.out.1 (by first | trivial | rfl), rfl, rfl⟩)⟩) HX.out.1 HX.out.2.2.2 HX.out.2.1 HX.out.2.2.1)
end Go.Proofs.YthpjkikfadfgeaaGreat
namespace Go.Proofs.YthpjkikfadfgeaaGreat
open Go Go.RowKit

theorem cnt_busy (L : List Lv) : cntS L = L.length + busyN L := by
  induction L with
  | nil => rfl
  | cons l L ih =>
    rw [cntS_cons, busyN_cons, ih, List.length_cons]
    unfold cntL
    cases l.busy
    · simp; omega
    · simp; omega
theorem busy_take {L : List Lv} {k : Nat} {l : Lv} (h : L[k]? = some l) : busyN (L.take (k + 1)) = busyN (L.take k) + if l.busy = true then 1 else 0 := by
  rw [List.take_add_one, h, busyN_app]
  show _ + busyN [l] = _
  rw [busyN_cons]
  rfl
theorem parts_take {L : List Lv} {k : Nat} {l : Lv} (h : L[k]? = some l) : (partsS (L.take (k + 1))).length = (partsS (L.take k)).length + (flatR (partsR l)).length := by
  rw [List.take_add_one, h, partsS_app, List.length_append, partsR_flat]
  show _ + (partsS [l]).length = _
  rw [partsS_cons, List.length_append]
  rfl
theorem parts_take_le (L : List Lv) (k : Nat) : (partsS (L.take k)).length ≤ (partsS L).length := by
  have e : partsS L = partsS (L.take k) ++ partsS (L.drop k) := by rw [← partsS_app, List.take_append_drop]
  rw [e, List.length_append]
  omega
def SizeS (s : Sp) (w : World) (x : Ending) (w' : World) : Prop :=
  ∃ n k e : Int, x = .returned (.tuple #[.int .i64 n, .int .i64 k, .int .i64 e]) ∧ ((¬ SpGood s.f s.L ∧ n = 0 ∧ k = 0 ∧ e = 8) ∨ (SpGood s.f s.L ∧ n = (cntS s.L : Int) ∧ k = ((partsS s.L).length : Int) ∧ e = 0)) ∧ Below w.heap.size w w'
set_option maxRecDepth 100000 in
set_option maxHeartbeats 6400000 in
theorem size_any (s : Sp) (w : World) (hs : SpIn w w.heap.size s) (os : SpOk s) (hn : (partsS s.L).length ≤ 1099511627776) :
    Calls Tryz.prog 24 #[s.val] w (SizeS s w) := by
  obtain ⟨V, hV, hvb, hvs, hvo⟩ := spbox w s
  have hin := hs.keep hvb
  have y1 := Lib.hid (scheck_any s V hin os)
  have H := Lib.hid (And.intro hin (And.intro os (And.intro hvb hvo)))
  have hnL := os.n
  obtain ⟨d0, d1⟩ := own2 hvo
  rw [show s.val = .agg #[.slice s.sA s.f.length s.sc, .slice s.lA s.L.length s.lc] from rfl] at y1 ⊢
  have hX := Lib.hid (fun W (hb : Below V.heap.size V W) => own2 (hvo.past hb hvo.inside))
  have HP := Lib.hid (show ∀ (n k e : Int) w', ((¬ SpGood s.f s.L ∧ n = 0 ∧ k = 0 ∧ e = 8) ∨ (SpGood s.f s.L ∧ n = (cntS s.L : Int) ∧ k = ((partsS s.L).length : Int) ∧ e = 0)) → Below w.heap.size w w' → SizeS s w (.returned (.tuple #[.int .i64 n, .int .i64 k, .int .i64 e])) w' from fun n k e w' h1 h2 => ⟨n, k, e, rfl, h1, h2⟩)
  clear hs os hvb hvs hvo hin
  go_enter Tryz.func24, Tryz.ntmps24
  go_upto_region 1 with fail
  rw [← hV]
  clear hV
  go_wp2_with fail
  refine y1.out.mono ?_
  rintro _ w1 ⟨e, rfl, he, b1⟩
  have H1 := Lib.hid b1
  obtain ⟨d0, d1⟩ := hX.out w1 b1
  by_cases h0 : e = 0
  case neg =>
    have hg : ¬ SpGood s.f s.L ∧ e = 8 := by
      rcases he with ⟨_, h⟩ | h
      · exact absurd h h0
      · exact h
    have t1 : (e != 0) = true := bne_iff_ne.2 h0
    have HG := Lib.hid hg
    clear he b1 hg h0
    go_wp2_with fail
    exact bodyPost_ret (v := .tuple #[.int .i64 0, .int .i64 0, .int .i64 e]) (by simp [results, Tryz.results24, go_sem]) rfl (HP.out 0 0 e _ (.inl ⟨HG.out.1, rfl, rfl, HG.out.2⟩) (belows H.out.2.2.1 H1.out))
  have hg : SpGood s.f s.L := by
    rcases he with ⟨h, _⟩ | ⟨_, h⟩
    · exact h
    · omega
  have HG := Lib.hid hg
  have t1 : (e != 0) = false := by simp [h0]
  clear he b1 hg h0 y1
  go_wp2_with fail
  go_loopw [6, 7, 23] (fun n u i wr => ∃ k : Nat, i = .int .i64 (k : Int) ∧ k ≤ s.L.length ∧ n = .int .i64 ((s.L.length + busyN (s.L.take k) : Nat) : Int) ∧ u = .int .i64 ((partsS (s.L.take k)).length : Int) ∧ Below V.heap.size V wr)
    (fun _ _ i _ => s.L.length - (intOf i).toNat)
  case atStart => exact ⟨0, rfl, by omega, rfl, rfl, H1.out⟩
  case round =>
    obtain ⟨k, rfl, hk, rfl, rfl, hb⟩ := hrel
    obtain ⟨d0, d1⟩ := hX.out wr hb
    by_cases hlt : k < s.L.length
    · obtain ⟨l, hl⟩ : ∃ l, s.L[k]? = some l := ⟨_, List.getElem?_eq_getElem hlt⟩
      obtain ⟨b, o, hA, hB, hc⟩ := lies_lv H.out.1.lev.head (by omega)
      obtain ⟨c0, c1, c2, c3, c4, c5, c6, c7, c8, c9⟩ := lv_ten fun j u hj => (hb.cell (p := ⟨b, o + k * 10 + j, none⟩) hB).trans (hc k l hl j u hj)
      have hlm := List.mem_of_getElem? hl
      have hli := ((H.out.1.lev.each_ l hlm).past hb (Nat.le_refl _)).wide hb.size
      have hlo := H.out.2.1.each_ l hlm
      obtain ⟨V5, hV5, hb5, hs5, ho5⟩ := lvbox wr l
      obtain ⟨e0, e1, e2, e3, e4, e5, e6, e7, e8, e9⟩ := own10 ho5
      have u1 := Lib.hid (parts_anyS l s.f V5 (hli.keep hb5) hlo (HG.out.each l hlm) (HG.out.pos l hlm))
      rw [show l.val = .agg #[.int .i64 l.cls, .bool l.busy, .slice l.b.sA l.b.f.length l.b.sc, .slice l.b.uA l.b.l.length l.b.uc, .slice l.m.aA l.m.a.length l.m.ac, .slice l.m.bA l.m.b.length l.m.bc, .int .i64 l.m.i, .int .i64 l.m.j, .slice l.m.sA l.m.f.length l.m.sc, .slice l.m.oA l.m.o.length l.m.oc] from rfl] at u1
      have hbt := busy_take hl
      have hpt := parts_take hl
      have hple := parts_take_le s.L (k + 1)
      have hpp := partsR_pos l
      have hpl := partsR_len l
      have hbn : busyN (s.L.take k) ≤ 1048576 := by
        have := List.length_filter_le (fun l : Lv => l.busy) (s.L.take k)
        rw [List.length_take] at this
        unfold busyN
        omega
      have hpn : (partsS (s.L.take k)).length + (flatR (partsR l)).length ≤ 1099511627776 := by omega
      have HA := Lib.hid hA
      have q0 : (0 : Int) ≤ (k : Int) := by omega
      have q1 : (k : Int) < (s.L.length : Int) := by omega
      clear hlm hli hlo hl hc hple
      generalize (partsS (s.L.take k)).length = pk at *
      generalize busyN (s.L.take k) = bk at *
      cases hbu : l.busy
      · rw [hbu] at hV5 c1 e1 u1 hbt
        have HK := Lib.hid (And.intro hb (And.intro hb5 (And.intro hbt hpt)))
        clear hb hb5 hbu hbt hpt
        go_upto_region 8 with fail
        rw [← hV5]
        clear hV5
        go_wp2_with fail
        refine u1.out.mono ?_
        rintro _ w2 ⟨G, rfl, hul, hG, hb1⟩
        have hb2 := belows HK.out.1 (belows HK.out.2.1 hb1)
        have HU := Lib.hid (And.intro hul hb2)
        clear hul hG hb1 hb2
        clear u1 e0 e1 e2 e3 e4 e5 e6 e7 e8 e9 c0 c1 c2 c3 c4 c5 c6 c7 c8 c9 d0 d1
        go_wp2_with fail
        go_loopw [7, 34] (fun u i wi => ∃ j : Nat, i = .int .i64 (j : Int) ∧ j ≤ (partsR l).length ∧ u = .int .i64 ((pk + (flatR ((partsR l).take j)).length : Nat) : Int) ∧ Below w2.heap.size w2 wi)
          (fun _ i _ => (partsR l).length - (intOf i).toNat)
        case atStart => exact ⟨0, rfl, by omega, rfl, Below.refl _ _⟩
        case round =>
          obtain ⟨j, rfl, hj, rfl, hb2⟩ := hrel
          by_cases hlt2 : j < (partsR l).length
          · obtain ⟨r, hr⟩ : ∃ r, (partsR l)[j]? = some r := ⟨_, List.getElem?_eq_getElem hlt2⟩
            obtain ⟨g', o', e', hgi, hgc⟩ := HU.out.1.head (by omega)
            simp only [Option.some.injEq, Addr.mk.injEq, and_true] at e'
            obtain ⟨rfl, rfl⟩ := e'
            have z0 := (hb2.cell (p := ⟨G, 0 + j * 1 + 0, none⟩) hgi).trans (hgc j r hr 0 _ rfl)
            rw [show 0 + j * 1 + 0 = j by omega] at z0
            have hsn := flatR_one hr
            have hon := flatR_len hr (Nat.le_refl _)
            have q2 : (0 : Int) ≤ (j : Int) := by omega
            have q3 : (j : Int) < ((partsR l).length : Int) := by omega
            have H3 := Lib.hid (And.intro hb2 hsn)
            clear hr hb2 hsn hgi hgc
            generalize (flatR ((partsR l).take j)).length = fj at *
            go_wp2_with fail
            go_roundw
            case rel => exact ⟨j + 1, by go_num, by omega, by rw [H3.out.2]; go_num, H3.out.1⟩
            case measure => simp [intOf]; omega
          · have hj2 : j = (partsR l).length := by omega
            subst hj2
            rw [List.take_length]
            have H3 := Lib.hid (belows HU.out.2 hb2)
            clear hb2
            go_wp2_with fail
            clear hA
            rw [← HA.out]
            go_roundw
            case rel => exact ⟨k + 1, by go_num, by omega, by rw [HK.out.2.2.1]; go_num, by rw [HK.out.2.2.2], H3.out⟩
            case measure => simp [intOf]; omega
      · rw [hbu] at hV5 c1 e1 u1 hbt
        have HK := Lib.hid (And.intro hb (And.intro hb5 (And.intro hbt hpt)))
        clear hb hb5 hbu hbt hpt
        go_upto_region 8 with fail
        rw [← hV5]
        clear hV5
        go_wp2_with fail
        refine u1.out.mono ?_
        rintro _ w2 ⟨G, rfl, hul, hG, hb1⟩
        have hb2 := belows HK.out.1 (belows HK.out.2.1 hb1)
        have HU := Lib.hid (And.intro hul hb2)
        clear hul hG hb1 hb2
        clear u1 e0 e1 e2 e3 e4 e5 e6 e7 e8 e9 c0 c1 c2 c3 c4 c5 c6 c7 c8 c9 d0 d1
        go_wp2_with fail
        go_loopw [7, 34] (fun u i wi => ∃ j : Nat, i = .int .i64 (j : Int) ∧ j ≤ (partsR l).length ∧ u = .int .i64 ((pk + (flatR ((partsR l).take j)).length : Nat) : Int) ∧ Below w2.heap.size w2 wi)
          (fun _ i _ => (partsR l).length - (intOf i).toNat)
        case atStart => exact ⟨0, rfl, by omega, rfl, Below.refl _ _⟩
        case round =>
          obtain ⟨j, rfl, hj, rfl, hb2⟩ := hrel
          by_cases hlt2 : j < (partsR l).length
          · obtain ⟨r, hr⟩ : ∃ r, (partsR l)[j]? = some r := ⟨_, List.getElem?_eq_getElem hlt2⟩
            obtain ⟨g', o', e', hgi, hgc⟩ := HU.out.1.head (by omega)
            simp only [Option.some.injEq, Addr.mk.injEq, and_true] at e'
            obtain ⟨rfl, rfl⟩ := e'
            have z0 := (hb2.cell (p := ⟨G, 0 + j * 1 + 0, none⟩) hgi).trans (hgc j r hr 0 _ rfl)
            rw [show 0 + j * 1 + 0 = j by omega] at z0
            have hsn := flatR_one hr
            have hon := flatR_len hr (Nat.le_refl _)
            have q2 : (0 : Int) ≤ (j : Int) := by omega
            have q3 : (j : Int) < ((partsR l).length : Int) := by omega
            have H3 := Lib.hid (And.intro hb2 hsn)
            clear hr hb2 hsn hgi hgc
            generalize (flatR ((partsR l).take j)).length = fj at *
            go_wp2_with fail
            go_roundw
            case rel => exact ⟨j + 1, by go_num, by omega, by rw [H3.out.2]; go_num, H3.out.1⟩
            case measure => simp [intOf]; omega
          · have hj2 : j = (partsR l).length := by omega
            subst hj2
            rw [List.take_length]
            have H3 := Lib.hid (belows HU.out.2 hb2)
            clear hb2
            go_wp2_with fail
            clear hA
            rw [← HA.out]
            go_roundw
            case rel => exact ⟨k + 1, by go_num, by omega, by rw [HK.out.2.2.1]; go_num, by rw [HK.out.2.2.2], H3.out⟩
            case measure => simp [intOf]; omega
    · have hk2 : k = s.L.length := by omega
      subst hk2
      rw [List.take_length]
      have H2 := Lib.hid (belows H.out.2.2.1 hb)
      clear hb
      go_wp2_with fail
      exact bodyPost_ret (v := .tuple #[.int .i64 ((s.L.length + busyN s.L : Nat) : Int), .int .i64 ((partsS s.L).length : Int), .int .i64 0]) (by simp [results, Tryz.results24, go_sem]) rfl (HP.out _ _ 0 _ (.inr ⟨HG.out, by rw [cnt_busy], rfl, rfl⟩) H2.out)
end Go.Proofs.YthpjkikfadfgeaaGreat
namespace Go.Proofs.YthpjkikfadfgeaaGreat
open Go Go.RowKit

def bk (n : Int) : Uk := ⟨[], [vnum n], ⟨0, 0, 0⟩⟩
theorem bfront_nil : FrontOk [] := by
  have h1 := frontTo_len (sortT []) (sortT []).length (Nat.le_refl _)
  have h2 : (sortT []).length = 0 := by simp [sortT]
  exact ⟨by rfl, List.eq_nil_of_length_eq_zero (by unfold frontL; omega)⟩
end Go.Proofs.YthpjkikfadfgeaaGreat
namespace Go.Proofs.YthpjkikfadfgeaaGreat
open Go Go.RowKit

theorem cls_ge {n k : Nat} (h : k < clsN n) : 2 ^ k ≤ n := by
  rcases Nat.lt_or_ge n (2 ^ k) with h1 | h1
  · have := cls_pow h1; omega
  · exact h1
theorem lv_wt {f : List Tm} {l : Lv} (g : LvGood f l) (hp : 1 ≤ l.cls) : 1 ≤ wtL l ∧ (l.busy = true → 2 ≤ wtL l) ∧ (2 ≤ l.cls → 2 ≤ wtL l) ∧ (2 ≤ l.cls → l.busy = true → 4 ≤ wtL l) ∧ (3 ≤ l.cls → 4 ≤ wtL l) := by
  cases hb : l.busy
  · obtain ⟨_, _, h3, _⟩ := g.idle hb
    have e : wtL l = l.b.l.length := by unfold wtL; rw [hb]; simp
    rw [e]
    have g1 : 0 < clsN l.b.l.length → 1 ≤ l.b.l.length := fun h => by simpa using cls_ge h
    have g2 : 1 < clsN l.b.l.length → 2 ≤ l.b.l.length := fun h => by simpa using cls_ge h
    have g3 : 2 < clsN l.b.l.length → 4 ≤ l.b.l.length := fun h => by simpa using cls_ge h
    refine ⟨g1 (by omega), fun h => (by cases h), fun h => g2 (by omega), fun _ h => (by cases h), fun h => g3 (by omega)⟩
  · obtain ⟨_, _, _, h3, h4, _⟩ := g.busy hb
    have e : l.m.a.length + l.m.b.length ≤ wtL l := by unfold wtL; rw [if_pos hb]; omega
    have g1 : 0 < clsN l.m.a.length → 1 ≤ l.m.a.length := fun h => by simpa using cls_ge h
    have g2 : 1 < clsN l.m.a.length → 2 ≤ l.m.a.length := fun h => by simpa using cls_ge h
    have g3 : 2 < clsN l.m.a.length → 4 ≤ l.m.a.length := fun h => by simpa using cls_ge h
    have k1 : 0 < clsN l.m.b.length → 1 ≤ l.m.b.length := fun h => by simpa using cls_ge h
    have k2 : 1 < clsN l.m.b.length → 2 ≤ l.m.b.length := fun h => by simpa using cls_ge h
    have a1 := g1 (by omega)
    have b1 := k1 (by omega)
    refine ⟨by omega, fun _ => by omega, fun h => by have := g2 (by omega); omega, fun h _ => by have := g2 (by omega); have := k2 (by omega); omega, fun h => by have := g3 (by omega); omega⟩
theorem parts_wt (L : List Lv) : (partsS L).length ≤ wtS L := by
  induction L with
  | nil => exact Nat.zero_le _
  | cons l L ih =>
    have e : wtS (l :: L) = wtL l + wtS L := by unfold wtS; rw [List.map_cons, List.sum_cons]
    rw [partsS_cons, List.length_append, e]
    have : (partsL l).length ≤ wtL l := by
      unfold partsL wtL
      split
      · omega
      · exact Nat.le_refl _
    omega
theorem wt_cons' (l : Lv) (L : List Lv) : wtS (l :: L) = wtL l + wtS L := by unfold wtS; rw [List.map_cons, List.sum_cons]
theorem busy_wt {f : List Tm} : ∀ (L : List Lv), (∀ l ∈ L, 1 ≤ l.cls) → (∀ l ∈ L, LvGood f l) → 2 * busyN L ≤ wtS L
  | [], _, _ => Nat.zero_le _
  | l :: L, h1, h2 => by
    have ih := busy_wt L (fun x hx => h1 x (List.mem_cons_of_mem _ hx)) (fun x hx => h2 x (List.mem_cons_of_mem _ hx))
    have hw := lv_wt (h2 l List.mem_cons_self) (h1 l List.mem_cons_self)
    rw [busyN_cons, wt_cons']
    split
    · next hb => have := hw.2.1 hb; omega
    · omega
theorem one_level {f : List Tm} {L : List Lv} {l : Lv} (g : SpGood f L) (hw : wtS L ≤ 2) (hl : l ∈ L) (hb : l.busy = true) : L = [l] := by
  have h2 := (lv_wt (g.each l hl) (g.pos l hl)).2.1 hb
  match L, g, hw, hl with
  | x :: M, g, hw, hl =>
    rw [wt_cons'] at hw
    rcases List.mem_cons.1 hl with rfl | hm
    · match M, g, hw with
      | [], _, _ => rfl
      | y :: N, g, hw =>
        have := (lv_wt (g.each y (by simp)) (g.pos y (by simp))).1
        rw [wt_cons'] at hw
        omega
    · have h3 := wt_le hm
      have := (lv_wt (g.each x (by simp)) (g.pos x (by simp))).1
      omega
theorem cls_12 : clsN 1 = 1 ∧ clsN 2 = 2 := ⟨by rfl, by rfl⟩
theorem st_three {L : List Lv} (g : SpGood [] L) (hw : wtS L ≤ 3) (hp : 3 ≤ (partsS L).length) (fr : AllFr [] L) (has : HasB L 1) : ∃ x y, L = [x, y] ∧ x.cls = 2 ∧ x.busy = false ∧ y.busy = false := by
  match L, g, hw, hp, fr, has with
  | [], _, _, hp, _, _ => simp [partsS] at hp
  | [x], g, hw, hp, fr, has =>
    exfalso
    have hx := lv_wt (g.each x (by simp)) (g.pos x (by simp))
    rw [wt_cons'] at hw
    have e : (partsS [x]).length = (partsL x).length := by rw [partsS_cons, List.length_append]; rfl
    rw [e] at hp
    cases hb : x.busy
    · obtain ⟨l, hl, h⟩ := has
      obtain rfl : l = x := by simpa using hl
      have e2 : partsL l = l.b.l := by unfold partsL; rw [hb]; simp
      rw [e2] at hp
      rcases h with ⟨_, h⟩ | ⟨h, _⟩
      · omega
      · rw [hb] at h; cases h
    · obtain ⟨f1, f2, f3, _⟩ := fr x (by simp) hb
      have e2 : (partsL x).length = x.m.a.length + x.m.b.length := by unfold partsL partsM; rw [if_pos hb, f1, f2, f3]; simp
      obtain ⟨_, _, _, h3, h4, _⟩ := (g.each x (by simp)).busy hb
      have e3 : x.m.a.length + x.m.b.length ≤ wtL x := by unfold wtL; rw [if_pos hb]; omega
      have h5 : clsN x.m.a.length = clsN x.m.b.length := by omega
      have h6 := g.pos x (by simp)
      have z1 := (cls_zero (n := x.m.a.length)).2
      have z2 := (cls_zero (n := x.m.b.length)).2
      have hab : x.m.a.length = 1 ∧ x.m.b.length = 2 ∨ x.m.a.length = 2 ∧ x.m.b.length = 1 := by
        have : x.m.a.length ≠ 0 := fun h => by have := z1 h; omega
        have : x.m.b.length ≠ 0 := fun h => by have := z2 h; omega
        omega
      rcases hab with ⟨h7, h8⟩ | ⟨h7, h8⟩
      · rw [h7, h8, cls_12.1, cls_12.2] at h5; omega
      · rw [h7, h8, cls_12.1, cls_12.2] at h5; omega
  | [x, y], g, hw, hp, fr, has =>
    have hx := lv_wt (g.each x (by simp)) (g.pos x (by simp))
    have hy := lv_wt (g.each y (by simp)) (g.pos y (by simp))
    have hyp := g.pos y (by simp)
    have hf := (List.pairwise_cons.1 g.fall).1 y (by simp)
    rw [wt_cons', wt_cons'] at hw
    have h0 := hx.2.2.1 (by omega)
    have h1 := hy.1
    refine ⟨x, y, rfl, ?_, ?_, ?_⟩
    · by_cases h3 : 3 ≤ x.cls
      · have := hx.2.2.2.2 h3; omega
      · omega
    · cases hb : x.busy
      · rfl
      · have := hx.2.2.2.1 (by omega) hb; omega
    · cases hb : y.busy
      · rfl
      · have := hy.2.1 hb; omega
  | x :: y :: z :: M, g, hw, hp, fr, has =>
    exfalso
    have hzp := g.pos z (by simp)
    have hf := (List.pairwise_cons.1 g.fall).1 y (by simp)
    have hf2 := (List.pairwise_cons.1 (List.pairwise_cons.1 g.fall).2).1 z (by simp)
    have hx := (lv_wt (g.each x (by simp)) (g.pos x (by simp))).2.2.2.2 (by omega)
    rw [wt_cons'] at hw
    omega
def tk (k : Nat) : List Up := [lu 0 0 1 0, lu 0 1 1 0, lu 0 2 1 0].take k
theorem tk_E {k : Nat} (h : k ≤ 3) : consE [advL [] (tk k)] = 0 := by
  match k, h with
  | 0, _ => exact (by kernel_rfl : consE [advL [] (tk 0)] = 0)
  | 1, _ => exact (by kernel_rfl : consE [advL [] (tk 1)] = 0)
  | 2, _ => exact (by kernel_rfl : consE [advL [] (tk 2)] = 0)
  | 3, _ => exact (by kernel_rfl : consE [advL [] (tk 3)] = 0)
theorem tx_E {k : Nat} (G : Nat) (h : k < 3) : consE [advL [] [lu G (k : Int) 1 0]] = 0 ∧ (consL [advL [] [lu G (k : Int) 1 0]]).length = 1 ∧ (tk k ++ [lu G (k : Int) 1 0]).map Up.p = (tk (k + 1)).map Up.p ∧ chkUs (tk (k + 1)) = 0 := by
  match k, h with
  | 0, _ => exact ⟨by kernel_rfl, by kernel_rfl, by kernel_rfl, by kernel_rfl⟩
  | 1, _ => exact ⟨by kernel_rfl, by kernel_rfl, by kernel_rfl, by kernel_rfl⟩
  | 2, _ => exact ⟨by kernel_rfl, by kernel_rfl, by kernel_rfl, by kernel_rfl⟩
theorem tk_L : (consL [advL [] (tk 3)]).length = 3 := by kernel_rfl
def bk2 (n : Int) : Uk := ⟨[], [vnum n], ⟨2, 0, 0⟩⟩
theorem tk_L2 : consL [advL [⟨2, 0, 0⟩] (tk 3)] = [(bk2 0, (1 : Int)), (bk2 1, 1), (bk2 2, 1)] ∧ consE [advL [⟨2, 0, 0⟩] (tk 3)] = 0 := ⟨by kernel_rfl, by kernel_rfl⟩
structure St (k : Nat) (s : Sp) : Prop where
  f : s.f = []
  good : SpGood [] s.L
  eq : EqS [] (partsS s.L) (tk k)
  wt : wtS s.L ≤ k
  fr : AllFr [] s.L
  has : 0 < k → HasB s.L 1
theorem st_zero : St 0 Sp.nil := ⟨rfl, ⟨bfront_nil, fun _ h => (by cases h), List.Pairwise.nil, fun _ h => (by cases h)⟩, EqS.refl (by rfl), Nat.le_refl _, fun _ h => (by cases h), fun h => by omega⟩
theorem st_next {k G : Nat} {s s' : Sp} {E : Int} (h : St k s) (hk : k < 3) (hr : ¬ SpGood s.f s.L ∧ E = 8 ∧ s' = Sp.nil ∨ SpGood s.f s.L ∧ s'.f = s.f ∧ (E = 0 ∧ consE [advL s.f [lu G (k : Int) 1 0]] = 0 ∧ PutTo s.f s.L s'.L [lu G (k : Int) 1 0] 1 1 ∧ HasI s s' [lu G (k : Int) 1 0] ∨ E ≠ 0 ∧ s'.L.map Lv.pl = s.L.map Lv.pl ∧ WhyI s [lu G (k : Int) 1 0])) : E = 0 ∧ St (k + 1) s' := by
  have hb := busy_wt s.L h.good.pos h.good.each
  have hwt := h.wt
  have tx := tx_E G hk
  rcases hr with ⟨h1, _⟩ | ⟨_, h2, h3⟩
  · exact absurd (by rw [h.f]; exact h.good) h1
  rw [h.f] at h2 h3
  rcases h3 with ⟨e, _, hp, hi⟩ | ⟨_, _, hw⟩
  · refine ⟨e, h2, hp.good, hp.eq.trans ((h.eq.app (EqS.refl ?_)).trans (EqS.of_p ?_ tx.2.2.1)), ?_, ?_, fun _ => ?_⟩
    · exact (chkUs_parts hp.eq.r).2
    · rw [chkUs_p tx.2.2.1]; exact tx.2.2.2
    · have := hp.wt; omega
    · have := hi.2; rw [h.f] at this; exact this h.fr
    · have h5 := hi.1 (by omega)
      rw [h.f] at h5
      have h6 := h5 (fun h0 => by have := tx.2.1; rw [h0] at this; cases this)
      rw [tx.2.1] at h6
      exact h6
  · exfalso
    rcases hw with hw | ⟨hw, hl⟩
    · rw [h.f] at hw
      exact hw ((if_pos bfront_nil).trans tx.1)
    · obtain ⟨l, hl1, hl2, hl3⟩ := hl (by omega)
      obtain ⟨l0, hm, hpl⟩ := List.mem_map.1 hl1
      have e := LvEq.of hpl
      have hb0 : l0.busy = true := by rw [e.busy]; exact hl2
      have hL := one_level h.good (by omega) hm hb0
      have hfr := h.fr l0 hm hb0
      have hpp := (pl_parts (L := [l0]) (K := [l]) (by rw [List.map_cons, List.map_cons, hpl])).1
      have e1 : partsS [l0] = partsM l0.m := by rw [partsS_cons]; unfold partsL; rw [if_pos hb0]; exact List.append_nil _
      have e2 : partsS [l] = partsM l.m := by rw [partsS_cons]; unfold partsL; rw [if_pos hl2]; exact List.append_nil _
      rw [← e.f, hfr.2.2.2] at hl3
      have heq := h.eq
      rw [hL] at heq
      rw [e1] at hpp heq
      rw [e2] at hpp
      have h7 := ((EqS.of_p (f := []) heq.l hpp).cons (fun _ hx => (by cases hx))).2
      have h8 := (heq.cons (fun _ hx => (by cases hx))).2
      rw [← h7, h8, tk_E (by omega)] at hl3
      exact absurd hl3 (by decide)
end Go.Proofs.YthpjkikfadfgeaaGreat
namespace Go.Proofs.YthpjkikfadfgeaaGreat
open Go Go.RowKit

structure BoxS (P : Nat) (s : Sp) (w : World) : Prop where
  own : Own w P 49 s.cells
  in_ : SpIn w w.heap.size s
  ok : SpOk s
  lo : SpLo (P + 1) s
theorem BoxS.keep {P : Nat} {s : Sp} {w w' : World} (h : BoxS P s w) (hb : Below w.heap.size w w') : BoxS P s w' := ⟨h.own.past hb h.own.inside, h.in_.keep hb, h.ok, h.lo⟩
structure MadeS (X : List Up) (s : Sp) : Prop where
  f : s.f = []
  good : SpGood [] s.L
  eq : EqS [] (partsS s.L) X
  wt : wtS s.L ≤ X.length
theorem made_nil : MadeS [] Sp.nil := ⟨rfl, st_zero.good, EqS.refl (by rfl), Nat.le_refl _⟩
theorem made_next {X Y : List Up} {s s' : Sp} {E : Int} (h : MadeS X s) (hr : ¬ SpGood s.f s.L ∧ E = 8 ∧ s' = Sp.nil ∨ SpGood s.f s.L ∧ s'.f = s.f ∧ (E = 0 ∧ consE [advL s.f Y] = 0 ∧ PutTo s.f s.L s'.L Y 1 Y.length ∧ HasI s s' Y ∨ E ≠ 0 ∧ s'.L.map Lv.pl = s.L.map Lv.pl ∧ WhyI s Y)) (hE : E = 0) : MadeS (X ++ Y) s' := by
  rcases hr with ⟨h1, _⟩ | ⟨_, h2, h3⟩
  · exact absurd (by rw [h.f]; exact h.good) h1
  rw [h.f] at h2 h3
  rcases h3 with ⟨_, _, hp, _⟩ | ⟨h3, _⟩
  · refine ⟨h2, hp.good, hp.eq.trans (h.eq.app (EqS.refl (chkUs_parts hp.eq.r).2)), ?_⟩
    have h4 := hp.wt
    have h5 := h.wt
    rw [List.length_append]
    omega
  · exact absurd hE h3
theorem made_same {X : List Up} {s s' : Sp} {b b' : Bt} {e e' : Int} (h : MadeS X s) (h' : MadeS X s')
    (ha : ¬ SpGood s.f s.L ∧ e = 8 ∧ b = Bt.nil ∨ SpGood s.f s.L ∧ e = bldE s.f (partsS s.L) ∧ (e = 0 → b.l.map Up.p = consL [advL s.f (partsS s.L)]) ∧ (e ≠ 0 → b = Bt.nil))
    (hb : ¬ SpGood s'.f s'.L ∧ e' = 8 ∧ b' = Bt.nil ∨ SpGood s'.f s'.L ∧ e' = bldE s'.f (partsS s'.L) ∧ (e' = 0 → b'.l.map Up.p = consL [advL s'.f (partsS s'.L)]) ∧ (e' ≠ 0 → b' = Bt.nil)) : e = e' ∧ b.l.map Up.p = b'.l.map Up.p := by
  rcases ha with ⟨h1, _⟩ | ⟨_, h1, h2, h3⟩
  · exact absurd (by rw [h.f]; exact h.good) h1
  rcases hb with ⟨k1, _⟩ | ⟨_, k1, k2, k3⟩
  · exact absurd (by rw [h'.f]; exact h'.good) k1
  have q := (h.eq.trans h'.eq.symm).cons (fun _ hx => (by cases hx))
  have ee : e = e' := by
    rw [h1, k1, h.f, h'.f]
    unfold bldE
    rw [q.2]
  refine ⟨ee, ?_⟩
  by_cases h0 : e = 0
  · rw [h2 h0, k2 (ee ▸ h0), h.f, h'.f, q.1]
  · rw [h3 h0, k3 (ee ▸ h0)]
set_option maxRecDepth 100000 in
set_option maxHeartbeats 12800000 in
theorem together_walk (hlv : ∀ W, Calls Tryz.prog 22 #[] W fun e w' => e = .returned (.bool true) ∧ Below W.heap.size W w') (A : Option Addr) (c : Nat) (L : List (Rw Up)) (w : World) (hl : ULs w w.heap.size A L) (hok : ∀ s ∈ L, ∀ u ∈ s.l, UOk u) (hn : (flatR L).length ≤ 1048576) :
    Calls Tryz.prog 8 #[.slice A L.length c] w fun e w' => e = .returned (.bool true) ∧ Below w.heap.size w w' := by
  have y0 := Lib.hid (hlv w)
  have H := Lib.hid (And.intro hl (And.intro hok hn))
  clear hl hok hlv
  go_enter Tryz.func8, Tryz.ntmps8
  go_wp2_with fail
  refine y0.out.mono ?_
  rintro _ w1 ⟨rfl, b1⟩
  have H1 := Lib.hid b1
  clear b1 y0
  by_cases h20 : 20 < L.length
  · have t1 : decide ((L.length : Int) > 20) = true := decide_eq_true (by omega)
    have t1' : decide ((20 : Int) < (L.length : Int)) = true := decide_eq_true (by omega)
    go_wp2_with fail
    go_ret
    exact ⟨rfl, H1.out⟩
  have t1 : decide ((L.length : Int) > 20) = false := decide_eq_false (by omega)
  have t1' : decide ((20 : Int) < (L.length : Int)) = false := decide_eq_false (by omega)
  have y1 := Lib.hid (insert_sp Sp.nil A c L w1 (sp_nil_in _ _) sp_nil_ok (H.out.1.keep H1.out) H.out.2.1 (by show 0 + _ ≤ _; omega) (by omega))
  rw [show Sp.nil.val = .agg #[.slice none 0 0, .slice none 0 0] from rfl] at y1
  go_wp2_with fail
  refine y1.out.mono ?_
  rintro _ w2 ⟨sa, E1, rfl, r1, i1, o1, lo1, b2⟩
  obtain ⟨V2, hV2, bb2, hs2, ho2⟩ := spbox w2 sa
  have hma := made_next made_nil r1
  rw [List.nil_append] at hma
  have HA := Lib.hid (And.intro hma (And.intro (i1.keep bb2) (And.intro o1 (And.intro ho2 (belows H1.out (belows b2 bb2))))))
  rw [show sa.val = .agg #[.slice sa.sA sa.f.length sa.sc, .slice sa.lA sa.L.length sa.lc] from rfl]
  clear r1 i1 o1 lo1 b2 bb2 ho2 hma y1 hs2
  go_upto_region 6 with fail
  rw [← hV2]
  clear hV2
  obtain ⟨V3, hV3, bb3, hs3, ho3⟩ := spbox V2 Sp.nil
  have hP := ho3.inside
  have HB := Lib.hid (And.intro (⟨ho3, sp_nil_in _ _, sp_nil_ok, sp_nil_lo _⟩ : BoxS V2.heap.size Sp.nil V3) (And.intro (HA.out.2.1.keep bb3) (And.intro (HA.out.2.2.2.1.past bb3 HA.out.2.2.2.1.inside) (belows HA.out.2.2.2.2 bb3))))
  have hbase := Lib.hid bb3
  clear bb3 ho3 hs3
  dsimp only [Sp.nil, List.length_nil] at hV3
  go_upto_region 7 with fail
  rw [← hV3]
  clear hV3
  go_wp2_with fail
  go_loopw [6, 27] (fun v6 v27 wr => ∃ (k : Nat) (E2 : Int) (sb : Sp), v6 = .int .i64 E2 ∧ v27 = .int .i64 (k : Int) ∧ k ≤ L.length ∧ BoxS V2.heap.size sb wr ∧ (E2 = 0 → MadeS (flatR (L.take k)) sb) ∧ Below V2.heap.size V2 wr)
    (fun _ i _ => L.length - (intOf i).toNat)
  case atStart => exact ⟨0, 0, Sp.nil, rfl, rfl, by omega, HB.out.1, fun _ => made_nil, hbase.out⟩
  case round =>
    obtain ⟨k, E2, sb, rfl, rfl, hk, hbx, hmd, hb⟩ := hrel
    have hfl := H.out.2.2
    by_cases hlt : k < L.length
    · have hx : L[k]? = some L[k] := List.getElem?_eq_getElem hlt
      have hlw := (H.out.1.keep HA.out.2.2.2.2).past hb (Nat.le_refl _)
      obtain ⟨b, o, rfl, hB, hc, hv⟩ := hlw.at_ hx
      have hvw := hv.wide hb.size
      have hon := flatR_len hx (Nat.le_refl _)
      have htk := flatR_take hx
      have hus := H.out.2.1 L[k] (List.getElem_mem hlt)
      generalize L[k] = s at *
      by_cases h0 : E2 = 0
      · have t2 : (E2 == 0) = true := by rw [h0]; rfl
        have hm := hmd h0
        obtain ⟨V4, hV4, bb4, hul⟩ := one_list _ s.A s.c s.l hvw
        have y2 := Lib.hid (insert_sp sb (some ⟨_, 0, none⟩) 1 [⟨s.A, s.c, s.l⟩] V4 (hbx.in_.keep bb4) hbx.ok hul (fun r hr => by rw [List.mem_singleton.1 hr]; exact hus) (by have := hm.wt; simp [flatR]; omega) (by simp))
        rw [show sb.val = .agg #[.slice sb.sA sb.f.length sb.sc, .slice sb.lA sb.L.length sb.lc] from rfl, show flatR [(⟨s.A, s.c, s.l⟩ : Rw Up)] = s.l from List.append_nil _] at y2
        obtain ⟨z0, z1⟩ := own2 hbx.own
        have HK := Lib.hid (And.intro hbx (And.intro hm (And.intro hb (And.intro bb4 htk))))
        have hP4 : V2.heap.size < V4.heap.size := Nat.lt_of_lt_of_le hbx.own.inside bb4.size
        clear hbx hmd hm hb bb4 htk hv hvw hus hul hlw h0
        go_wp2_with fail
        rw [← hV4]
        clear hV4
        refine y2.out.mono ?_
        rintro _ w5 ⟨s', E', rfl, r5, i5, o5, lo5, b5⟩
        have b45 := belows HK.out.2.2.2.1 b5
        have oz := HK.out.1.own.past b45 HK.out.1.own.inside
        obtain ⟨z0, z1⟩ := own2 oz
        have f0 := oz.open_ 0
        have f1 := oz.open_ 1
        have hX := (oz.set_ 0 (.slice s'.sA s'.f.length s'.sc)).set_ 1 (.slice s'.lA s'.L.length s'.lc)
        have HX := Lib.hid (And.intro (⟨hX, sp_kept i5 (lo5.mono hP4) (kept_two (P := V2.heap.size) (.slice s'.sA s'.f.length s'.sc) (.slice s'.lA s'.L.length s'.lc)), o5, lo5.mono hP4⟩ : BoxS V2.heap.size s' _) (And.intro (below_two (belows HK.out.2.2.1 b45) (Nat.le_refl _) (P := V2.heap.size) (.slice s'.sA s'.f.length s'.sc) (.slice s'.lA s'.L.length s'.lc)) (fun h : E' = 0 => made_next HK.out.2.1 r5 h)))
        rw [show s'.val = .agg #[.slice s'.sA s'.f.length s'.sc, .slice s'.lA s'.L.length s'.lc] from rfl]
        clear r5 i5 o5 lo5 b5 b45 oz hX y2
        go_wp2_with fail
        go_roundw
        case rel => exact ⟨k + 1, E', s', rfl, by go_num, by omega, HX.out.1, fun h => by rw [HK.out.2.2.2.2]; exact HX.out.2.2 h, HX.out.2.1⟩
        case measure => simp [intOf]; omega
      · have t2 : (E2 == 0) = false := beq_eq_false_iff_ne.2 h0
        have HK := Lib.hid (And.intro hbx (And.intro h0 hb))
        clear hbx hmd hb htk hv hvw hus hlw h0
        go_wp2_with fail
        go_roundw
        case rel => exact ⟨k + 1, E2, sb, rfl, by go_num, by omega, HK.out.1, fun h => absurd h HK.out.2.1, HK.out.2.2⟩
        case measure => simp [intOf]; omega
    · have hk2 : k = L.length := by omega
      subst hk2
      rw [List.take_length] at hmd
      have hwl := (HA.out.2.2.2.2).trans (hb.mono HA.out.2.2.2.2.size)
      by_cases hE1 : E1 = 0
      · have t2 : (E1 != 0) = false := by rw [hE1]; rfl
        by_cases hE2 : E2 = 0
        · have t3 : (E2 != 0) = false := by rw [hE2]; rfl
          have hma := HA.out.1 hE1
          have hmb := hmd hE2
          have p1 := parts_wt sa.L
          have p2 := parts_wt sb.L
          have q1 := hma.wt
          have q2 := hmb.wt
          obtain ⟨d0, d1⟩ := own2 (HA.out.2.2.2.1.past hb HA.out.2.2.2.1.inside)
          have y3 := Lib.hid (all_any sa _ ((HA.out.2.1.past hb (Nat.le_refl _)).wide hb.size) HA.out.2.2.1 (by omega))
          rw [show sa.val = .agg #[.slice sa.sA sa.f.length sa.sc, .slice sa.lA sa.L.length sa.lc] from rfl] at y3
          have HM := Lib.hid (And.intro hma (And.intro hmb (And.intro hbx hwl)))
          clear hma hmb hbx hwl hmd hb hE1 hE2
          go_wp2_with fail
          refine y3.out.mono ?_
          rintro _ w6 ⟨ba, ea, rfl, ra, ia, oa, _, b6⟩
          have hbx6 := HM.out.2.2.1.keep b6
          obtain ⟨e0, e1⟩ := own2 hbx6.own
          have y4 := Lib.hid (all_any sb _ hbx6.in_ hbx6.ok (by omega))
          rw [show sb.val = .agg #[.slice sb.sA sb.f.length sb.sc, .slice sb.lA sb.L.length sb.lc] from rfl] at y4
          have H6 := Lib.hid (And.intro ra (And.intro ia (And.intro oa b6)))
          clear ra ia oa b6 hbx6 y3 d0 d1
          go_wp2_with fail
          refine y4.out.mono ?_
          rintro _ w7 ⟨bb, eb, rfl, rb, ib, ob, _, b7⟩
          obtain ⟨rfl, hpp⟩ := made_same HM.out.1 HM.out.2.1 H6.out.1 rb
          have y5 := Lib.hid (sameU_any ba.uA bb.uA ba.uc bb.uc ba.l bb.l w7 (H6.out.2.1.keep b7).ups ib.ups H6.out.2.2.1.l.ok ob.l.ok H6.out.2.2.1.l.n ob.l.n)
          have H7 := Lib.hid (And.intro hpp (belows (belows HM.out.2.2.2 H6.out.2.2.2) b7))
          clear rb ib ob b7 hpp y4 e0 e1
          go_wp2_with fail
          refine y5.out.mono ?_
          rintro _ w8 ⟨bs, rfl, hbs, b8⟩
          obtain rfl : bs = true := hbs.2 H7.out.1
          have H8 := Lib.hid (belows H7.out.2 b8)
          clear b8 hbs y5
          go_wp2_with fail
          go_ret
          exact ⟨rfl, H8.out⟩
        · have t3 : (E2 != 0) = true := bne_iff_ne.2 hE2
          have HW := Lib.hid hwl
          clear hbx hwl hmd hb hE1 hE2
          go_wp2_with fail
          go_ret
          exact ⟨rfl, HW.out⟩
      · have t2 : (E1 != 0) = true := bne_iff_ne.2 hE1
        have HW := Lib.hid hwl
        clear hbx hwl hmd hb hE1
        go_wp2_with fail
        go_ret
        exact ⟨rfl, HW.out⟩
end Go.Proofs.YthpjkikfadfgeaaGreat
namespace Go.Proofs.YthpjkikfadfgeaaGreat
open Go Go.RowKit

theorem sbox_one (w : World) (G : Nat) (n d : Int) (h : Vals w w.heap.size (some ⟨G, 0, none⟩) [vnum n]) :
    ∃ V, V = w.alloc (.cells #[.slice none 0 0, .slice (some ⟨G, 0, none⟩) 1 1, .int .u64 0, .int .u64 0, .int .u64 0, .int .i64 d] 38) ∧ Below w.heap.size w V ∧ Ups V V.heap.size (some ⟨w.heap.size, 0, none⟩) [lu G n d 0] := by
  obtain ⟨W, e1, s1, b1, o1⟩ := boxd w [.slice none 0 0, .slice (some ⟨G, 0, none⟩) 1 1, .int .u64 0, .int .u64 0, .int .u64 0, .int .i64 d] 38
  refine ⟨W, e1, b1, ups_own (t := 38) (l := [lu G n d 0]) o1 fun u hu => ?_⟩
  obtain rfl : u = lu G n d 0 := by simpa using hu
  exact lu_in (vals_keep h b1)
def OneS (n : Int) (w : World) (x : Ending) (w' : World) : Prop := ∃ G H, x = .returned (.slice (some ⟨H, 0, none⟩) 1 1) ∧ Ups w' w'.heap.size (some ⟨H, 0, none⟩) [lu G n 1 0] ∧ Below w.heap.size w w'
set_option maxRecDepth 100000 in
set_option maxHeartbeats 1600000 in
theorem sone_any (n : Int) (w : World) : Calls Tryz.prog 58 #[.int .i64 n] w (OneS n w) := by
  have hv := vals_num w n
  obtain ⟨V, hV, hb, hu⟩ := sbox_one _ w.heap.size n 1 hv
  simp only [World.size_alloc] at hu
  have HV := Lib.hid (And.intro hu (((Below.refl w.heap.size w).alloc (Nat.le_refl _) (.cells #[.bool false, .int .i64 n, .string ⟨#[]⟩] 40)).trans (hb.mono (by simp))))
  clear hv hb hu
  go_enter Tryz.func58, Tryz.ntmps58
  go_wp2_with fail
  go_ret
  dsimp only
  rw [← hV]
  exact ⟨_, _, rfl, HV.out.1, HV.out.2⟩
def Bw (V W : World) : Prop := Below V.heap.size V W
theorem Bw.self (V : World) : Bw V V := Below.refl _ _
theorem Bw.drew {V W : World} (h : Bw V W) : Bw V W.drew := Below.drew h
theorem Bw.more {V W : World} (h : Bw V W) (o : Obj) : Bw V (W.alloc o) := Below.alloc h h.size o
theorem Bw.call {V X Y : World} (h : Bw V X) (b : Below X.heap.size X Y) : Bw V Y := belows h b
theorem Bw.set {V W : World} (h : Bw V W) {Q o : Nat} (hQ : V.heap.size ≤ Q) (x : Value) : Bw V (W.setCell ⟨Q, o, none⟩ x) := h.setCell (p := ⟨Q, o, none⟩) hQ x
theorem ul_more {X : World} {A : Option Addr} {L : List (Rw Up)} (h : ULs X X.heap.size A L) (o : Obj) : ULs (X.alloc o) (X.alloc o).heap.size A L := h.keep ((Below.refl _ _).alloc (Nat.le_refl _) o)
theorem ul_one {w1 Y : World} {Hh G k : Nat} (hu : Ups w1 w1.heap.size (some ⟨Hh, 0, none⟩) [lu G (k : Int) 1 0]) (hY : Bw w1 Y) : ULs (Y.alloc (.cells #[.slice (some ⟨Hh, 0, none⟩) 1 1] 22)) (Y.alloc (.cells #[.slice (some ⟨Hh, 0, none⟩) 1 1] 22)).heap.size (some ⟨Y.heap.size, 0, none⟩) [⟨some ⟨Hh, 0, none⟩, 1, [lu G (k : Int) 1 0]⟩] := by
  obtain ⟨V, hV, _, h⟩ := one_list Y (some ⟨Hh, 0, none⟩) 1 [lu G (k : Int) 1 0] (hu.keep hY)
  rw [show V = Y.alloc (.cells #[.slice (some ⟨Hh, 0, none⟩) 1 1] 22) from hV] at h
  exact h
structure InLv (P : Nat) (k : Nat) (s : Sp) (w : World) : Prop where
  box : BoxS P s w
  st : St k s
theorem lu_okS {G k : Nat} (h : k < 3) : UOk (lu G (k : Int) 1 0) := lu_ok (by omega) (by omega)
theorem ins_lv {k G H P B : Nat} {s : Sp} {X : World} (h : InLv P k s X) (hk : k < 3) (hu : ULs X X.heap.size (some ⟨B, 0, none⟩) [⟨some ⟨H, 0, none⟩, 1, [lu G (k : Int) 1 0]⟩]) :
    Calls Tryz.prog 16 #[.agg #[.slice s.sA s.f.length s.sc, .slice s.lA s.L.length s.lc], .slice (some ⟨B, 0, none⟩) 1 1] X fun x w' => ∃ s', x = .returned (.tuple #[.agg #[.slice s'.sA s'.f.length s'.sc, .slice s'.lA s'.L.length s'.lc], .int .i64 0]) ∧ St (k + 1) s' ∧ SpIn w' w'.heap.size s' ∧ SpOk s' ∧ SpLo X.heap.size s' ∧ Below X.heap.size X w' := by
  have hwt := h.st.wt
  have := insert_sp s (some ⟨B, 0, none⟩) 1 [⟨some ⟨H, 0, none⟩, 1, [lu G (k : Int) 1 0]⟩] X h.box.in_ h.box.ok hu (fun r hr u hu => by
    rw [List.mem_singleton.1 hr] at hu
    rw [List.mem_singleton.1 hu]
    exact lu_okS hk) (by simp [flatR]; omega) (by simp)
  refine this.mono fun x w' ⟨s', E, h1, h2, h3, h4, h5, h6⟩ => ?_
  obtain ⟨rfl, hst⟩ := st_next h.st hk h2
  exact ⟨s', h1, hst, h3, h4, h5, h6⟩
theorem mid_new {w wr w2 : World} {k n : Nat} {s s' : Sp} (hin : InLv w.heap.size k s wr) (hb : Below w.heap.size w wr) (hb2 : Bw wr w2) (st2 : St (k + 1) s') (i2 : SpIn w2 w2.heap.size s') (o2 : SpOk s') (lo2 : SpLo n s') (hn : wr.heap.size ≤ n) :
    ∃ (Q : Nat) (s'' : Sp), Value.pointer (some ⟨w2.heap.size, 0, none⟩) = .pointer (some ⟨Q, 0, none⟩) ∧ Value.int .i64 0 = .int .i64 0 ∧ St (k + 1) s'' ∧ SpIn (w2.alloc (.cells #[.slice s'.sA s'.f.length s'.sc, .slice s'.lA s'.L.length s'.lc] 49)) (w2.alloc (.cells #[.slice s'.sA s'.f.length s'.sc, .slice s'.lA s'.L.length s'.lc] 49)).heap.size s'' ∧ SpOk s'' ∧ SpLo (w.heap.size + 1) s'' ∧ Own (w2.alloc (.cells #[.slice s'.sA s'.f.length s'.sc, .slice s'.lA s'.L.length s'.lc] 49)) Q 49 s''.cells ∧ Own (w2.alloc (.cells #[.slice s'.sA s'.f.length s'.sc, .slice s'.lA s'.L.length s'.lc] 49)) w.heap.size 49 s.cells ∧ Below w.heap.size w (w2.alloc (.cells #[.slice s'.sA s'.f.length s'.sc, .slice s'.lA s'.L.length s'.lc] 49)) := by
  have hP := hin.box.own.inside
  exact ⟨w2.heap.size, s', rfl, rfl, st2, i2.keep ((Below.refl _ _).alloc (Nat.le_refl _) _), o2, lo2.mono (by omega), Own.made w2 _ s'.cells, hin.box.own.past (hb2.more _) hP, belows hb (hb2.more _)⟩
theorem mid_set {w wr w2 : World} {k n Q : Nat} {s s' : Sp} (hin : InLv w.heap.size k s wr) (hb : Below w.heap.size w wr) (hb2 : Bw wr w2) (st2 : St (k + 1) s') (i2 : SpIn w2 w2.heap.size s') (o2 : SpOk s') (lo2 : SpLo n s') (hQ : wr.heap.size ≤ Q) (hn : Q + 1 ≤ n) (oz : Own w2 Q 49 [.slice none 0 0, .slice none 0 0]) :
    ∃ (Q' : Nat) (s'' : Sp), Value.pointer (some ⟨Q, 0, none⟩) = .pointer (some ⟨Q', 0, none⟩) ∧ Value.int .i64 0 = .int .i64 0 ∧ St (k + 1) s'' ∧ SpIn ((w2.setCell ⟨Q, 0, none⟩ (.slice s'.sA s'.f.length s'.sc)).setCell ⟨Q, 1, none⟩ (.slice s'.lA s'.L.length s'.lc)) ((w2.setCell ⟨Q, 0, none⟩ (.slice s'.sA s'.f.length s'.sc)).setCell ⟨Q, 1, none⟩ (.slice s'.lA s'.L.length s'.lc)).heap.size s'' ∧ SpOk s'' ∧ SpLo (w.heap.size + 1) s'' ∧ Own ((w2.setCell ⟨Q, 0, none⟩ (.slice s'.sA s'.f.length s'.sc)).setCell ⟨Q, 1, none⟩ (.slice s'.lA s'.L.length s'.lc)) Q' 49 s''.cells ∧ Own ((w2.setCell ⟨Q, 0, none⟩ (.slice s'.sA s'.f.length s'.sc)).setCell ⟨Q, 1, none⟩ (.slice s'.lA s'.L.length s'.lc)) w.heap.size 49 s.cells ∧ Below w.heap.size w ((w2.setCell ⟨Q, 0, none⟩ (.slice s'.sA s'.f.length s'.sc)).setCell ⟨Q, 1, none⟩ (.slice s'.lA s'.L.length s'.lc)) := by
  have hP := hin.box.own.inside
  have hb3 : Bw wr ((w2.setCell ⟨Q, 0, none⟩ (.slice s'.sA s'.f.length s'.sc)).setCell ⟨Q, 1, none⟩ (.slice s'.lA s'.L.length s'.lc)) := (hb2.set hQ _).set hQ _
  exact ⟨Q, s', rfl, rfl, st2, sp_kept i2 (lo2.mono hn) (kept_two _ _), o2, lo2.mono (by omega), (oz.set_ 0 _).set_ 1 _, hin.box.own.past hb3 hP, belows hb hb3⟩
theorem good_later {f g : List Tm} {L : List Lv} (h : SpGood f L) (hg : FrontOk g) (hl : LaterF g f) : SpGood g L :=
  ⟨hg, h.pos, h.fall, fun l hm => ⟨fun hb => by
    obtain ⟨h1, h2, h3, h4, h5, h6, h7⟩ := (h.each l hm).busy hb
    exact ⟨h1, h2, h3, h4, h5, later_trans hl h6, h7⟩, fun hb => by
    obtain ⟨h1, h2, h3, h4⟩ := (h.each l hm).idle hb
    exact ⟨h1, h2, h3, later_trans hl h4⟩⟩⟩
theorem front_2 : FrontOk [⟨2, 0, 0⟩] := ⟨by kernel_rfl, by kernel_rfl⟩
theorem st_end {s : Sp} (h : St 3 s) : (∃ x y, s.L = [x, y] ∧ x.cls = 2) ∧ cntS s.L = 2 ∧ (partsS s.L).length = 3 ∧ (consL [advL [] (partsS s.L)]).length = 3 ∧ bldE [] (partsS s.L) = 0 ∧ wtS s.L ≤ 3 := by
  have hc := h.eq.cons (fun _ hx => (by cases hx))
  have h3 : (consL [advL [] (partsS s.L)]).length = 3 := by rw [hc.1]; exact tk_L
  have h4 := consL_len [advL [] (partsS s.L)]
  simp only [List.flatten_cons, List.flatten_nil, List.append_nil] at h4
  have h5 : (advL [] (partsS s.L)).length = (partsS s.L).length := List.length_map ..
  have h6 := parts_wt s.L
  have h7 := h.wt
  obtain ⟨x, y, e, k1, k2, k3⟩ := st_three h.good h.wt (by omega) h.fr (h.has (by omega))
  refine ⟨⟨x, y, e, k1⟩, ?_, by omega, h3, ?_, h.wt⟩
  · rw [cnt_busy, e, busyN_cons, busyN_cons, k2, k3]; rfl
  · exact (if_pos bfront_nil).trans (hc.2.trans (tk_E (Nat.le_refl 3)))
theorem comp_2 {s c : Sp} {E : Int} (h : St 3 s) (hr : (¬ SpGood s.f s.L ∧ E = 8 ∧ c = Sp.nil) ∨ (SpGood s.f s.L ∧ c.L.map Lv.pl = s.L.map Lv.pl ∧ ((¬ FrontOk [⟨2, 0, 0⟩] ∧ E = 4 ∧ c.f = s.f) ∨ (FrontOk [⟨2, 0, 0⟩] ∧ ¬ LaterF [⟨2, 0, 0⟩] s.f ∧ E = 1 ∧ c.f = s.f) ∨ (FrontOk [⟨2, 0, 0⟩] ∧ LaterF [⟨2, 0, 0⟩] s.f ∧ E = 0 ∧ c.f = [⟨2, 0, 0⟩])))) :
    E = 0 ∧ c.f = [⟨2, 0, 0⟩] ∧ SpGood [⟨2, 0, 0⟩] c.L ∧ consL [advL [⟨2, 0, 0⟩] (partsS c.L)] = [(bk2 0, (1 : Int)), (bk2 1, 1), (bk2 2, 1)] ∧ bldE [⟨2, 0, 0⟩] (partsS c.L) = 0 ∧ wtS c.L ≤ 3 := by
  rcases hr with ⟨h1, _⟩ | ⟨_, hpl, h2⟩
  · exact absurd (by rw [h.f]; exact h.good) h1
  have hlf : LaterF [⟨2, 0, 0⟩] s.f := .inl h.f
  rcases h2 with ⟨h1, _⟩ | ⟨_, h1, _⟩ | ⟨_, _, hE, hf⟩
  · exact absurd front_2 h1
  · exact absurd hlf h1
  have hpp := pl_parts hpl
  have hg := pl_good hpl.symm (good_later h.good front_2 (.inl rfl))
  have he : EqS [⟨2, 0, 0⟩] (partsS c.L) (tk 3) := (EqS.of_p hg.chk hpp.1).trans (h.eq.later (fun _ hx => (by cases hx)) (.inl rfl))
  have hc := he.cons front_2.right
  exact ⟨hE, hf, hg, hc.1.trans tk_L2.1, (if_pos front_2).trans (hc.2.trans tk_L2.2), by rw [hpp.2.2.1]; exact h.wt⟩
set_option maxRecDepth 100000 in
set_option maxHeartbeats 12800000 in
theorem slives_true (w : World) : Calls Tryz.prog 22 #[] w fun e w' => e = .returned (.bool true) ∧ Below w.heap.size w w' := by
  have y1 := fun n W => Lib.hid (sone_any n W)
  obtain ⟨V, hV, bV, hsV, oV⟩ := spbox w Sp.nil
  have H := Lib.hid (And.intro (⟨⟨oV, sp_nil_in _ _, sp_nil_ok, sp_nil_lo _⟩, st_zero⟩ : InLv w.heap.size 0 Sp.nil V) bV)
  dsimp only [Sp.nil, List.length_nil] at hV
  clear bV hsV oV
  go_enter Tryz.func22, Tryz.ntmps22
  go_upto_region 2 with fail
  rw [← hV]
  clear hV
  go_wp2_with fail
  go_loopw [2] (fun v wr => ∃ (k : Nat) (s : Sp), v = .int .i64 (k : Int) ∧ k ≤ 3 ∧ InLv w.heap.size k s wr ∧ Below w.heap.size w wr)
    (fun v _ => 3 - (intOf v).toNat)
  case atStart => exact ⟨0, Sp.nil, rfl, by omega, H.out.1, H.out.2⟩
  case round =>
    obtain ⟨k, s, rfl, hk, hin, hb⟩ := hrel
    by_cases hlt : k < 3
    · obtain ⟨d0, d1⟩ := own2 hin.box.own
      go_upto_region 5 with fail
      go_cut [3, 4] (fun s3 s4 wx => ∃ (Q : Nat) (s' : Sp), s3 = .pointer (some ⟨Q, 0, none⟩) ∧ s4 = .int .i64 0 ∧ St (k + 1) s' ∧ SpIn wx wx.heap.size s' ∧ SpOk s' ∧ SpLo (w.heap.size + 1) s' ∧ Own wx Q 49 s'.cells ∧ Own wx w.heap.size 49 s.cells ∧ Below w.heap.size w wx)
      case first =>
        have HS := Lib.hid (fun W (h : Bw _ W) => own2 (hin.box.own.past h hin.box.own.inside))
        have hself := Bw.self wr
        have hinX := Lib.hid (fun X (h : Bw wr X) => (⟨hin.box.keep h, hin.st⟩ : InLv w.heap.size k s X))
        have hPr := hin.box.own.inside
        have HI := Lib.hid hin
        have HB := Lib.hid hb
        clear hin
        go_region_held3 (fun w' => Bw wr w' ∧ (w'.cell? ⟨w.heap.size, 0, none⟩ = some (.slice s.sA s.f.length s.sc) ∧ w'.cell? ⟨w.heap.size, 1, none⟩ = some (.slice s.lA s.L.length s.lc)))
          ((refine (fun h => And.intro h (HS.out _ h)) ?_; repeat (first | with_reducible exact hb2 | with_reducible exact hb1 | with_reducible exact hself | with_reducible refine Bw.set ?_ (by first | exact Nat.le_refl _ | exact hz1 | exact Nat.le_succ_of_le hz1) _ | with_reducible refine Bw.more ?_ _ | with_reducible refine Bw.drew ?_)))
          (first | (go_at_call 58; refine (y1 _ _).out.mono ?_; rintro _ w1 ⟨G, Hh, rfl, hu1, b1⟩; have hb1 : Bw wr w1 := Bw.call (by repeat (first | with_reducible exact hself | with_reducible refine Bw.more ?_ _ | with_reducible refine Bw.drew ?_)) b1; have hz1 : wr.heap.size ≤ w1.heap.size := hb1.size; (try (have oz1 : Own w1 wr.heap.size 49 [.slice none 0 0, .slice none 0 0] := (Own.past (by first | exact Own.made _ _ [.slice none 0 0, .slice none 0 0] | exact own_drewKS (Own.made _ _ [.slice none 0 0, .slice none 0 0])) b1 (by simp))))) | (go_at_call 16; refine (ins_lv (G := G) (H := Hh) (hinX.out _ (by repeat (first | with_reducible exact hb1 | with_reducible refine Bw.more ?_ _ | with_reducible refine Bw.drew ?_))) hlt (by first | exact ul_one hu1 (Bw.self _) | exact ul_more (ul_one hu1 (Bw.self _)) _ | simpa using ul_one hu1 ((Bw.self _).more (.cells #[.slice none 0 0, .slice none 0 0] 49)))).mono ?_; rintro _ w2 ⟨s', rfl, st2, i2, o2, lo2, b2⟩; have hb2 : Bw wr w2 := Bw.call (by repeat (first | with_reducible exact hb1 | with_reducible refine Bw.more ?_ _ | with_reducible refine Bw.drew ?_)) b2; (try (have oz : Own w2 wr.heap.size 49 [.slice none 0 0, .slice none 0 0] := Own.past (Own.more oz1 _) b2 (by have := oz1.inside; simp; omega); obtain ⟨e0, e1⟩ := own2 oz; have f0 := oz.open_ 0; have f1 := oz.open_ 1)); (try (have oz : Own w2 w1.heap.size 49 [.slice none 0 0, .slice none 0 0] := Own.past (Own.more (Own.made w1 49 [.slice none 0 0, .slice none 0 0]) _) b2 (by simp <;> omega); obtain ⟨e0, e1⟩ := own2 oz; have f0 := oz.open_ 0; have f1 := oz.open_ 1)); (try (have oz : Own w2 (w1.heap.size + 1) 49 [.slice none 0 0, .slice none 0 0] := Own.past (by simpa using Own.made (w1.alloc _) 49 [.slice none 0 0, .slice none 0 0]) b2 (by simp); obtain ⟨e0, e1⟩ := own2 oz; have f0 := oz.open_ 0; have f1 := oz.open_ 1))))
        all_goals
          go_wp2_with fail
          go_meet
          first
          | exact mid_new HI.out HB.out hb2 st2 i2 o2 lo2 (by simp <;> omega)
          | exact mid_set HI.out HB.out hb2 st2 i2 o2 lo2 (by first | exact Nat.le_refl _ | exact hz1 | exact Nat.le_succ_of_le hz1) (by simp <;> omega) oz
      case rest =>
        obtain ⟨Q, s', rfl, rfl, st2, i2, o2, lo2, oQ, oP, hbx⟩ := hcut
        obtain ⟨g0, g1⟩ := own2 oQ
        obtain ⟨d0, d1⟩ := own2 oP
        have f0 := oP.open_ 0
        have f1 := oP.open_ 1
        have hX := (oP.set_ 0 (.slice s'.sA s'.f.length s'.sc)).set_ 1 (.slice s'.lA s'.L.length s'.lc)
        have HX := Lib.hid (And.intro (⟨⟨hX, sp_kept i2 lo2 (kept_two (P := w.heap.size) (.slice s'.sA s'.f.length s'.sc) (.slice s'.lA s'.L.length s'.lc)), o2, lo2⟩, st2⟩ : InLv w.heap.size (k + 1) s' _) (below_two hbx (Nat.le_refl _) (P := w.heap.size) (.slice s'.sA s'.f.length s'.sc) (.slice s'.lA s'.L.length s'.lc)))
        clear st2 i2 o2 lo2 oQ oP hbx hX hin hb
        go_wp2_with fail
        go_roundw
        case rel => exact ⟨k + 1, s', by go_num, by omega, HX.out.1, HX.out.2⟩
        case measure => simp [intOf]; omega
    · obtain rfl : k = 3 := by omega
      obtain ⟨⟨x, y, hL, hx2⟩, hcnt, hprt, hlen, hbld, hw3⟩ := st_end hin.st
      have hsf := hin.st.f
      have hgd : SpGood s.f s.L := by rw [hsf]; exact hin.st.good
      have y2 := Lib.hid (size_any s _ hin.box.in_ hin.box.ok (by omega))
      rw [show s.val = .agg #[.slice s.sA s.f.length s.sc, .slice s.lA s.L.length s.lc] from rfl] at y2
      obtain ⟨d0, d1⟩ := own2 hin.box.own
      have HR := Lib.hid (And.intro hin hb)
      have HF := Lib.hid (And.intro hL (And.intro hx2 (And.intro hcnt (And.intro hprt (And.intro hlen (And.intro hbld (And.intro hsf hgd)))))))
      clear hin hb hL hx2 hcnt hprt hlen hbld hsf hgd
      go_wp2_with fail
      refine y2.out.mono ?_
      rintro _ w2 ⟨n2, k2, e2, rfl, r2, b2⟩
      obtain ⟨rfl, rfl, rfl⟩ : n2 = 2 ∧ k2 = 3 ∧ e2 = 0 := by
        rcases r2 with ⟨h, _⟩ | ⟨_, h1, h2, h3⟩
        · exact absurd HF.out.2.2.2.2.2.2.2 h
        · rw [HF.out.2.2.1] at h1; rw [HF.out.2.2.2.1] at h2; exact ⟨h1, h2, h3⟩
      have bx2 := HR.out.1.box.keep b2
      have H2 := Lib.hid (And.intro bx2 (belows HR.out.2 b2))
      have y3 := Lib.hid (all_any s w2 bx2.in_ bx2.ok (by have := HF.out.2.2.2.1; omega))
      rw [show s.val = .agg #[.slice s.sA s.f.length s.sc, .slice s.lA s.L.length s.lc] from rfl] at y3
      clear d0 d1
      obtain ⟨d0, d1⟩ := own2 bx2.own
      clear r2 b2 bx2 y2
      go_wp2_with fail
      refine y3.out.mono ?_
      rintro _ w3 ⟨ba, ea, rfl, ra, ia, oa, _, b3⟩
      have hra : ea = 0 ∧ ba.l.length = 3 := by
        rcases ra with ⟨h, _⟩ | ⟨_, h1, h2, _⟩
        · exact absurd HF.out.2.2.2.2.2.2.2 h
        · rw [HF.out.2.2.2.2.2.2.1] at h1 h2
          have h3 : ea = 0 := h1.trans HF.out.2.2.2.2.2.1
          have h4 := congrArg List.length (h2 h3)
          rw [List.length_map, HF.out.2.2.2.2.1] at h4
          exact ⟨h3, h4⟩
      obtain ⟨rfl, hal⟩ := hra
      have bx3 := H2.out.1.keep b3
      obtain ⟨V4, hV4, hs4, bb4, o4⟩ := boxd w3 [.int .u64 2, .int .u64 0, .int .u64 0] 36
      have bx4 := bx3.keep bb4
      have ht4 : Times V4 V4.heap.size (some ⟨w3.heap.size, 0, none⟩) [⟨2, 0, 0⟩] := by rw [hV4]; exact times_made w3 ⟨2, 0, 0⟩
      have y4 := Lib.hid (compact_any s (some ⟨w3.heap.size, 0, none⟩) 1 [⟨2, 0, 0⟩] V4 bx4.in_ bx4.ok ht4 ⟨by simp, by simp, by unfold maxLen; omega⟩ (by omega))
      rw [show s.val = .agg #[.slice s.sA s.f.length s.sc, .slice s.lA s.L.length s.lc] from rfl] at y4
      have H4 := Lib.hid (And.intro bx4 (belows H2.out.2 (belows b3 bb4)))
      clear d0 d1
      obtain ⟨d0, d1⟩ := own2 bx3.own
      clear ra ia oa b3 bb4 bx3 bx4 ht4 o4 hs4 y3
      go_wp2_with fail
      rw [← hV4]
      clear hV4
      refine y4.out.mono ?_
      rintro _ w5 ⟨sc, Ec, rfl, rc, ic, oc, _, b5⟩
      obtain ⟨rfl, hcf, hcg, hcl, hcb, hcw⟩ := comp_2 HR.out.1.st rc
      obtain ⟨V6, hV6, bb6, hs6, o6⟩ := spbox w5 sc
      have hpw := parts_wt sc.L
      have y5 := Lib.hid (all_any sc V6 (ic.keep bb6) oc (by omega))
      rw [show sc.val = .agg #[.slice sc.sA sc.f.length sc.sc, .slice sc.lA sc.L.length sc.lc] from rfl] at y5 ⊢
      have H6 := Lib.hid (And.intro (H4.out.1.keep (belows b5 bb6)) (And.intro (belows H4.out.2 (belows b5 bb6)) (And.intro (ic.keep bb6) (And.intro oc (And.intro o6 (And.intro hcf (And.intro hcg (And.intro hcl (And.intro hcb hcw)))))))))
      clear d0 d1
      obtain ⟨g0, g1⟩ := own2 o6
      clear rc ic oc b5 bb6 hs6 o6 hcf hcg hcl hcb y4
      go_upto_region 12 with fail
      rw [← hV6]
      clear hV6
      go_wp2_with fail
      refine y5.out.mono ?_
      rintro _ w7 ⟨bm, em, rfl, rm, im, om, _, b7⟩
      have hrm : em = 0 ∧ bm.l.map Up.p = [(bk2 0, (1 : Int)), (bk2 1, 1), (bk2 2, 1)] := by
        rw [H6.out.2.2.2.2.2.1] at rm
        rcases rm with ⟨h, _⟩ | ⟨_, h1, h2, _⟩
        · exact absurd H6.out.2.2.2.2.2.2.1 h
        · have h3 : em = 0 := h1.trans H6.out.2.2.2.2.2.2.2.2.1
          exact ⟨h3, (h2 h3).trans H6.out.2.2.2.2.2.2.2.1⟩
      obtain ⟨rfl, hmp⟩ := hrm
      have hob7 := H6.out.2.2.2.2.1.past b7 H6.out.2.2.2.2.1.inside
      have y6 := Lib.hid (compact_any sc none 0 [] w7 (H6.out.2.2.1.keep b7) H6.out.2.2.2.1 Times.nil_ ts_nil (by omega))
      rw [show sc.val = .agg #[.slice sc.sA sc.f.length sc.sc, .slice sc.lA sc.L.length sc.lc] from rfl] at y6
      have H7 := Lib.hid (And.intro (H6.out.1.keep b7) (And.intro (belows H6.out.2.1 b7) (And.intro im hmp)))
      clear g0 g1
      obtain ⟨g0, g1⟩ := own2 hob7
      clear rm im om b7 hmp hob7 y5
      go_wp2_with fail
      refine y6.out.mono ?_
      rintro _ w8 ⟨sd, Ed, rfl, rd, _, _, _, b8⟩
      have hEd : Ed = 1 := by
        rw [H6.out.2.2.2.2.2.1] at rd
        rcases rd with ⟨h, _⟩ | ⟨_, _, h2⟩
        · exact absurd H6.out.2.2.2.2.2.2.1 h
        · rcases h2 with ⟨h, _⟩ | ⟨_, _, h, _⟩ | ⟨_, h, _⟩
          · exact absurd bfront_nil h
          · exact h
          · rcases h with h | ⟨h, _⟩
            · cases h
            · exact absurd rfl h
      subst hEd
      obtain ⟨V9, hV9, bb9, hs9, _⟩ := spbox w8 sd
      have b89 := belows b8 bb9
      have bx9 := H7.out.1.keep b89
      have im9 := H7.out.2.2.1.keep b89
      have H9 := Lib.hid (belows H7.out.2.1 b89)
      obtain ⟨d0, d1⟩ := own2 bx9.own
      have hL2 : s.L.length = 2 := by rw [HF.out.1]; rfl
      obtain ⟨b, o, hA, _, hc⟩ := lies_lv bx9.in_.lev.head (by omega)
      have c0 := hc 0 x (by rw [HF.out.1]; rfl) 0 (.int .i64 x.cls) rfl
      rw [HF.out.2.1, show o + 0 * 10 + 0 = o by omega] at c0
      have hml : bm.l.length = 3 := by
        have := congrArg List.length H7.out.2.2.2
        rw [List.length_map] at this
        exact this
      obtain ⟨b', o', hA', _, hc'⟩ := im9.ups.head (by omega)
      obtain ⟨u, hu, hue⟩ : ∃ u, bm.l[0]? = some u ∧ u.t.e = 2 := by
        have h1 := congrArg (fun l => l[0]?) H7.out.2.2.2
        try dsimp only at h1
        rw [List.getElem?_map] at h1
        cases h2 : bm.l[0]? with
        | none => rw [h2] at h1; cases h1
        | some u =>
          rw [h2] at h1
          refine ⟨u, rfl, ?_⟩
          have h3 : u.p = (bk2 0, (1 : Int)) := Option.some.inj h1
          exact congrArg (fun q : Uk × Int => q.1.t.e) h3
      have e0 := hc' 0 u hu 2 (.int .u64 (u.t.e : Int)) rfl
      rw [hue, show o' + 0 * 6 + 2 = o' + 2 by omega] at e0
      rw [show sd.val = .agg #[.slice sd.sA sd.f.length sd.sc, .slice sd.lA sd.L.length sd.lc] from rfl]
      clear rd b8 bb9 hs9 b89 bx9 im9 hc hc' hu hue g0 g1 y6
      go_upto_region 14 with fail
      rw [← hV9]
      clear hV9
      go_wp2_with fail
      go_ret
      exact ⟨rfl, H9.out⟩
end Go.Proofs.YthpjkikfadfgeaaGreat
namespace Go.Proofs.YthpjkikfadfgeaaGreat
open Go Go.RowKit

theorem together_law (A : Option Addr) (c : Nat) (L : List (Rw Up)) (w : World) (hl : ULs w w.heap.size A L) (hok : ∀ s ∈ L, ∀ u ∈ s.l, UOk u) (_ : L.length ≤ c) (_ : c ≤ maxLen) (_ : L.length ≤ 1048576) (_ : ∀ s ∈ L, s.l.length ≤ s.c ∧ s.c ≤ maxLen) (hn : (flatR L).length ≤ 1048576) :
    Calls Tryz.prog 8 #[.slice A L.length c] w fun e w' => e = .returned (.bool true) ∧ Below w.heap.size w w' := together_walk slives_true A c L w hl hok hn
end Go.Proofs.YthpjkikfadfgeaaGreat
namespace Go.Proofs.YthpjkikfadfgeaaGreat
open Go
variable {H : Type}
theorem bulk_pos (d : DataW H) : 1 ≤ Rows.uptoBulk d := by
  cases d with
  | lit l => cases l <;> simp [Rows.uptoBulk]
  | nil => simp [Rows.uptoBulk]
  | ptr d => simp [Rows.uptoBulk]
  | slice es sp => simp [Rows.uptoBulk]
  | agg ps => simp [Rows.uptoBulk]
  | iface t d => simp [Rows.uptoBulk]
  | map es => simp [Rows.uptoBulk]
  | held h => simp [Rows.uptoBulk]
end Go.Proofs.YthpjkikfadfgeaaGreat
namespace Go.Proofs.YthpjkikfadfgeaaGreat
open Go Go.RowKit Go.ChangeShapes Go.WideShapes Go.ChangeAt Go.Deep

section
variable {H : Type} {enc : TypeId × Value → H} {P : Program} {w : World} {base : Nat} {spare : Nat → Bool} {held : Bool}
end
end Go.Proofs.YthpjkikfadfgeaaGreat
