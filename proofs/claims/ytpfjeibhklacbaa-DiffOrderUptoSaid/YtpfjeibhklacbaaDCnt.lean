/- Counts: a row, and how often it is there. -/
import Derived.Test.YtpfjeibhklacbaaDTotU
namespace Go.Proofs.Ytpfjeibhklacbaa
open Go Go.RowKit Go.Sort

/-- a count as it lies -/
structure Ct where
  rA : Option Addr
  rc : Nat
  row : List Vl
  n : Int
instance : Inhabited Ct := ⟨⟨none, 0, [], 0⟩⟩
namespace Ct
def cells (u : Ct) : List Value := [.slice u.rA u.row.length u.rc, .int .i64 u.n]
def val (u : Ct) : Value := .agg #[.slice u.rA u.row.length u.rc, .int .i64 u.n]
def k (u : Ct) : List Vl := u.row
def p (u : Ct) : List Vl × Int := (u.row, u.n)
end Ct
theorem ccells_len (u : Ct) : u.cells.length = 2 := rfl
theorem ccells_one (u : Ct) : ∀ v ∈ u.cells, v.oneCell' = true := by
  intro v hv
  simp only [Ct.cells, List.mem_cons, List.not_mem_nil, or_false] at hv
  rcases hv with rfl | rfl <;> rfl
def RowR (r : List Vl) : Prop := chkRow r = 0
theorem row_lin : Lin cmpRows RowR where
  swap a b := cmpRows_swap a b
  le a b c h k := cmpRows_le a b c h k
  eq a b ha hb := cmpRows_right (chkRow_zero ha).1 (chkRow_zero hb).1
structure CIn (w : World) (B : Nat) (u : Ct) : Prop where
  row : Vals w B u.rA u.row
theorem CIn.past {w w' : World} {B B' : Nat} {u : Ct} (h : CIn w B u) (hb : RowKit.Below B' w w') (hB : B ≤ B') : CIn w' B u := ⟨h.row.past hb hB⟩
theorem CIn.wide {w : World} {B B' : Nat} {u : Ct} (h : CIn w B u) (hB : B ≤ B') : CIn w B' u := ⟨h.row.wide hB⟩
theorem CIn.keep {w w' : World} {u : Ct} (h : CIn w w.heap.size u) (hb : RowKit.Below w.heap.size w w') : CIn w' w'.heap.size u := (h.past hb (Nat.le_refl _)).wide hb.size
structure COk (u : Ct) : Prop where
  rn : u.row.length ≤ 140737488351232
  rs : ∀ v ∈ u.row, VOk v
  dn : -9223372036854775808 ≤ u.n ∧ u.n ≤ 9223372036854775807
/-- a list of counts, as it lies -/
structure Cts (w : World) (B : Nat) (A : Option Addr) (l : List Ct) : Prop where
  head : Lies 2 Ct.cells w B A l
  each_ : ∀ u ∈ l, CIn w B u
theorem Cts.past {w w' : World} {B B' : Nat} {A : Option Addr} {l : List Ct} (h : Cts w B A l) (hb : RowKit.Below B' w w') (hB : B ≤ B') : Cts w' B A l := ⟨h.head.past hb hB, fun u hu => (h.each_ u hu).past hb hB⟩
theorem Cts.wide {w : World} {B B' : Nat} {A : Option Addr} {l : List Ct} (h : Cts w B A l) (hB : B ≤ B') : Cts w B' A l := ⟨h.head.wide hB, fun u hu => (h.each_ u hu).wide hB⟩
theorem Cts.keep {w w' : World} {A : Option Addr} {l : List Ct} (h : Cts w w.heap.size A l) (hb : RowKit.Below w.heap.size w w') : Cts w' w'.heap.size A l := (h.past hb (Nat.le_refl _)).wide hb.size
def CAt (w : World) (b o : Nat) (u : Ct) : Prop := ∀ (j : Nat) (v : Value), u.cells[j]? = some v → w.cell? ⟨b, o + j, none⟩ = some v
theorem CAt.two {w : World} {b o : Nat} {u : Ct} (h : CAt w b o u) : w.cell? ⟨b, o, none⟩ = some (.slice u.rA u.row.length u.rc) ∧ w.cell? ⟨b, o + 1, none⟩ = some (.int .i64 u.n) := ⟨h 0 _ rfl, h 1 _ rfl⟩
theorem CAt.past_ {w w' : World} {B b o : Nat} {u : Ct} (h : CAt w b o u) (hb : RowKit.Below B w w') (hB : b < B) : CAt w' b o u := fun j v hj => (hb.cell (p := ⟨b, o + j, none⟩) hB).trans (h j v hj)
theorem lies_ct {w : World} {B : Nat} {A : Option Addr} {l : List Ct} (h : Lies 2 Ct.cells w B A l) (hp : 0 < l.length) :
    ∃ b o, A = some ⟨b, o, none⟩ ∧ b < B ∧ ∀ (i : Nat) (x : Ct), l[i]? = some x → CAt w b (o + i * 2) x := by
  obtain ⟨b, o, e, hb, hc⟩ := h hp
  exact ⟨b, o, e, hb, fun i x hi j u hj => hc i x hi j u hj⟩
theorem own2 {w : World} {P : Nat} {t : TypeId} {a0 a1 : Value} (h : Own w P t [a0, a1]) : w.cell? ⟨P, 0, none⟩ = some a0 ∧ w.cell? ⟨P, 1, none⟩ = some a1 := ⟨h.at_ 0, h.at_ 1⟩
theorem ctbox (w : World) (u : Ct) : ∃ W, W = w.alloc (.cells #[.slice u.rA u.row.length u.rc, .int .i64 u.n] 66) ∧ RowKit.Below w.heap.size w W ∧ W.heap.size = w.heap.size + 1 ∧ Own W w.heap.size 66 u.cells :=
  ⟨_, rfl, (RowKit.Below.refl _ _).alloc (Nat.le_refl _) _, by simp, Own.made w 66 u.cells⟩
theorem two_ct (w : World) (a b : Ct) : ∃ W, W = (w.alloc (.cells #[.slice a.rA a.row.length a.rc, .int .i64 a.n] 66)).alloc (.cells #[.slice b.rA b.row.length b.rc, .int .i64 b.n] 66) ∧ Gr w W ∧ Own W w.heap.size 66 a.cells ∧ Own W (w.heap.size + 1) 66 b.cells := by
  refine ⟨_, rfl, Gr.two w _ _, (Own.made w 66 a.cells).more _, ?_⟩
  have := Own.made (w.alloc (.cells #[.slice a.rA a.row.length a.rc, .int .i64 a.n] 66)) 66 b.cells
  rw [show (w.alloc (.cells #[.slice a.rA a.row.length a.rc, .int .i64 a.n] 66)).heap.size = w.heap.size + 1 by simp] at this
  exact this
set_option maxRecDepth 100000 in
set_option maxHeartbeats 3200000 in
theorem ccompare_gr (a b : Ct) (w : World) (ha : CIn w w.heap.size a) (hb : CIn w w.heap.size b) (oa : COk a) (ob : COk b) :
    Calls Try.prog 62 #[a.val, b.val] w fun e w' => e = .returned (.int .i64 (cmpRows a.k b.k)) ∧ Gr w w' := by
  obtain ⟨W, hW, hg, o1, o2⟩ := two_ct w a b
  have y1 := Lib.hid (rows_gr a.rA b.rA a.rc b.rc a.row b.row W (ha.keep hg.below).row (hb.keep hg.below).row (maxn oa.rn) (maxn ob.rn))
  have HG := Lib.hid hg
  obtain ⟨a0, a1⟩ := own2 o1
  obtain ⟨b0, b1⟩ := own2 o2
  rw [show a.val = .agg #[.slice a.rA a.row.length a.rc, .int .i64 a.n] from rfl, show b.val = .agg #[.slice b.rA b.row.length b.rc, .int .i64 b.n] from rfl, show cmpRows a.k b.k = cmpRows a.row b.row from rfl]
  generalize cmpRows a.row b.row = r at *
  clear ha hb oa ob hg o1 o2
  go_enter Try.func62, Try.ntmps62
  go_upto_region 1 with fail
  rw [← hW]
  clear hW
  go_wp2_with fail
  refine y1.out.mono ?_
  rintro _ w1 ⟨rfl, g1⟩
  have H1 := Lib.hid (HG.out.trans g1)
  clear g1
  go_wp2_with fail
  go_ret
  exact ⟨rfl, H1.out⟩
theorem keep_box (w : World) (u : Ct) : ∃ V, V = (w.alloc (.cells #[.slice u.rA u.row.length u.rc, .int .i64 u.n] 66)).alloc (.cells #[.slice none 0 0, .int .i64 0] 66) ∧ RowKit.Below w.heap.size w V ∧ Own V w.heap.size 66 u.cells ∧ Own V (w.heap.size + 1) 66 [.slice none 0 0, .int .i64 0] := by
  refine ⟨_, rfl, ((RowKit.Below.refl _ _).alloc (Nat.le_refl _) _).alloc (by simp) _, (Own.made w 66 u.cells).more _, ?_⟩
  have := Own.made (w.alloc (.cells #[.slice u.rA u.row.length u.rc, .int .i64 u.n] 66)) 66 [.slice none 0 0, .int .i64 0]
  rw [show (w.alloc (.cells #[.slice u.rA u.row.length u.rc, .int .i64 u.n] 66)).heap.size = w.heap.size + 1 by simp] at this
  exact this
theorem own_two {w : World} {P : Nat} {t : TypeId} {z0 z1 : Value} (h : Own w P t [z0, z1]) (a b : Value) :
    ∃ X, X = ((w.setCell ⟨P, 0, none⟩ a).setCell ⟨P, 1, none⟩ b) ∧ Own X P t [a, b] ∧ (∀ B u, RowKit.Below B u w → B ≤ P → RowKit.Below B u X) ∧ X.heap.size = w.heap.size ∧ (∀ b, b ≠ P → X.heap[b]? = w.heap[b]?) :=
  ⟨_, rfl, (h.set_ 0 a).set_ 1 b, fun B u hb hB => (hb.setCell (p := ⟨P, 0, none⟩) hB _).setCell (p := ⟨P, 1, none⟩) hB _, by simp [World.setCell], fun b hb => by
    have k := fun (W : World) (i : Nat) (v : Value) => Below.heap_setCell W ⟨P, i, none⟩ v b hb
    rw [k, k]⟩
/-- what comes of a count that is kept -/
def KeptC (u : Ct) (n : Int) (w : World) (x : Ending) (w' : World) : Prop :=
  ∃ u' : Ct, x = .returned u'.val ∧ u'.row = u.row ∧ u'.n = n ∧ CIn w' w'.heap.size u' ∧ (∀ b o, u'.rA = some ⟨b, o, none⟩ → w.heap.size ≤ b ∧ b < w'.heap.size) ∧ RowKit.Below w.heap.size w w'
set_option maxRecDepth 100000 in
set_option maxHeartbeats 6400000 in
theorem keepC_any (u : Ct) (n : Int) (w : World) (hu : CIn w w.heap.size u) (ok : u.row.length * 32 ≤ 281474976710656) :
    Calls Try.prog 64 #[u.val, .int .i64 n] w (KeptC u n w) := by
  obtain ⟨V, hV, hvb, hvo, hvz⟩ := keep_box w u
  have hin := hu.keep hvb
  have y1 := Lib.hid (listV_any u.rA u.rc u.row V hin.row ok)
  have HZ := Lib.hid hvz
  have HB := Lib.hid hvb
  obtain ⟨d0, d1⟩ := own2 hvo
  rw [show u.val = .agg #[.slice u.rA u.row.length u.rc, .int .i64 u.n] from rfl]
  have hsz := hvz.inside
  clear hu ok hvb hvo hvz hin
  go_enter Try.func64, Try.ntmps64
  go_upto_region 1 with fail
  rw [← hV]
  clear hV
  go_wp2_with (go_at_call 49; refine y1.out.mono ?_; rintro _ w2 ⟨A2, k2, rfl, v2, n2, b2⟩; have f0 := (HZ.out.past b2 HZ.out.inside).open_ 0; have f1 := (HZ.out.past b2 HZ.out.inside).open_ 1; have e0 := (HZ.out.past b2 HZ.out.inside).at_ 0; have e1 := (HZ.out.past b2 HZ.out.inside).at_ 1; simp only [List.getElem?_cons_zero, List.getElem?_cons_succ] at e0 e1)
  obtain ⟨X, hX, hXo, hXb, hXs, hXh⟩ := own_two (HZ.out.past b2 HZ.out.inside) (.slice A2 u.row.length k2) (.int .i64 n)
  have v2' := vals_other v2 (fun b o e => by have := (n2 b o e).1; omega) hXs hXh
  have hbX := hXb w.heap.size w (HB.out.trans (b2.mono HB.out.size)) (Nat.le_succ _)
  have hfar : ∀ b o, A2 = some (⟨b, o, none⟩ : Addr) → w.heap.size ≤ b ∧ b < X.heap.size := fun b o h => by
    have h1 := n2 b o h
    have h3 := h1.1
    have h4 := h1.2
    omega
  rw [← hX]
  obtain ⟨x0, x1⟩ := own2 hXo
  exact bodyPost_ret (v := .agg #[.slice A2 u.row.length k2, .int .i64 n]) (by simp [results, Try.results64, go_sem, x0, x1]) rfl ⟨⟨A2, k2, u.row, n⟩, rfl, rfl, rfl, ⟨v2'⟩, hfar, hbX⟩
end Go.Proofs.Ytpfjeibhklacbaa
namespace Go.Proofs.Ytpfjeibhklacbaa
open Go Go.RowKit Go.Sort Go.Lib Go.Shelf

theorem lccells_len (x : Ln Ct) : (Ln.cells Ct.cells x).length = 4 := rfl
theorem lccells_one (x : Ln Ct) : ∀ v ∈ Ln.cells Ct.cells x, v.oneCell' = true := by
  intro v hv
  unfold Ln.cells at hv
  rcases List.mem_cons.1 hv with rfl | hv
  · rfl
  · rcases List.mem_cons.1 hv with rfl | hv
    · rfl
    · exact ccells_one x.u v hv
theorem lc_box (w : World) (x y : Ln Ct) : ∃ W, W = (w.alloc (.cells #[.int .u64 (hiW x.S), .int .u64 (loW x.S), .slice x.u.rA x.u.row.length x.u.rc, .int .i64 x.u.n] 77)).alloc (.cells #[.int .u64 (hiW y.S), .int .u64 (loW y.S), .slice y.u.rA y.u.row.length y.u.rc, .int .i64 y.u.n] 77) ∧ Gr w W ∧ Own W w.heap.size 77 (Ln.cells Ct.cells x) ∧ Own W (w.heap.size + 1) 77 (Ln.cells Ct.cells y) := by
  refine ⟨_, rfl, Gr.two w _ _, (Own.made w 77 (Ln.cells Ct.cells x)).more _, ?_⟩
  have := Own.made (w.alloc (.cells #[.int .u64 (hiW x.S), .int .u64 (loW x.S), .slice x.u.rA x.u.row.length x.u.rc, .int .i64 x.u.n] 77)) 77 (Ln.cells Ct.cells y)
  rw [show (w.alloc (.cells #[.int .u64 (hiW x.S), .int .u64 (loW x.S), .slice x.u.rA x.u.row.length x.u.rc, .int .i64 x.u.n] 77)).heap.size = w.heap.size + 1 by simp] at this
  exact this
theorem own4l {w : World} {P : Nat} {t : TypeId} {a0 a1 a2 a3 : Value} (h : Own w P t [a0, a1, a2, a3]) : w.cell? ⟨P, 2, none⟩ = some a2 ∧ w.cell? ⟨P, 3, none⟩ = some a3 := ⟨h.at_ 2, h.at_ 3⟩
set_option maxRecDepth 100000 in
set_option maxHeartbeats 3200000 in
theorem closC_gr (x y : Ln Ct) (bx : Nat) (w : World) (hbx : w.cell? ⟨bx, 0, none⟩ = some (.func (.func 62) #[] #[])) (hx : CIn w w.heap.size x.u) (hy : CIn w w.heap.size y.u) (ox : COk x.u) (oy : COk y.u) :
    Calls Try.prog 72 #[.agg #[.int .u64 (hiW x.S), .int .u64 (loW x.S), .slice x.u.rA x.u.row.length x.u.rc, .int .i64 x.u.n], .agg #[.int .u64 (hiW y.S), .int .u64 (loW y.S), .slice y.u.rA y.u.row.length y.u.rc, .int .i64 y.u.n], .pointer (some ⟨bx, 0, none⟩)] w fun e w' => e = .returned (.int .i64 (cmpRows x.u.k y.u.k)) ∧ Gr w w' := by
  obtain ⟨W, hW, hg, o1, o2⟩ := lc_box w x y
  have hb := hg.below
  have hbW : W.cell? ⟨bx, 0, none⟩ = some (.func (.func 62) #[] #[]) := (hb.cell (p := ⟨bx, 0, none⟩) (World.block_lt_of_cell? w _ hbx)).trans hbx
  have hcall := Lib.hid (ccompare_gr x.u y.u W (hx.keep hb) (hy.keep hb) ox oy)
  obtain ⟨a0, a1⟩ := own4l o1
  obtain ⟨b0, b1⟩ := own4l o2
  have HG := Lib.hid hg
  rw [show x.u.val = .agg #[.slice x.u.rA x.u.row.length x.u.rc, .int .i64 x.u.n] from rfl, show y.u.val = .agg #[.slice y.u.rA y.u.row.length y.u.rc, .int .i64 y.u.n] from rfl] at hcall
  generalize cmpRows x.u.k y.u.k = r at *
  clear hg hb hx hy ox oy o1 o2 hbx
  go_enter Try.func72, Try.ntmps72
  go_upto_region 1 with fail
  rw [← hW]
  clear hW
  go_wp2_with fail
  refine hcall.out.mono ?_
  rintro _ w1 ⟨rfl, g1⟩
  have H1 := Lib.hid (HG.out.trans g1)
  clear g1
  go_wp2_with fail
  go_ret
  exact ⟨rfl, H1.out⟩
set_option maxRecDepth 100000 in
set_option maxHeartbeats 3200000 in
theorem sortC_any (bx g cap : Nat) (l : List (Ln Ct)) (w : World) (hrow : RowOf (Ln.cells Ct.cells) 4 w g l) (hg : g < w.heap.size) (hbx : w.cell? ⟨bx, 0, none⟩ = some (.func (.func 62) #[] #[])) (hne : bx ≠ g) (hin : ∀ x ∈ l, CIn w g x.u) (hok : ∀ x ∈ l, COk x.u) (hpos : 0 < l.length) (hn : l.length < 4611686018427387904) :
    Calls Try.prog 71 #[.slice (some ⟨g, 0, none⟩) l.length cap, .func (.func 72) #[] #[.pointer (some ⟨bx, 0, none⟩)]] w fun e w' => e = .returned (.tuple #[]) ∧ ∃ l' : List (Ln Ct), l'.Perm l ∧ l'.Pairwise (fun x y => cmpRows x.u.k y.u.k ≤ 0) ∧ RowOf (Ln.cells Ct.cells) 4 w' g l' ∧ RowKit.Below g w w' ∧ ∀ b, b ≠ g → b < w.heap.size → w'.heap[b]? = w.heap[b]? := by
  obtain ⟨m, rfl⟩ := map_pick (p := fun x : Ln Ct => CIn w g x.u ∧ COk x.u) l fun x hx => ⟨hin x hx, hok x hx⟩
  have eg : ∀ args w, (callFunc 72 args).run Try.prog w = .ok (.enter 72 args) w := enters_of Try.func72 (by kernel_rfl) rfl
  have hlen : (m.map (·.1)).length = m.length := List.length_map ..
  letI : Inhabited {x : Ln Ct // CIn w g x.u ∧ COk x.u} := ⟨m[0]'(by rw [hlen] at hpos; exact hpos)⟩
  have hbl := World.block_lt_of_cell? w _ hbx
  have hcon := sort_gen (α := {x : Ln Ct // CIn w g x.u ∧ COk x.u}) Try.sortC 4 Try.isAgg77 Try.sizeOf77 (fun x => Ln.cells Ct.cells x.1) (fun _ => rfl) (by decide) (fun x => lccells_one x.1)
    (fun x y => cmpRows x.1.u.k y.1.u.k) (swo_lin row_lin fun x : {x : Ln Ct // CIn w g x.u ∧ COk x.u} => x.1.u.k) 72 #[.pointer (some ⟨bx, 0, none⟩)] g cap m w eg
    (fun mm os dk _ x y => by
      have hb := sortWorld_below (enc := fun x : {x : Ln Ct // CIn w g x.u ∧ COk x.u} => Ln.cells Ct.cells x.1) (k := 4) (off := 0) (m := mm) (dk := dk) (os := os) (Nat.le_refl g) hg
      have hs := hb.size
      exact closC_gr x.1 y.1 bx _ ((cell_heap (sortWorld_other hne hbl)).trans hbx) ((x.2.1.past hb (Nat.le_refl _)).wide (by omega)) ((y.2.1.past hb (Nat.le_refl _)).wide (by omega)) x.2.2 y.2.2)
    (fun i x hx j v hv => hrow i x.1 (by rw [List.getElem?_map, hx]; rfl) j v hv) hg (by rw [hlen] at hn; exact hn)
  change Calls Try.prog 71 _ _ _ at hcon
  rw [hlen]
  refine hcon.mono ?_
  rintro e w' ⟨rfl, l', hp, hs, hr, hb, ho⟩
  refine ⟨rfl, l'.map (·.1), hp.map _, ?_, fun i x hx j v hv => ?_, hb, ho⟩
  · rw [List.pairwise_map]
    exact hs.imp fun {a b} h => by
      have := row_lin.swap a.1.u.k b.1.u.k
      omega
  · rw [List.getElem?_map] at hx
    obtain ⟨y, hy, rfl⟩ := Option.map_eq_some_iff.1 hx
    exact hr i y hy j v hv
theorem sortC_all (v : Value) (n bx base : Nat) (l : List (Ln Ct)) (w : World) (hnl : n = l.length) (h : w.ownsRow base 77 4 v n (l.flatMap (Ln.cells Ct.cells))) (hbx : w.cell? ⟨bx, 0, none⟩ = some (.func (.func 62) #[] #[])) (hin : ∀ x ∈ l, CIn w base x.u) (hok : ∀ x ∈ l, COk x.u) (hn : l.length < 4611686018427387904) :
    ∃ A c, v = .slice A n c ∧ Calls Try.prog 71 #[.slice A n c, .func (.func 72) #[] #[.pointer (some ⟨bx, 0, none⟩)]] w fun e w' => e = .returned (.tuple #[]) ∧ ∃ l' : List (Ln Ct), l'.Perm l ∧ l'.Pairwise (fun x y => cmpRows x.u.k y.u.k ≤ 0) ∧ Lies 4 (Ln.cells Ct.cells) w' w'.heap.size A l' ∧ RowKit.Below base w w' ∧ w'.cell? ⟨bx, 0, none⟩ = some (.func (.func 62) #[] #[]) := by
  subst hnl
  by_cases h0 : l.length = 0
  · obtain rfl : l = [] := List.eq_nil_of_length_eq_zero h0
    have key : ∀ A c, Calls Try.prog 71 #[.slice A 0 c, .func (.func 72) #[] #[.pointer (some ⟨bx, 0, none⟩)]] w fun e w' => e = .returned (.tuple #[]) ∧ ∃ l' : List (Ln Ct), l'.Perm [] ∧ l'.Pairwise (fun x y => cmpRows x.u.k y.u.k ≤ 0) ∧ Lies 4 (Ln.cells Ct.cells) w' w'.heap.size A l' ∧ RowKit.Below base w w' ∧ w'.cell? ⟨bx, 0, none⟩ = some (.func (.func 62) #[] #[]) := fun A c =>
      (AnyF.slices_SortFunc_none Try.sortC A c _ w).mono fun e w' ⟨he, hw⟩ => ⟨he, [], List.Perm.refl _, List.Pairwise.nil, Lies.nil_, hw ▸ RowKit.Below.refl _ _, hw ▸ hbx⟩
    rcases h.2 with ⟨rfl, _⟩ | ⟨g, cap, cur, rfl, _⟩
    · exact ⟨_, _, rfl, key _ _⟩
    · exact ⟨_, _, rfl, key _ _⟩
  · rcases h.2 with ⟨_, hz⟩ | ⟨g, cap, cur, rfl, hb, hheap, _⟩
    · exact absurd hz h0
    · have hg : g < w.heap.size := (Array.getElem?_eq_some_iff.1 hheap).1
      have hrow : RowOf (Ln.cells Ct.cells) 4 w g l := fun i x hx j u hj => by
        have hf := flat_of (cells := Ln.cells Ct.cells) (size := 4) (fun _ => rfl) l i j x u hx hj
        have hlt : i * 4 + j < l.length * 4 := by have := (List.getElem?_eq_some_iff.1 hf).1; rwa [flat_size (cells := Ln.cells Ct.cells) (size := 4) (fun _ => rfl)] at this
        exact ⟨by rw [h.cellAt _ hlt]; exact hf, h.frozenAt _⟩
      have hne : bx ≠ g := fun e => by
        subst e
        have := (hrow 0 _ (List.getElem?_eq_getElem (show 0 < l.length by omega)) 0 _ rfl).1
        rw [show 0 * 4 + 0 = 0 by rfl, hbx] at this
        cases this
      refine ⟨_, _, rfl, (sortC_any bx g cap l w hrow hg hbx hne (fun x hx => (hin x hx).wide hb) hok (by omega) hn).mono ?_⟩
      rintro e w' ⟨he, l', hp, hs, hr, hbe, ho⟩
      refine ⟨he, l', hp, hs, fun _ => ⟨g, 0, rfl, Nat.lt_of_lt_of_le hg hbe.size, fun i x hx j u hj => ?_⟩, hbe.mono hb, (cell_heap (ho bx hne (World.block_lt_of_cell? w _ hbx))).trans hbx⟩
      rw [Nat.zero_add]
      exact (hr i x hx j u hj).1
end Go.Proofs.Ytpfjeibhklacbaa
namespace Go.Proofs.Ytpfjeibhklacbaa
open Go Go.RowKit

theorem infoCt : (Try.prog.info? 66).map (fun i => (i.zero, i.size, i.bytes)) = some (some (.agg #[.slice none 0 0, .int .i64 0]), 2, 32) := by kernel_rfl
/-- the row of a count lies in a block that is there, but in none that v owns -/
def FarC (v : Value) (w : World) (u : Ct) : Prop := ∀ b o, u.rA = some ⟨b, o, none⟩ → b < w.heap.size ∧ v.ownBlock ≠ some b
theorem FarC.next {v : Value} {w w' : World} {u : Ct} (h : FarC v w u) (hs : w.heap.size ≤ w'.heap.size) : FarC v w' u := fun b o hb => ⟨Nat.lt_of_lt_of_le (h b o hb).1 hs, (h b o hb).2⟩
theorem cin_grown {v : Value} {w w' : World} {u : Ct} (h : CIn w w.heap.size u) (hf : FarC v w u) (hg : w.grownBy w' v.ownBlock) : CIn w' w'.heap.size u := ⟨vals_grown h.row hg fun b o e => (hf b o e).2⟩
/-- what is told of lines -/
def TotCs (l : List (List Vl × Int)) (base : Nat) (w : World) (x : Ending) (w' : World) : Prop :=
  ∃ A c, ∃ outL : List Ct, x = .returned (.tuple #[.slice A outL.length c, .int .i64 (resE cmpRows l)]) ∧ outL.map Ct.p = resL cmpRows l ∧ Cts w' w'.heap.size A outL ∧ (∀ u ∈ outL, COk u) ∧ Below base w w'
theorem lnc_box (w : World) (x : Ln Ct) : ∃ V, V = w.alloc (.cells #[.int .u64 (hiW x.S), .int .u64 (loW x.S), .slice x.u.rA x.u.row.length x.u.rc, .int .i64 x.u.n] 77) ∧ Below w.heap.size w V ∧ V.heap.size = w.heap.size + 1 ∧ Own V w.heap.size 77 (Ln.cells Ct.cells x) :=
  ⟨_, rfl, (Below.refl _ _).alloc (Nat.le_refl _) _, by simp, Own.made w 77 (Ln.cells Ct.cells x)⟩
theorem own4a {w : World} {P : Nat} {t : TypeId} {a0 a1 a2 a3 : Value} (h : Own w P t [a0, a1, a2, a3]) : w.cell? ⟨P, 0, none⟩ = some a0 ∧ w.cell? ⟨P, 1, none⟩ = some a1 := ⟨h.at_ 0, h.at_ 1⟩
theorem ln_four {w : World} {g o : Nat} {x : Ln Ct} (h : ∀ (j : Nat) (u : Value), (Ln.cells Ct.cells x)[j]? = some u → w.cell? ⟨g, o + j, none⟩ = some u) :
    w.cell? ⟨g, o, none⟩ = some (.int .u64 (hiW x.S)) ∧ w.cell? ⟨g, o + 1, none⟩ = some (.int .u64 (loW x.S)) ∧ w.cell? ⟨g, o + 2, none⟩ = some (.slice x.u.rA x.u.row.length x.u.rc) ∧ w.cell? ⟨g, o + 3, none⟩ = some (.int .i64 x.u.n) := ⟨h 0 _ rfl, h 1 _ rfl, h 2 _ rfl, h 3 _ rfl⟩
set_option maxRecDepth 100000 in
set_option maxHeartbeats 16000000 in
theorem totalC_any (v : Value) (n base : Nat) (l : List (Ln Ct)) (w : World) (hnl : n = l.length) (h : w.ownsRow base 77 4 v n (l.flatMap (Ln.cells Ct.cells))) (hbase : base ≤ w.heap.size) (hin : ∀ x ∈ l, CIn w base x.u) (hok : ∀ x ∈ l, COk x.u) (hR : ∀ x ∈ l, RowR x.u.k)
    (hS : ∀ x ∈ l, -9223372036854775808 ≤ x.S ∧ x.S ≤ 9223372036854775807) (hn : n ≤ 1099511627776) :
    Calls Try.prog 63 #[v, .func (.func 62) #[] #[], .func (.func 64) #[] #[]] w (TotCs (l.map (pL Ct.k)) base w) := by
  obtain ⟨i0, hi, hz0, hz1, hz2⟩ := info_parts infoCt
  have HI := Lib.hid (And.intro Try.underlying41 (And.intro hi (And.intro hz0 (And.intro hz1 hz2))))
  obtain ⟨W, hW, hwb, hws, hwc⟩ := fn_box w (.func (.func 62) #[] #[]) 99
  obtain ⟨A, c, rfl, hsort⟩ := sortC_all v n w.heap.size base l W hnl (own_below h hwb) hwc (fun x hx => (hin x hx).past hwb hbase) hok (by omega)
  have Hsort := Lib.hid hsort
  have HB := Lib.hid (And.intro (hwb.mono hbase) hbase)
  have HL := Lib.hid (And.intro hin (And.intro hok (And.intro hR (And.intro hS hnl))))
  clear hi hz0 hz1 hz2 hsort hwb hws hwc hin hok hR hS h hnl hbase
  go_enter Try.func63, Try.ntmps63
  go_upto_region 1 with fail
  rw [← hW]
  clear hW
  go_wp2_with fail
  refine Hsort.out.mono ?_
  rintro _ w1 ⟨rfl, s, hp, hpw, hlies, hb1, hbx⟩
  have hsn : s.length = n := by rw [hp.length_eq]; exact HL.out.2.2.2.2.symm
  have HS := Lib.hid (And.intro hp (And.intro hpw (And.intro hlies (And.intro (HB.out.1.trans hb1) (And.intro hbx hsn)))))
  have HX := Lib.hid (And.intro (fun x (hx : x ∈ s) => (HL.out.1 x (hp.mem_iff.1 hx)).past (HB.out.1.trans hb1) (Nat.le_refl _)) (And.intro (fun x (hx : x ∈ s) => HL.out.2.1 x (hp.mem_iff.1 hx)) (fun x (hx : x ∈ s) => HL.out.2.2.2.1 x (hp.mem_iff.1 hx))))
  have hbs : base ≤ w1.heap.size := Nat.le_trans HB.out.2 (HB.out.1.trans hb1).size
  have Hbs := Lib.hid hbs
  clear hp hpw hlies hb1 hbx hsn Hsort hbs
  go_wp2_with fail
  go_loopw [8, 9] (fun v8 v9 wr => ∃ (k : Nat) (outL : List Ct), v9 = .int .i64 (k : Int) ∧ k ≤ n ∧ wr.ownsRow w1.heap.size 66 2 v8 outL.length (outL.flatMap Ct.cells) ∧ (∀ u ∈ outL, CIn wr wr.heap.size u ∧ COk u ∧ FarC v8 wr u) ∧ outL.map Ct.p = nz cmpRows ((s.take k).map (pL Ct.k)) ∧ Below w1.heap.size w1 wr ∧ Bound cmpRows Ct.k s k ∧ (asm cmpRows ((s.take k).map (pL Ct.k))).all (fun x => fits x.2) = true ∧ outL.length ≤ k)
    (fun _ v9 _ => n - (intOf v9).toNat)
  case atStart => exact ⟨0, [], rfl, by omega, World.ownsRow_nil _ _ _ _, fun u hu => (by cases hu), rfl, Below.refl _ _, fun a ha => (by cases ha), rfl, Nat.le_refl _⟩
  case round =>
    obtain ⟨k, outL, rfl, hk, hown, hout, hmap, hbw, hbound, hfit, hlen⟩ := hrel
    obtain ⟨wo, hwo⟩ : ∃ wo, wo = wr := ⟨_, rfl⟩
    subst hwo
    by_cases hlt : k < n
    · have hx : s[k]? = some (s[k]'(by rw [HS.out.2.2.2.2.2]; exact hlt)) := List.getElem?_eq_getElem _
      obtain ⟨g, o, rfl, hB, hxs⟩ := HS.out.2.2.1 (by rw [HS.out.2.2.2.2.2]; omega)
      have hmem := List.mem_of_getElem? hx
      generalize (s[k]'(by rw [HS.out.2.2.2.2.2]; exact hlt)) = x at *
      have hline := Lib.hid (fun (W : World) (hW : Below w1.heap.size w1 W) (i : Nat) (y : Ln Ct) (hy : s[i]? = some y) => ln_four (w := W) (g := g) (o := o + i * 4) (x := y) fun j u hj => (hW.cell (p := ⟨g, o + i * 4 + j, none⟩) hB).trans (hxs i y hy j u hj))
      have hrows := Lib.hid (fun (W : World) (hW : Below w1.heap.size w1 W) (y : Ln Ct) (hy : y ∈ s) => ((HX.out.1 y hy).past hW Hbs.out).wide (Nat.le_trans Hbs.out hW.size))
      have hfn := Lib.hid (fun (W : World) (hW : Below w1.heap.size w1 W) => (hW.cell (p := ⟨w.heap.size, 0, none⟩) (World.block_lt_of_cell? w1 _ HS.out.2.2.2.2.1)).trans HS.out.2.2.2.2.1)
      obtain ⟨e0, e1, e2, e3⟩ := hline.out wo hbw k x hx
      obtain ⟨V, hV, hvb, hvs, hvo⟩ := lnc_box wo x
      have HO := Lib.hid (And.intro hown (And.intro hout (And.intro hmap (And.intro hbw (And.intro hbound (And.intro hfit hlen))))))
      have HV := Lib.hid (And.intro hvb (And.intro hvo (And.intro hx hmem)))
      have hgs := gsum_one hx
      have q0 : (0 : Int) ≤ (k : Int) := by omega
      have q1 : (k : Int) < (n : Int) := by omega
      clear hx hmem hxs hown hout hmap hbw hbound hfit hvb hvo hlen hvs
      have HG := Lib.hid hgs
      clear hgs
      go_upto_region 6 with fail
      rw [← hV]
      clear hV e0 e1 e2 e3
      go_upto_block 2 with fail
      go_cut [9] (fun v9 wi => ∃ j : Nat, v9 = .int .i64 (j : Int) ∧ k + 1 ≤ j ∧ j ≤ n ∧ (∀ m y, k ≤ m → m < j → s[m]? = some y → cmpRows x.u.k y.u.k = 0) ∧ (∀ y, s[j]? = some y → cmpRows x.u.k y.u.k ≠ 0) ∧ Own wi wo.heap.size 77 (.int .u64 (hiW (gsum s k j)) :: .int .u64 (loW (gsum s k j)) :: x.u.cells) ∧ Below wo.heap.size wo wi)
      case first =>
        go_wp2_with fail
        go_loopw [9] (fun v9 wi => ∃ j : Nat, v9 = .int .i64 (j : Int) ∧ k + 1 ≤ j ∧ j ≤ n ∧ (∀ m y, k ≤ m → m < j → s[m]? = some y → cmpRows x.u.k y.u.k = 0) ∧ Own wi wo.heap.size 77 (.int .u64 (hiW (gsum s k j)) :: .int .u64 (loW (gsum s k j)) :: x.u.cells) ∧ Below wo.heap.size wo wi)
          (fun v9 _ => n - (intOf v9).toNat)
        case atStart =>
          refine ⟨k + 1, by go_num, Nat.le_refl _, by omega, fun m y h1 h2 h3 => ?_, by rw [HG.out]; exact HV.out.2.1, HV.out.1⟩
          obtain rfl : m = k := by omega
          rw [HV.out.2.2.1] at h3
          obtain rfl := Option.some.inj h3
          exact row_lin.self _
        case round =>
          obtain ⟨j, rfl, hj1, hj2, heq, howi, hbi⟩ := hrel
          obtain ⟨wi, hwi⟩ : ∃ wi, wi = wr := ⟨_, rfl⟩
          subst hwi
          have hbj : Below w1.heap.size w1 wi := HO.out.2.2.2.1.trans (hbi.mono HO.out.2.2.2.1.size)
          have HJ := Lib.hid (And.intro heq (And.intro howi (And.intro hbi hbj)))
          clear heq howi hbi hbj
          by_cases hjn : j < n
          · have hy : s[j]? = some (s[j]'(by rw [HS.out.2.2.2.2.2]; exact hjn)) := List.getElem?_eq_getElem _
            have hymem := List.mem_of_getElem? hy
            generalize (s[j]'(by rw [HS.out.2.2.2.2.2]; exact hjn)) = y at *
            have q2 : (0 : Int) ≤ (j : Int) := by omega
            have q3 : (j : Int) < (n : Int) := by omega
            have q4 : decide ((j : Int) < (n : Int)) = true := decide_eq_true q3
            have HY := Lib.hid (And.intro hy hymem)
            have u1 : ∀ p : Past wi, Calls Try.prog 62 #[.agg #[.slice x.u.rA x.u.row.length x.u.rc, .int .i64 x.u.n], .agg #[.slice y.u.rA y.u.row.length y.u.rc, .int .i64 y.u.n]] p.w fun e w'' => e = .returned (.int .i64 (cmpRows x.u.k y.u.k)) ∧ ∃ q : Past wi, w'' = q.w := fun p =>
              calls_past ((ccompare_gr x.u y.u p.w (hrows.out p.w (HJ.out.2.2.2.trans (p.h.mono HJ.out.2.2.2.size)) x HV.out.2.2.2) (hrows.out p.w (HJ.out.2.2.2.trans (p.h.mono HJ.out.2.2.2.size)) y HY.out.2) (HX.out.2.1 x HV.out.2.2.2) (HX.out.2.1 y HY.out.2)).mono fun e w' h => ⟨h.1, h.2.below⟩)
            have u2 := fun p : Past wi => hfn.out p.w (HJ.out.2.2.2.trans (p.h.mono HJ.out.2.2.2.size))
            have u3 := fun p : Past wi => own4l (HJ.out.2.1.past p.h HJ.out.2.1.inside)
            have u4 := fun p : Past wi => (hline.out p.w (HJ.out.2.2.2.trans (p.h.mono HJ.out.2.2.2.size)) j y HY.out.1).2.2
            obtain ⟨r, hr⟩ : ∃ r, cmpRows x.u.k y.u.k = r := ⟨_, rfl⟩
            rw [hr] at u1
            have HR := Lib.hid hr
            clear hr hy hymem
            by_cases hr0 : r = 0
            · have t1 : (r == 0) = true := beq_iff_eq.2 hr0
              have HR0 := Lib.hid hr0
              clear hr0
              go_upto_region 7 with fail
              refine wp_region_past wi (by kernel_rfl) (by kernel_rfl) (Below.refl _ _) ?_
              repeat (first | go_big_quiet_step ((go_at_call 62; exact u1 _)) | quiet_step ((go_at_call 62; exact u1 _)))
              refine wpQuiet_nil ?_
              intro wz hw'
              obtain ⟨⟨wy, hbz⟩, hw''⟩ := hw'
              dsimp only at hw''
              subst hw''
              have hz1 := HJ.out.2.2.2.trans (hbz.mono HJ.out.2.2.2.size)
              obtain ⟨e0, e1, _⟩ := hline.out wz hz1 j y HY.out.1
              have hadd := Lib.hid (add_line (gsum s k j) y.S wo.heap.size 77 x.u.cells wz (HJ.out.2.1.past hbz HJ.out.2.1.inside))
              have HZ := Lib.hid (HJ.out.2.2.1.trans (hbz.mono HJ.out.2.2.1.size))
              clear u1 u2 u3 u4 hbz hz1 t1
              go_wp2_with fail
              refine hadd.out.mono ?_
              rintro _ w5 ⟨rfl, ho5, hb5⟩
              have H5 := Lib.hid (And.intro ho5 (HZ.out.trans (hb5 _ (Nat.le_refl _))))
              clear ho5 hb5 e0 e1 hadd
              go_wp2_with fail
              go_roundw
              case rel =>
                refine ⟨j + 1, by go_num, by omega, by omega, fun m z h1 h2 h3 => ?_, by rw [gsum_next (by omega) HY.out.1]; exact H5.out.1, H5.out.2⟩
                by_cases hmj : m = j
                · subst hmj
                  rw [HY.out.1] at h3
                  obtain rfl := Option.some.inj h3
                  rw [HR.out, HR0.out]
                · exact HJ.out.1 m z h1 (by omega) h3
              case measure => simp [intOf]; omega
            · have t1 : (r == 0) = false := beq_eq_false_iff_ne.2 hr0
              have HR0 := Lib.hid hr0
              clear hr0
              go_upto_region 7 with fail
              refine wp_region_past wi (by kernel_rfl) (by kernel_rfl) (Below.refl _ _) ?_
              repeat (first | go_big_quiet_step ((go_at_call 62; exact u1 _)) | quiet_step ((go_at_call 62; exact u1 _)))
              refine wpQuiet_nil ?_
              intro wz hw'
              obtain ⟨⟨wy, hbz⟩, hw''⟩ := hw'
              dsimp only at hw''
              subst hw''
              have HZ := Lib.hid (And.intro (HJ.out.2.1.past hbz HJ.out.2.1.inside) (HJ.out.2.2.1.trans (hbz.mono HJ.out.2.2.1.size)))
              clear u1 u2 u3 u4 hbz t1
              go_wp2_with fail
              go_meet
              exact ⟨j, rfl, by omega, by omega, HJ.out.1, fun z hz => by
                rw [HY.out.1] at hz
                obtain rfl := Option.some.inj hz
                rw [HR.out]
                exact HR0.out, HZ.out.1, HZ.out.2⟩
          · have q4 : decide ((j : Int) < (n : Int)) = false := decide_eq_false (by omega)
            go_upto_region 7 with fail
            go_quiet (fail)
            go_wp2_with fail
            go_meet
            exact ⟨j, rfl, by omega, by omega, HJ.out.1, fun z hz => by
              have := (List.getElem?_eq_some_iff.1 hz).1
              rw [HS.out.2.2.2.2.2] at this
              omega, HJ.out.2.1.draws _, below_draws HJ.out.2.2.1 _⟩
      case rest =>
        obtain ⟨j, rfl, hj1, hj2, heq, hmax, hown, hbi⟩ := hcut
        obtain ⟨hB2, hasm⟩ := group_step (f := Ct.k) row_lin HS.out.2.1 (by omega) (by rw [HS.out.2.2.2.2.2]; exact hj2) HV.out.2.2.1 heq hmax HO.out.2.2.2.2.1
        have hnz := nz_step hasm
        have hfi := fit_step hasm
        have hgb := gsum_bound HX.out.2.2 (by rw [HS.out.2.2.2.2.2]; exact hn) k j
        rw [HO.out.2.2.2.2.2.1, Bool.true_and] at hfi
        have hcall := fun W => Lib.hid (number_any (gsum s k j) W hgb.1 hgb.2)
        have hbx1 := HO.out.2.2.2.1.trans (hbi.mono HO.out.2.2.2.1.size)
        obtain ⟨c0, c1⟩ := own4a hown
        obtain ⟨S, hSe⟩ : ∃ S, gsum s k j = S := ⟨_, rfl⟩
        rw [hSe] at hasm hnz hfi hcall c0 c1 hown
        have HC := Lib.hid (And.intro hB2 (And.intro hnz (And.intro hfi (And.intro hbx1 (And.intro hbi hown)))))
        clear hB2 hasm hnz hfi hgb heq hmax hown hbi hbx1 hSe
        go_wp2_with fail
        refine (hcall _).out.mono ?_
        rintro _ w2 ⟨rfl, b2⟩
        have H2 := Lib.hid (And.intro (HC.out.2.2.2.1.trans (b2.mono HC.out.2.2.2.1.size)) (And.intro (HC.out.2.2.2.2.2.past b2 HC.out.2.2.2.2.2.inside) (HC.out.2.2.2.2.1.trans (b2.mono HC.out.2.2.2.2.1.size))))
        clear b2 c0 c1 hcall
        cases hf : fits S
        case false =>
          have e1 : fitE S = 10 := by unfold fitE; rw [hf]; rfl
          have hres : resE cmpRows (l.map (pL Ct.k)) = 10 ∧ resL cmpRows (l.map (pL Ct.k)) = [] := by
            obtain ⟨p1, p2⟩ := res_perm (f := Ct.k) row_lin HS.out.1 HL.out.2.2.1
            have hbad := bad_step HC.out.1 (by rw [HC.out.2.2.1]; exact hf)
            rw [← p1, ← p2]
            unfold resE resL
            rw [hbad]
            exact ⟨rfl, rfl⟩
          have HR := Lib.hid hres
          have HE := Lib.hid e1
          rw [e1]
          clear hres hf e1
          go_wp2_with fail
          go_ret2
          exact ⟨none, 0, [], by rw [HR.out.1]; rfl, HR.out.2.symm, ⟨Lies.nil_, fun u hu => (by cases hu)⟩, fun u hu => (by cases hu), HS.out.2.2.2.1.trans (H2.out.1.mono Hbs.out)⟩
        case true =>
          have e1 : fitE S = 0 := by unfold fitE; rw [hf]; rfl
          have e2 : fitN S = S := by unfold fitN; rw [hf]; rfl
          have hfb := (fits_iff S).1 hf
          rw [e1, e2]
          have HF := Lib.hid (And.intro hf hfb)
          clear hf hfb e1 e2
          by_cases hS0 : S = 0
          · have t1 : (S != 0) = false := by simp [hS0]
            have HS0 := Lib.hid hS0
            have hkeep := own_below HO.out.1 H2.out.2.2
            have HK := Lib.hid hkeep
            clear hS0 hkeep
            go_wp2_with fail
            go_roundw
            case rel =>
              refine ⟨j, outL, rfl, hj2, HK.out, fun u hu => ⟨(HO.out.2.1 u hu).1.keep H2.out.2.2, (HO.out.2.1 u hu).2.1, (HO.out.2.1 u hu).2.2.next H2.out.2.2.size⟩, ?_, H2.out.1, HC.out.1, by rw [HC.out.2.2.1]; exact HF.out.1, by have := HO.out.2.2.2.2.2.2; omega⟩
              rw [HC.out.2.1, HS0.out, if_pos rfl, List.append_nil]
              exact HO.out.2.2.1
            case measure => simp [intOf]; omega
          · have t1 : (S != 0) = true := bne_iff_ne.2 hS0
            have HS0 := Lib.hid hS0
            obtain ⟨c2, c3⟩ := own4l H2.out.2.1
            have hxk := HX.out.2.1 x HV.out.2.2.2
            have hx9 := (chkRow_zero (HL.out.2.2.1 x (HS.out.1.mem_iff.1 HV.out.2.2.2))).2
            have hret := Lib.hid (keepC_any x.u S w2 (hrows.out w2 H2.out.1 x HV.out.2.2.2) (by change x.u.row.length ≤ 8 at hx9; omega))
            have HXK := Lib.hid hxk
            rw [show x.u.val = .agg #[.slice x.u.rA x.u.row.length x.u.rc, .int .i64 x.u.n] from rfl] at hret
            clear hS0 hxk hx9
            go_wp2_with fail
            refine hret.out.mono ?_
            rintro _ w3 ⟨u', rfl, k1, k2, hin3, hfar, b3⟩
            have hlen := HO.out.2.2.2.2.2.2
            have H3 := Lib.hid (And.intro (H2.out.1.trans (b3.mono H2.out.1.size)) (And.intro (H2.out.2.2.trans (b3.mono H2.out.2.2.size)) (And.intro hin3 (own_below HO.out.1 (H2.out.2.2.trans (b3.mono H2.out.2.2.size))))))
            have hfar' : FarC u8 w3 u' := fun b o hb => ⟨(hfar b o hb).2, fun e => by
              have h1 := (HO.out.1.lt b e).2
              have h2 := (hfar b o hb).1
              have h3 := H2.out.2.2.size
              omega⟩
            have HU := Lib.hid (And.intro k1 (And.intro k2 hfar'))
            rw [show u'.val = .agg #[.slice u'.rA u'.row.length u'.rc, .int .i64 u'.n] from rfl]
            have hs3 := H3.out.1.size
            clear k1 k2 hin3 b3 hret hfar hfar' c2 c3
            go_wp2_with (at_builtin; refine wpList_push _ rfl _ _ 41 rfl w1.heap.size 66 i0 _ 2 32 HI.out.1 HI.out.2.1 HI.out.2.2.1 HI.out.2.2.2.1 HI.out.2.2.2.2 rfl (by decide) _ _ _ rfl H3.out.2.2.2 #[.slice u'.rA u'.row.length u'.rc, .int .i64 u'.n] rfl rfl ?p1 ?p2 ?p3 ?p4 ?_)
            case p1 => exact ⟨rfl, rfl⟩
            case p2 => unfold maxLen; omega
            case p3 => omega
            case p4 => exact hs3
            intro v' w' ho' hb' hob hgw
            have hbw' := H3.out.1.trans hb'
            have hfarn : ∀ u, FarC u8 w3 u → FarC v' w' u := fun u hu b o hb => by
              obtain ⟨h1, h2⟩ := hu b o hb
              refine ⟨Nat.lt_of_lt_of_le h1 hgw.size, fun e => ?_⟩
              rcases hob with h | h
              · rw [h] at e; exact h2 e
              · rw [h] at e
                injection e with e
                omega
            have hall : ∀ u ∈ outL ++ [u'], CIn w' w'.heap.size u ∧ COk u ∧ FarC v' w' u := fun u hu => by
              rcases List.mem_append.1 hu with hu | hu
              · have hf3 := (HO.out.2.1 u hu).2.2.next H3.out.2.1.size
                exact ⟨cin_grown ((HO.out.2.1 u hu).1.keep H3.out.2.1) hf3 hgw, (HO.out.2.1 u hu).2.1, hfarn u hf3⟩
              · obtain rfl : u = u' := by simpa using hu
                refine ⟨cin_grown H3.out.2.2.1 HU.out.2.2 hgw, ⟨?_, ?_, ?_⟩, hfarn u HU.out.2.2⟩
                · rw [HU.out.1]; exact HXK.out.rn
                · rw [HU.out.1]; exact HXK.out.rs
                · rw [HU.out.2.1]; exact HF.out.2
            have hmap2 : (outL ++ [u']).map Ct.p = nz cmpRows ((s.take j).map (pL Ct.k)) := by
              rw [List.map_append, HC.out.2.1, if_neg HS0.out, HO.out.2.2.1]
              have hpu : u'.p = (x.u.k, S) := by
                unfold Ct.p Ct.k
                rw [HU.out.1, HU.out.2.1]
              rw [List.map_cons, List.map_nil, hpu]
            have hrow2 : w'.ownsRow w1.heap.size 66 2 v' (outL ++ [u']).length ((outL ++ [u']).flatMap Ct.cells) := by
              rw [List.length_append, List.flatMap_append]
              exact ho'
            have H4 := Lib.hid (And.intro hrow2 (And.intro hall (And.intro hmap2 hbw')))
            clear ho' hb' hob hgw hbw' hfarn hall hmap2 hrow2
            go_wp2_with fail
            go_roundw
            case rel => exact ⟨j, outL ++ [u'], rfl, hj2, H4.out.1, H4.out.2.1, H4.out.2.2.1, H4.out.2.2.2, HC.out.1, by rw [HC.out.2.2.1]; exact HF.out.1, by rw [List.length_append, List.length_singleton]; omega⟩
            case measure => simp [intOf]; omega
    · have hkn : k = n := by omega
      have htk : s.take k = s := by rw [List.take_of_length_le]; rw [HS.out.2.2.2.2.2, hkn]; exact Nat.le_refl _
      rw [htk] at hmap hfit
      obtain ⟨p1, p2⟩ := res_perm (f := Ct.k) row_lin HS.out.1 HL.out.2.2.1
      have hE : resE cmpRows (l.map (pL Ct.k)) = 0 := by rw [← p2]; unfold resE; rw [hfit]; rfl
      have hLL : outL.map Ct.p = resL cmpRows (l.map (pL Ct.k)) := by rw [← p1]; unfold resL; rw [hfit, hmap]; rfl
      obtain ⟨A', c', rfl, _, _, hl'⟩ := lies_of_own (by decide) ccells_len rfl hown
      have HE := Lib.hid (And.intro hE (And.intro hLL (And.intro (⟨hl', fun u hu => (hout u hu).1⟩ : Cts wo wo.heap.size A' outL) (And.intro (fun u hu => (hout u hu).2.1) hbw))))
      have q4 : decide ((k : Int) < (n : Int)) = false := decide_eq_false (by omega)
      clear hown hout hmap hfit hbound hbw htk p1 p2 hE hLL hl'
      go_wp2_with fail
      go_ret2
      exact ⟨A', c', outL, by rw [HE.out.1]; rfl, HE.out.2.1, HE.out.2.2.1, HE.out.2.2.2.1, HS.out.2.2.2.1.trans (HE.out.2.2.2.2.mono Hbs.out)⟩
end Go.Proofs.Ytpfjeibhklacbaa
