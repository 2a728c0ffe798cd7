/- Part 12 of the texts on which BatchMerges rests: facts and contracts. -/
import Derived.Test.YtllpfngmnccejaaGreatBatchMergesM11
import Derived.Deep.CutBlock
namespace Go.Proofs.YtllpfngmnccejaaGreat
open Go Go.RowKit

/-- the variable's cells: of m the lists, the places i and j, what came of it at v -/
def rcells (m : Mg) (i j : Nat) (v : Value) : List Value := [.slice m.aA m.a.length m.ac, .slice m.bA m.b.length m.bc, .int .i64 (i : Int), .int .i64 (j : Int), .slice m.sA m.f.length m.sc, v]
structure RSt (base P : Nat) (m : Mg) (i j : Nat) (v : Value) (o : List Up) (w : World) : Prop where
  own : Own w P 25 (rcells m i j v)
  row : w.ownsRow base 48 6 v o.length (o.flatMap Up.cells)
  vP : v.ownBlock ≠ some P
  a : Ups w w.heap.size m.aA m.a
  b : Ups w w.heap.size m.bA m.b
  f : Times w w.heap.size m.sA m.f
  o_ : ∀ u ∈ o, UIn w w.heap.size u
  xa : Off P v m.aA m.a
  xb : Off P v m.bA m.b
  xf : OffR P v m.sA m.f.length
  xo : ∀ u ∈ o, OffU P v u
  ok : ∀ u ∈ o, UOk u
  base_ : P < base
  lo : ∀ u ∈ o, ∀ b o', (u.kA = some (⟨b, o', none⟩ : Addr) ∨ u.rA = some (⟨b, o', none⟩ : Addr)) → base ≤ b
theorem RSt.past {base P : Nat} {m : Mg} {i j : Nat} {v : Value} {o : List Up} {w w' : World} (h : RSt base P m i j v o w) (hb : Below w.heap.size w w') : RSt base P m i j v o w' :=
  ⟨h.own.past hb h.own.inside, own_below h.row hb, h.vP, h.a.keep hb, h.b.keep hb, (h.f.past hb (Nat.le_refl _)).wide hb.size, fun u hu => (h.o_ u hu).keep hb, h.xa, h.xb, h.xf, h.xo, h.ok, h.base_, h.lo⟩
/-- more put behind what came of it, the places and the cost moved on -/
theorem RSt.push {base P : Nat} {m : Mg} {i j i' j' : Nat} {v v' : Value} {o e : List Up} {w w1 w2 : World} (h : RSt base P m i j v o w) (hrow : w1.ownsRow base 48 6 v' (o ++ e).length ((o ++ e).flatMap Up.cells)) (hg : w.grownBy w1 v.ownBlock) (hv : v'.ownBlock = v.ownBlock ∨ v'.ownBlock = some w.heap.size)
    (he : ∀ u ∈ e, UIn w w.heap.size u) (hlo : ∀ u ∈ e, OffU P v u) (hek : ∀ u ∈ e, UOk u) (hel : ∀ u ∈ e, ∀ b o', (u.kA = some (⟨b, o', none⟩ : Addr) ∨ u.rA = some (⟨b, o', none⟩ : Addr)) → base ≤ b) (hP : Own w2 P 25 (rcells m i' j' v')) (h2 : w1.grownBy w2 (some P)) : RSt base P m i' j' v' (o ++ e) w2 := by
  have hPin := h.own.inside
  have hs : w.heap.size ≤ w2.heap.size := Nat.le_trans hg.size h2.size
  have hk : ∀ b, b < w.heap.size → b ≠ P → v.ownBlock ≠ some b → w2.heap[b]? = w.heap[b]? := fun b hb h3 h4 => (h2.block b (Nat.lt_of_lt_of_le hb hg.size) (by simpa using h3)).trans (hg.block b hb (Ne.symm h4))
  have hvP : v'.ownBlock ≠ some P := by
    rcases hv with hv | hv
    · rw [hv]; exact h.vP
    · rw [hv]; intro hh; injection hh with hh; omega
  have hin : ∀ u ∈ o ++ e, UIn w w.heap.size u := fun u hu => by
    rcases List.mem_append.1 hu with hu | hu
    · exact h.o_ u hu
    · exact he u hu
  have hof : ∀ u ∈ o ++ e, OffU P v u := fun u hu => by
    rcases List.mem_append.1 hu with hu | hu
    · exact h.xo u hu
    · exact hlo u hu
  exact ⟨hP, World.ownsRow.kept hrow h2 (.inr hvP), hvP, upsF h.a h.xa hs hk, upsF h.b h.xb hs hk, timesF h.f h.xf hs hk, fun u hu => uinF (hin u hu) (hof u hu) hs hk, off_next h.xa hv h.a, off_next h.xb hv h.b, offR_next h.xf hv (times_ad h.f), fun u hu => offU_next (hof u hu) hv (hin u hu), fun u hu => by
    rcases List.mem_append.1 hu with hu | hu
    · exact h.ok u hu
    · exact hek u hu, h.base_, fun u hu => by
    rcases List.mem_append.1 hu with hu | hu
    · exact h.lo u hu
    · exact hel u hu⟩
theorem offR_P {P Q : Nat} {v : Value} {A : Option Addr} {n : Nat} (h : OffR Q v A n) (hA : ∀ b o, A = some (⟨b, o, none⟩ : Addr) → b ≠ P) : OffR P v A n := fun hp b o e => ⟨hA b o e, (h hp b o e).2⟩
theorem off_P {P Q B : Nat} {v : Value} {A : Option Addr} {l : List Up} (h : Off Q v A l) (lo : Lo B A l) (hP : P < B) : Off P v A l :=
  ⟨offR_P h.1 fun b o e => by have := lo.1 b o e; omega, fun u hu => ⟨offR_P (h.2 u hu).1 fun b o e => by have := lo.2 u hu b o (.inl e); omega, offR_P (h.2 u hu).2 fun b o e => by have := lo.2 u hu b o (.inr e); omega⟩⟩
/-- a merger's variable, its copy just put into it -/
theorem rst_start {base P : Nat} {w X : World} {m : Mg} {i j : Nat} (hm : MgIn w w.heap.size m) (hok : MgOk m) (hr : MgRow w base m) (hlo : MgLo base m) (hP : P < base) (hs : X.heap.size = w.heap.size) (hX : ∀ b, b ≠ P → X.heap[b]? = w.heap[b]?) (ho : Own X P 25 (rcells m i j (.slice m.oA m.o.length m.oc))) :
    RSt base P m i j (.slice m.oA m.o.length m.oc) m.o X := by
  have nb : Nb base w X := ⟨hs, fun b hb => hX b (by omega)⟩
  exact ⟨ho, nb.row hr.row (Nat.le_refl _), fun e => by have := (hr.row.lt _ e).1; omega, nb.ups hm.a hlo.a, nb.ups hm.b hlo.b, nb.times hm.f hlo.f, fun u hu => (nb.ups hm.o hlo.o).each_ u hu, off_P hr.a hlo.a hP, off_P hr.b hlo.b hP, offR_P hr.f fun b o e => by have := hlo.f b o e; omega, fun u hu => ⟨offR_P (hr.o u hu).1 fun b o e => by have := hlo.o.2 u hu b o (.inl e); omega, offR_P (hr.o u hu).2 fun b o e => by have := hlo.o.2 u hu b o (.inr e); omega⟩, hok.o.ok, hP, hlo.o.2⟩
/-- the group of u from place i, as far as it goes -/
theorem grp_here {u : Up} {l : List Up} {n : Nat} (h : ∀ q x, q < n → l[q]? = some x → plc x u = 0) (k : ∀ x, l[n]? = some x → plc x u ≠ 0) : grp u l = l.take n := by
  unfold grp
  induction l generalizing n with
  | nil => simp
  | cons y l ih =>
    cases n with
    | zero => rw [List.takeWhile_cons_of_neg (by simpa using k y rfl), List.take_zero]
    | succ n =>
      rw [List.takeWhile_cons_of_pos (by simpa using h 0 y (by omega) rfl), List.take_succ_cons, ih (n := n) (fun q x hq hx => h (q + 1) x (by omega) (by simpa using hx)) fun x hx => k x (by simpa using hx)]
/-- what stands at the head of the loops that gather a group: of l from place i on n updates, behind those that were there -/
structure GSt (V wr : World) (g0 l : List Up) (i n : Nat) (u : Up) (v : Value) : Prop where
  below : Below V.heap.size V wr
  row : wr.ownsRow V.heap.size 48 6 v (g0.length + n) ((g0 ++ (l.drop i).take n).flatMap Up.cells)
  keys : ∀ q x, q < n → (l.drop i)[q]? = some x → plc x u = 0
  n_ : n ≤ l.length - i
theorem GSt.form {V wr : World} {g0 l : List Up} {i n : Nat} {u : Up} {v : Value} (h : GSt V wr g0 l i n u v) : ∃ A c t, t = g0.length + n ∧ v = .slice A t c ∧ wr.ownsRow V.heap.size 48 6 (.slice A t c) t ((g0 ++ (l.drop i).take n).flatMap Up.cells) ∧ Lies 6 Up.cells wr wr.heap.size A (g0 ++ (l.drop i).take n) := by
  have hl : g0.length + n = (g0 ++ (l.drop i).take n).length := by rw [List.length_append, List.length_take, List.length_drop]; have := h.n_; omega
  obtain ⟨A, c, e, _, _, h3⟩ := lies_of_own (size := 6) (cells := Up.cells) (by decide) ucells_len hl h.row
  rw [← hl] at e
  have hr := h.row
  rw [e] at hr
  exact ⟨A, c, _, rfl, e, hr, h3⟩
theorem GSt.next {V wr X w' : World} {g0 l : List Up} {i n : Nat} {u x : Up} {v v' : Value} (h : GSt V wr g0 l i n u v) (hx : (l.drop i)[n]? = some x) (hk : plc x u = 0) (hb : Below wr.heap.size wr X) (hg : X.grownBy w' v.ownBlock) {t : Nat} (ht : t = g0.length + n) (ho : w'.ownsRow V.heap.size 48 6 v' (t + 1) ((g0 ++ (l.drop i).take n).flatMap Up.cells ++ x.cells)) : GSt V w' g0 l i (n + 1) u v' := by
  subst ht
  have hbX : Below V.heap.size V X := belows h.below hb
  have h1 := (List.getElem?_eq_some_iff.1 hx).1
  rw [List.length_drop] at h1
  refine ⟨hbX.trans ((KeptK.of_grown (S := fun j => v.ownBlock = some j) hg (fun _ e => e)).below (fun j hj => (h.row.lt j hj).1) hbX.size), ?_, fun q y hq hy => ?_, by omega⟩
  · have e : g0 ++ (l.drop i).take (n + 1) = (g0 ++ (l.drop i).take n) ++ [x] := by rw [List.take_add_one, hx, List.append_assoc]; rfl
    rw [e, List.flatMap_append, ← Nat.add_assoc]
    simpa using ho
  · by_cases hqn : q = n
    · subst hqn
      rw [hx] at hy
      injection hy with hy
      rw [← hy]; exact hk
    · exact h.keys q y (by omega) hy
theorem grown_setP (w : World) (P i : Nat) (x : Value) : w.grownBy (w.setCell ⟨P, i, none⟩ x) (some P) := ⟨rfl, rfl, rfl, by simp [World.setCell], fun k _ hk => Below.heap_setCell w ⟨P, i, none⟩ x k fun e => hk (by rw [e])⟩
end Go.Proofs.YtllpfngmnccejaaGreat
namespace Go.Proofs.YtllpfngmnccejaaGreat
open Go Go.RowKit

theorem rout_fine {base P R i j oc : Nat} {m : Mg} {oA : Option Addr} {o : List Up} {w X : World} (h : RSt base P m i j (.slice oA o.length oc) o w) (hlo : MgLo base m) (hR : R < base) (hs : X.heap.size = w.heap.size) (hX : ∀ b, b ≠ R → X.heap[b]? = w.heap[b]?) : MgIn X X.heap.size (outM m i j oA oc o) ∧ MgLo base (outM m i j oA oc o) := by
  have hl : Lies 6 Up.cells w w.heap.size oA o := by
    obtain ⟨A, c, e, _, _, hh⟩ := lies_of_own (size := 6) (cells := Up.cells) (by decide) ucells_len rfl h.row
    simp only [Value.slice.injEq] at e
    rw [e.1]; exact hh
  have hob : ∀ b o', oA = some (⟨b, o', none⟩ : Addr) → base ≤ b := fun b o' e => by
    subst e
    exact (h.row.lt b rfl).1
  have hlo2 : Lo base oA o := ⟨hob, h.lo⟩
  exact ⟨⟨ups_other h.a (hlo.a.mono (by omega)) hs hX, ups_other h.b (hlo.b.mono (by omega)) hs hX, times_other h.f (hlo.f.mono (by omega)) hs hX, ups_other ⟨hl, h.o_⟩ (hlo2.mono (by omega)) hs hX⟩, ⟨hlo.a, hlo.b, hlo.f, hlo2⟩⟩
/-- the places moved on -/
theorem RSt.move {base P i j i' j' : Nat} {m : Mg} {v : Value} {o : List Up} {w X : World} (h : RSt base P m i j v o w) (hs : X.heap.size = w.heap.size) (hX : ∀ b, b ≠ P → X.heap[b]? = w.heap[b]?) (ht : X.os = w.os ∧ X.tape = w.tape ∧ X.output = w.output) (ho : Own X P 25 (rcells m i' j' v)) : RSt base P m i' j' v o X := by
  have hk : ∀ b, b < w.heap.size → b ≠ P → v.ownBlock ≠ some b → X.heap[b]? = w.heap[b]? := fun b _ hb _ => hX b hb
  have hs' : w.heap.size ≤ X.heap.size := by rw [hs]; exact Nat.le_refl _
  have hg : w.grownBy X (some P) := ⟨ht.1, ht.2.1, ht.2.2, hs', fun b _ hb => hX b (by simpa using hb)⟩
  exact ⟨ho, World.ownsRow.kept h.row hg (.inr h.vP), h.vP, upsF h.a h.xa hs' hk, upsF h.b h.xb hs' hk, timesF h.f h.xf hs' hk, fun u hu => uinF (h.o_ u hu) (h.xo u hu) hs' hk, h.xa, h.xb, h.xf, h.xo, h.ok, h.base_, h.lo⟩
theorem gst_switch {V wr : World} {l l' : List Up} {i j n : Nat} {u : Up} {v : Value} {g : List Up} (h : GSt V wr [] l i n u v) (e : g = (l.drop i).take n) : GSt V wr g l' j 0 u v := by
  have hn := h.n_
  have hl : g.length = n := by rw [e, List.length_take, List.length_drop]; omega
  refine ⟨h.below, ?_, fun q x hq => by omega, Nat.zero_le _⟩
  have := h.row
  rw [List.length_nil, List.nil_append, Nat.zero_add, ← e] at this
  rw [List.take_zero, List.append_nil, Nat.add_zero, hl]
  exact this
theorem grp_done {l : List Up} {i n : Nat} {u : Up} (hk : ∀ q x, q < n → (l.drop i)[q]? = some x → plc x u = 0) (k : ∀ x, l[i + n]? = some x → plc x u ≠ 0) : grp u (l.drop i) = (l.drop i).take n :=
  grp_here hk fun x hx => k x (by rwa [List.getElem?_drop] at hx)
set_option maxRecDepth 100000 in
set_option maxHeartbeats 51200000 in
theorem rwork_any (m : Mg) (fuel : Int) (w : World) (hm : MgIn w w.heap.size m) (hok : MgOk m) (h8 : ∀ u, u ∈ m.a ∨ u ∈ m.b ∨ u ∈ m.o → u.key.length ≤ 1099511627776 ∧ u.row.length ≤ 1099511627776) (hnn : m.a.length + m.b.length + m.o.length ≤ 1048576) :
    Calls Tryz.prog 9 #[m.val, .int .i64 fuel] w (Worked m fuel w) := by
  obtain ⟨i0, hi0, hz0, hz1, hz2⟩ := info_parts infoUp
  have HI := Lib.hid (And.intro Tryz.underlying22 (And.intro hi0 (And.intro hz0 (And.intro hz1 hz2))))
  obtain ⟨V, hV, hvb, hvo, hvz⟩ := wk_box w m
  have hin := hm.keep hvb
  have y1 := Lib.hid (rcheckM_any m V hin hok)
  have HB := Lib.hid (And.intro hvb (And.intro hvo hvz))
  have HK := Lib.hid (And.intro hin (And.intro hok (And.intro h8 hnn)))
  rw [show m.val = .agg #[.slice m.aA m.a.length m.ac, .slice m.bA m.b.length m.bc, .int .i64 m.i, .int .i64 m.j, .slice m.sA m.f.length m.sc, .slice m.oA m.o.length m.oc] from rfl] at y1 ⊢
  obtain ⟨d0, d1, d2, d3, d4, d5⟩ := own6 hvo
  clear hm hok hvb hvo hvz hin h8 hnn hi0 hz0 hz1 hz2
  go_enter Tryz.func9, Tryz.ntmps9
  go_upto_region 1 with fail
  rw [← hV]
  clear hV
  go_wp2_with fail
  refine y1.out.mono ?_
  rintro _ w1 ⟨n, rfl, hn, b1⟩
  have H1 := Lib.hid (And.intro hn (And.intro (HB.out.1.trans (b1.mono HB.out.1.size)) (And.intro (HB.out.2.1.past b1 HB.out.2.1.inside) (And.intro (HB.out.2.2.past b1 HB.out.2.2.inside) (HK.out.1.keep b1)))))
  clear d0 d1 d2 d3 d4 d5 b1 y1 hn
  by_cases h0 : n = 0
  case neg =>
    have t1 : (n != 0) = true := bne_iff_ne.2 h0
    obtain ⟨f0, f1, f2, f3, f4, f5⟩ := own_frozen6 H1.out.2.2.2.1
    obtain ⟨z0, z1, z2, z3, z4, z5⟩ := own6 H1.out.2.2.2.1
    obtain ⟨X, hX', hXo, hXb, hXs, hXh⟩ := own_six H1.out.2.2.2.1 (.slice none 0 0) (.slice none 0 0) (.int .i64 0) (.int .i64 0) (.slice none 0 0) (.slice none 0 0)
    have HX := Lib.hid (And.intro (hXb w.heap.size w H1.out.2.1 (by omega)) hXo)
    have HR := Lib.hid hX'
    have H0 := Lib.hid h0
    clear hXo hXb hXs hXh hX' h0
    go_wp2_with fail
    rw [← HR.out]
    obtain ⟨x0, x1, x2, x3, x4, x5⟩ := own6 HX.out.2
    exact bodyPost_ret (v := .tuple #[.agg #[.slice none 0 0, .slice none 0 0, .int .i64 0, .int .i64 0, .slice none 0 0, .slice none 0 0], .int .i64 0, .int .i64 8]) (by simp [results, Tryz.results9, go_sem, x0, x1, x2, x3, x4, x5]) rfl ⟨Mg.nil, 0, 8, rfl, .inl (by
      rcases H1.out.1 with ⟨_, e⟩ | ⟨e, _⟩
      · exact absurd e H0.out
      · exact ⟨e, rfl, rfl, rfl⟩), mg_nil_in _ _, mg_nil_ok, mg_nil_lo _, HX.out.1⟩
  subst h0
  have hmok : MOk m := by
    rcases H1.out.1 with ⟨e, _⟩ | ⟨_, e⟩
    · exact e
    · omega
  have y2 := Lib.hid (rcopyM_any m w1 H1.out.2.2.2.2 HK.out.2.1 HK.out.2.2.1)
  obtain ⟨d0, d1, d2, d3, d4, d5⟩ := own6 H1.out.2.2.1
  have HM := Lib.hid hmok
  rw [show m.val = .agg #[.slice m.aA m.a.length m.ac, .slice m.bA m.b.length m.bc, .int .i64 m.i, .int .i64 m.j, .slice m.sA m.f.length m.sc, .slice m.oA m.o.length m.oc] from rfl] at y2
  clear hmok
  go_wp2_with fail
  refine y2.out.mono ?_
  rintro _ w2 ⟨m1, rfl, hs1, hi1, ho1, hl1, b2, hr1⟩
  clear d0 d1 d2 d3 d4 d5 y2
  unfold Mg.val
  obtain ⟨i1, hi1'⟩ : ∃ i : Nat, m1.i = (i : Int) := ⟨m1.i.toNat, by have := HM.out.da.lo; rw [hs1.i]; omega⟩
  obtain ⟨j1, hj1'⟩ : ∃ j : Nat, m1.j = (j : Int) := ⟨m1.j.toNat, by have := HM.out.db.lo; rw [hs1.j]; omega⟩
  have hi1l : i1 ≤ m1.a.length := by have := HM.out.da.hi; have h3 := hs1.i; rw [len_p hs1.a]; omega
  have hj1l : j1 ≤ m1.b.length := by have := HM.out.db.hi; have h3 := hs1.j; rw [len_p hs1.b]; omega
  rw [hi1', hj1']
  have hPb : w.heap.size + 1 < w1.heap.size := H1.out.2.2.2.1.inside
  have oP := H1.out.2.2.1.past b2 H1.out.2.2.1.inside
  have oR := H1.out.2.2.2.1.past b2 H1.out.2.2.2.1.inside
  obtain ⟨X, hX', hXo, hXb, hXs, hXh⟩ := own_six oP (.slice m1.aA m1.a.length m1.ac) (.slice m1.bA m1.b.length m1.bc) (.int .i64 (i1 : Int)) (.int .i64 (j1 : Int)) (.slice m1.sA m1.f.length m1.sc) (.slice m1.oA m1.o.length m1.oc)
  have hst0 := rst_start (i := i1) (j := j1) hi1 ho1 hr1 hl1 (by omega) hXs hXh hXo
  have hbX : Below w.heap.size w X := hXb w.heap.size w (H1.out.2.1.trans (b2.mono H1.out.2.1.size)) (Nat.le_refl _)
  have hRX : Own X (w.heap.size + 1) 25 Mg.nil.cells := (hXh _ (by omega)).trans oR
  obtain ⟨d0, d1, d2, d3, d4, d5⟩ := own6 oP
  obtain ⟨f0, f1, f2, f3, f4, f5⟩ := own_frozen6 oP
  have hla := len_p hs1.a
  have hlb := len_p hs1.b
  have hlo := len_p hs1.o
  have hnn := HK.out.2.2.2
  have hii : m.i.toNat = i1 := by have h3 := hs1.i; omega
  have hjj : m.j.toNat = j1 := by have h3 := hs1.j; omega
  have hNl : (m.a.length - m.i.toNat) + (m.b.length - m.j.toNat) = (m1.a.length - i1) + (m1.b.length - j1) := by omega
  have hab : m1.a.length + m1.b.length ≤ 1048576 := by omega
  have hsz0 : m1.o.length + (m1.a.length - i1) + (m1.b.length - j1) ≤ 1048576 := by omega
  have h8' : ∀ u, u ∈ m1.a ∨ u ∈ m1.b → u.key.length ≤ 1099511627776 ∧ u.row.length ≤ 1099511627776 := fun u hu => by
    rcases hu with hu | hu
    · obtain ⟨y, hy, e⟩ := mem_p hs1.a hu
      obtain ⟨e1, e2, _, _⟩ := up_p e
      rw [← e1, ← e2]; exact HK.out.2.2.1 y (.inl hy)
    · obtain ⟨y, hy, e⟩ := mem_p hs1.b hu
      obtain ⟨e1, e2, _, _⟩ := up_p e
      rw [← e1, ← e2]; exact HK.out.2.2.1 y (.inr (.inl hy))
  have hms : MgSame m m1 := ⟨hs1.a, hs1.b, hs1.i, hs1.j, hs1.f, hs1.o⟩
  have HS := Lib.hid (And.intro hst0 (And.intro hbX (And.intro hRX (show w1.heap.size ≤ X.heap.size by rw [hXs]; exact b2.size))))
  have H2 := Lib.hid (And.intro ho1 (And.intro hl1 (And.intro hms (And.intro (And.intro hNl (And.intro hii hjj)) (And.intro h8' (And.intro hPb hsz0))))))
  have HX := Lib.hid hX'
  clear hs1 hi1 ho1 hl1 b2 hr1 hi1' hj1' hPb oP oR hX' hXo hXb hXs hXh hst0 hbX hRX hla hlb hlo hnn hNl hii hjj hsz0 h8' hms
  go_upto_region 4 with fail
  rw [← HX.out]
  clear HX d0 d1 d2 d3 d4 d5 f0 f1 f2 f3 f4 f5
  go_wp2_with fail
  go_loopw [7] (fun v7 wr => ∃ (i j k : Nat) (v : Value) (o : List Up) (n : Nat), v7 = .int .i64 (k : Int) ∧ RSt w1.heap.size w.heap.size m1 i j v o wr ∧ Below w.heap.size w wr ∧ Own wr (w.heap.size + 1) 25 Mg.nil.cells ∧ w1.heap.size ≤ wr.heap.size ∧ i ≤ m1.a.length ∧ j ≤ m1.b.length ∧ k ≤ i + j ∧ o.length + (m1.a.length - i) + (m1.b.length - j) ≤ 1048576 ∧
      workM m1.f fuel ((m1.a.length - i1) + (m1.b.length - j1)) (curM m1 i1 j1 0 m1.o) = workM m1.f fuel n (curM m1 i j k o) ∧ (m1.a.length - i) + (m1.b.length - j) ≤ n)
    (fun _ wr => m1.a.length + m1.b.length - ((intOf ((wr.cell? ⟨w.heap.size, 2, none⟩).getD undef)).toNat + (intOf ((wr.cell? ⟨w.heap.size, 3, none⟩).getD undef)).toNat))
  case atStart => exact ⟨i1, j1, 0, _, m1.o, _, rfl, HS.out.1, HS.out.2.1, HS.out.2.2.1, HS.out.2.2.2, hi1l, hj1l, by omega, H2.out.2.2.2.2.2.2, rfl, Nat.le_refl _⟩
  case round =>
    obtain ⟨i, j, k, v, o, n, rfl, hst, hbw, hz, hws, hi, hj, hk, hsz, hw, hn⟩ := hrel
    obtain ⟨oA, oc, hv, _, _, _⟩ := lies_of_own (size := 6) (cells := Up.cells) (by decide) ucells_len rfl hst.row
    subst hv
    obtain ⟨wi, hwi⟩ : ∃ wi, wi = wr := ⟨_, rfl⟩
    subst hwi
    have HN := Lib.hid (And.intro hi (And.intro hj (And.intro hk (And.intro hsz (And.intro hw hn)))))
    have HW := Lib.hid (And.intro hst (And.intro hbw (And.intro hz hws)))
    have HC0 := Lib.hid (own6 hst.own)
    obtain ⟨B, hB⟩ : ∃ B, decide ((k : Int) < fuel ∧ (i < m1.a.length ∨ j < m1.b.length)) = B := ⟨_, rfl⟩
    have HBB := Lib.hid hB
    obtain ⟨c0, c1, c2, c3, c4, c5⟩ := own6 hst.own
    clear hst hbw hz hsz hw hn hB hws
    go_upto_region 5 with fail
    go_cut [38] (fun s38 wx => s38 = .bool B ∧ RSt w1.heap.size w.heap.size m1 i j (.slice oA o.length oc) o wx ∧ Below w.heap.size w wx ∧ Own wx (w.heap.size + 1) 25 Mg.nil.cells ∧ w1.heap.size ≤ wx.heap.size)
    case first =>
      by_cases g1 : (k : Int) < fuel
      · have t1 : decide ((k : Int) < fuel) = true := decide_eq_true g1
        by_cases g2 : i < m1.a.length
        · have t2 : decide ((i : Int) < (m1.a.length : Int)) = true := decide_eq_true (by omega)
          have t2' : decide (i < m1.a.length) = true := decide_eq_true g2
          have HF := Lib.hid (show true = B from by rw [← HBB.out]; exact (decide_eq_true ⟨g1, .inl g2⟩).symm)
          clear g1 g2
          go_wp2_with fail
          go_meet
          exact ⟨by rw [HF.out], HW.out⟩
        · have t2 : decide ((i : Int) < (m1.a.length : Int)) = false := decide_eq_false (by omega)
          have t2' : decide (i < m1.a.length) = false := decide_eq_false g2
          by_cases g3 : j < m1.b.length
          · have t3 : decide ((j : Int) < (m1.b.length : Int)) = true := decide_eq_true (by omega)
            have t3' : decide (j < m1.b.length) = true := decide_eq_true g3
            have HF := Lib.hid (show true = B from by rw [← HBB.out]; exact (decide_eq_true ⟨g1, .inr g3⟩).symm)
            clear g1 g2 g3
            go_wp2_with fail
            go_meet
            exact ⟨by rw [HF.out], HW.out⟩
          · have t3 : decide ((j : Int) < (m1.b.length : Int)) = false := decide_eq_false (by omega)
            have t3' : decide (j < m1.b.length) = false := decide_eq_false g3
            have HF := Lib.hid (show false = B from by rw [← HBB.out]; exact (decide_eq_false (fun h => by omega)).symm)
            clear g1 g2 g3
            go_wp2_with fail
            go_meet
            exact ⟨by rw [HF.out], HW.out⟩
      · have t1 : decide ((k : Int) < fuel) = false := decide_eq_false g1
        have HF := Lib.hid (show false = B from by rw [← HBB.out]; exact (decide_eq_false (fun h => g1 h.1)).symm)
        clear g1
        go_wp2_with fail
        go_meet
        exact ⟨by rw [HF.out], HW.out⟩
    case rest =>
      obtain ⟨rfl, hst, hbw, hz, hws⟩ := hcut
      clear c0 c1 c2 c3 c4 c5
      cases B with
      | false =>
        have HE := Lib.hid (show workM m1.f fuel n (curM m1 i j k o) = { curM m1 i j k o with E := 0 } from by
          have h1 := of_decide_eq_false HBB.out
          by_cases g1 : (k : Int) < fuel
          · exact work_none (cur_none (by omega) (by omega)) n
          · exact work_full g1 n)
        obtain ⟨c0, c1, c2, c3, c4, c5⟩ := own6 hst.own
        obtain ⟨f0, f1, f2, f3, f4, f5⟩ := own_frozen6 hz
        obtain ⟨z0, z1, z2, z3, z4, z5⟩ := own6 hz
        obtain ⟨Y, hY', hYo, hYb, hYs, hYh⟩ := own_six hz (.slice m1.aA m1.a.length m1.ac) (.slice m1.bA m1.b.length m1.bc) (.int .i64 (i : Int)) (.int .i64 (j : Int)) (.slice m1.sA m1.f.length m1.sc) (.slice oA o.length oc)
        obtain ⟨r1, r2⟩ := rout_fine (R := w.heap.size + 1) hst H2.out.2.1 H2.out.2.2.2.2.2.1 hYs hYh
        have HY := Lib.hid (And.intro (hYb w.heap.size w hbw (Nat.le_succ _)) (And.intro hYo (And.intro r1 (r2.mono (show w.heap.size ≤ w1.heap.size by have := H2.out.2.2.2.2.2.1; omega)))))
        have HR := Lib.hid hY'
        have HOK := Lib.hid hst.ok
        clear hst hbw hz hYo hYb hYs hYh hY' r1 r2
        go_wp2_with fail
        rw [← HR.out]
        obtain ⟨x0, x1, x2, x3, x4, x5⟩ := own6 HY.out.2.1
        exact bodyPost_ret (v := .tuple #[.agg #[.slice m1.aA m1.a.length m1.ac, .slice m1.bA m1.b.length m1.bc, .int .i64 (i : Int), .int .i64 (j : Int), .slice m1.sA m1.f.length m1.sc, .slice oA o.length oc], .int .i64 (k : Int), .int .i64 0]) (by simp [results, Tryz.results9, go_sem, x0, x1, x2, x3, x4, x5]) rfl ⟨outM m1 i j oA oc o, k, 0, rfl, .inr ⟨HM.out, ⟨H2.out.2.2.1.a, H2.out.2.2.1.b, H2.out.2.2.1.f, work_fin H2.out.2.2.1 HN.out.2.2.2.2.1 HN.out.1 HN.out.2.1 H2.out.2.2.2.1 HE.out⟩⟩, HY.out.2.2.1, ⟨H2.out.1.a, H2.out.1.b, H2.out.1.f, ⟨by have := HN.out.2.2.2.1; show o.length ≤ _; omega, HOK.out⟩, ⟨by show -9223372036854775808 ≤ (i : Int); omega, by show (i : Int) ≤ 9223372036854775807; omega⟩, ⟨by show -9223372036854775808 ≤ (j : Int); omega, by show (j : Int) ≤ 9223372036854775807; omega⟩⟩, HY.out.2.2.2, HY.out.1⟩
      | true =>
        have hcond := of_decide_eq_true HBB.out
        have y6 := Lib.hid (rnext_any (outM m1 i j oA oc o) i j wc rfl rfl hst.a H2.out.1.a hst.b H2.out.1.b hi hj hcond.2)
        dsimp only [outM, Mg.val] at y6
        unfold Nexts at y6
        dsimp only [outM] at y6
        obtain ⟨c0, c1, c2, c3, c4, c5⟩ := own6 hst.own
        have H5 := Lib.hid (And.intro hst (And.intro hbw (And.intro hz hcond)))
        clear hst hbw hz hcond
        go_wp2_with fail
        refine y6.out.mono ?_
        rintro _ w6 ⟨u, hnx, hum, rfl, b6⟩
        obtain ⟨V8, hV8, hb8, hs8, ho8⟩ := upbox w6 u
        have b68 := belows b6 hb8
        have HW0 := Lib.hid (Nat.le_trans hws b68.size)
        clear hws
        have h8s := H5.out.1.past b68
        have hz8 := H5.out.2.2.1.past b68 H5.out.2.2.1.inside
        have hbw8 := H5.out.2.1.trans (b68.mono H5.out.2.1.size)
        have huO : UOk u := by
          rcases hum with hu | hu
          · exact H2.out.1.a.ok u hu
          · exact H2.out.1.b.ok u hu
        have huI : ∀ W, Below V8.heap.size V8 W → UIn W W.heap.size u := fun W hW => by
          rcases hum with hu | hu
          · exact (h8s.past hW).a.each_ u hu
          · exact (h8s.past hW).b.each_ u hu
        have H8 := Lib.hid (And.intro h8s (And.intro hz8 (And.intro hbw8 (And.intro ho8 (And.intro huO (And.intro huI hnx))))))
        have hC := fun p : Past V8 => own6 ((h8s.past p.h).own)
        clear c0 c1 c2 c3 c4 c5 y6 b6 b68 hb8 hs8 ho8 h8s hz8 hbw8 huO huI hnx hum
        go_upto_region 7 with fail
        rw [← hV8]
        clear hV8
        refine wp_region_past V8 (by kernel_rfl) (by kernel_rfl) (Below.refl _ _) ?_
        repeat (first | go_big_quiet_step (fail) | quiet_step (fail))
        refine wpQuiet_nil ?_
        intro wz hw'
        obtain ⟨⟨wy, hbz⟩, hw''⟩ := hw'
        dsimp only at hw''
        subst hw''
        obtain ⟨W9, hW9⟩ : ∃ W9, W9 = wz := ⟨_, rfl⟩
        subst hW9
        have H9 := Lib.hid (And.intro (H8.out.1.past hbz) (And.intro (H8.out.2.1.past hbz H8.out.2.1.inside) (And.intro (H8.out.2.2.1.trans (hbz.mono H8.out.2.2.1.size)) (And.intro (H8.out.2.2.2.1.past hbz H8.out.2.2.2.1.inside) (And.intro H8.out.2.2.2.2.1 (And.intro (fun W hW => H8.out.2.2.2.2.2.1 W (belows hbz hW) : ∀ W, Below W9.heap.size W9 W → UIn W W.heap.size u) H8.out.2.2.2.2.2.2))))))
        have HW9 := Lib.hid (show w1.heap.size ≤ W9.heap.size from Nat.le_trans HW0.out (hbz.size))
        clear hC hbz
        go_upto_block 2 with fail
        go_cut [9, 11] (fun v9 v11 wx => ∃ n q : Nat, q = i + n ∧ v9 = .int .i64 (q : Int) ∧ GSt W9 wx ([] : List Up) m1.a i n u v11 ∧ grp u (m1.a.drop i) = (m1.a.drop i).take n)
        case first =>
          go_wp2_with fail
          go_loopw [9, 11] (fun v9 v11 wx => ∃ n q : Nat, q = i + n ∧ v9 = .int .i64 (q : Int) ∧ GSt W9 wx ([] : List Up) m1.a i n u v11) (fun v9 _ _ => m1.a.length - (intOf v9).toNat)
          case atStart => exact ⟨0, i, rfl, rfl, ⟨Below.refl _ _, World.ownsRow_nil _ _ _ _, (fun q x hq => by omega), Nat.zero_le _⟩⟩
          case round =>
            obtain ⟨n, q, hq, rfl, hg⟩ := hrel
            have HQN := Lib.hid hq
            clear hq
            obtain ⟨A11, c11, t11, ht11, rfl, hrow11, hl11⟩ := hg.form
            have HT11 := Lib.hid ht11
            have HROW := Lib.hid hrow11
            clear ht11 hrow11
            obtain ⟨wq, hwq⟩ : ∃ wq, wq = wr := ⟨_, rfl⟩
            subst hwq
            have hsq := H9.out.1.past hg.below
            have hP := fun p : Past wq => own6 ((hsq.past p.h).own)
            have hQ := fun p : Past wq => own6 ((H9.out.2.2.2.1.past hg.below H9.out.2.2.2.1.inside).past p.h (Nat.lt_of_lt_of_le H9.out.2.2.2.1.inside hg.below.size))
            have hgn := hg.n_
            have HG := Lib.hid hg
            by_cases hin : q < m1.a.length
            · obtain ⟨x, hx⟩ : ∃ x, m1.a[q]? = some x := ⟨_, List.getElem?_eq_getElem hin⟩
              have hxm := List.mem_of_getElem? hx
              obtain ⟨qb, qo, hA, hB, hxs⟩ := lies_up hsq.a.head (by omega)
              have hX := fun p : Past wq => ((hxs q x hx).past_ p.h hB).six
              have hxo := H2.out.1.a.ok x hxm
              have hxi := hsq.a.each_ x hxm
              have u1 := fun p : Past wq => calls_past (rplace_any x u p.w (hxi.keep p.h) (H9.out.2.2.2.2.2.1 p.w (hg.below.trans (p.h.mono hg.below.size))) hxo H9.out.2.2.2.2.1)
              unfold Up.val at u1
              rw [hA] at hP
              obtain ⟨z, hz⟩ : ∃ z, plc x u = z := ⟨_, rfl⟩
              rw [hz] at u1
              have q0 : (0 : Int) ≤ (q : Int) := by omega
              have q1 : (q : Int) < (m1.a.length : Int) := by omega
              have q2 : decide ((q : Int) < (m1.a.length : Int)) = true := decide_eq_true q1
              have q2' : decide (q < m1.a.length) = true := decide_eq_true hin
              have HX := Lib.hid (And.intro hx hz)
              clear hg hsq hgn hxm hA hB hxs hxo hxi hz hx hl11
              by_cases hz0 : z = 0
              · have tz : (z == 0) = true := beq_iff_eq.2 hz0
                have HZ0 := Lib.hid hz0
                clear hz0
                go_upto_region 9 with fail
                refine wp_region_past wq (by kernel_rfl) (by kernel_rfl) (Below.refl _ _) ?_
                repeat (first | go_big_quiet_step (fail) | quiet_step (fail))
                quiet_step ((go_at_call 31; exact u1 _))
                repeat (first | go_big_quiet_step (fail) | quiet_step (fail))
                refine wpQuiet_nil ?_
                intro wz hw'
                obtain ⟨p, hw''⟩ := hw'
                subst hw''
                obtain ⟨c0, c1, c2, c3, c4, c5⟩ := hP p
                obtain ⟨e0, e1, e2, e3, e4, e5⟩ := hX p
                clear hP hQ hX u1
                have hbp := p.h
                obtain ⟨V10, hV10, hb10, hs10, _⟩ := upbox p.w x
                have hb10' := belows hbp hb10
                have hlx := up_made p.w x
                have hrr := own_below HROW.out hb10'
                have hsz10 : W9.heap.size ≤ V10.heap.size := Nat.le_trans HG.out.below.size hb10'.size
                subst hV10
                have HR := Lib.hid hrr
                have HLX := Lib.hid hlx
                have HB10 := Lib.hid hb10'
                have hgn := HG.out.n_
                have hgl : t11 ≤ 1048577 := by have h1 := HT11.out; have h2 := HG.out.n_; simp only [List.length_nil] at h1; omega
                clear hrr hlx hb10' hb10 hs10 hbp
                go_wp2_with (at_builtin; refine wpList_append_liesK (l := [x]) _ rfl (.tmp 60) (.tmp 66) 22 48 rfl i0 _ 80 HI.out.1 HI.out.2.1 HI.out.2.2.1 HI.out.2.2.2.1 HI.out.2.2.2.2 rfl (by decide) ucells_len ucells_one W9.heap.size _ _ _ rfl HR.out 1 rfl HLX.out ?a1 ?a2 ?a3 ?a4)
                case a1 => unfold maxLen; simp only [List.length_singleton]; omega
                case a2 => simp only [List.length_singleton]; omega
                case a3 => exact hsz10
                intro v' w' ho' hg' hv'
                have HNX := Lib.hid (GSt.next HG.out (show (m1.a.drop i)[n]? = some x by rw [List.getElem?_drop, ← HQN.out]; exact HX.out.1) (HX.out.2.trans HZ0.out) HB10.out hg' HT11.out (by simpa using ho'))
                clear ho' hg' hv' c0 c1 c2 c3 c4 c5 e0 e1 e2 e3 e4 e5
                go_wp2_with fail
                go_roundw
                case rel => exact ⟨n + 1, q + 1, by have := HQN.out; omega, by go_num, HNX.out⟩
                case measure => simp [intOf]; omega
              · have tz : (z == 0) = false := beq_eq_false_iff_ne.2 hz0
                have HZ0 := Lib.hid hz0
                clear hz0
                go_upto_region 9 with fail
                refine wp_region_past wq (by kernel_rfl) (by kernel_rfl) (Below.refl _ _) ?_
                repeat (first | go_big_quiet_step (fail) | quiet_step (fail))
                quiet_step ((go_at_call 31; exact u1 _))
                repeat (first | go_big_quiet_step (fail) | quiet_step (fail))
                refine wpQuiet_nil ?_
                intro wz hw'
                obtain ⟨p, hw''⟩ := hw'
                subst hw''
                have HP := Lib.hid p.h
                clear hP hQ hX u1
                go_wp2_with fail
                go_meet
                exact ⟨n, q, HQN.out, rfl, ⟨HG.out.below.trans (HP.out.mono HG.out.below.size), own_below HG.out.row HP.out, HG.out.keys, HG.out.n_⟩, grp_done HG.out.keys (fun y hy => by
                  rw [← HQN.out, HX.out.1] at hy
                  injection hy with hy
                  rw [← hy, HX.out.2]; exact HZ0.out)⟩
            · have q2 : decide ((q : Int) < (m1.a.length : Int)) = false := decide_eq_false (by omega)
              have q2' : decide (q < m1.a.length) = false := decide_eq_false hin
              have HIN := Lib.hid hin
              clear hg hsq hgn hin hl11
              go_upto_region 9 with fail
              refine wp_region_past wq (by kernel_rfl) (by kernel_rfl) (Below.refl _ _) ?_
              repeat (first | go_big_quiet_step (fail) | quiet_step (fail))
              refine wpQuiet_nil ?_
              intro wz hw'
              obtain ⟨p, hw''⟩ := hw'
              subst hw''
              have HP := Lib.hid p.h
              clear hP hQ
              go_wp2_with fail
              go_meet
              exact ⟨n, q, HQN.out, rfl, ⟨HG.out.below.trans (HP.out.mono HG.out.below.size), own_below HG.out.row HP.out, HG.out.keys, HG.out.n_⟩, grp_done HG.out.keys (fun y hy => by
                have h1 := (List.getElem?_eq_some_iff.1 hy).1
                rw [← HQN.out] at h1
                exact absurd h1 HIN.out)⟩
        case rest =>
          obtain ⟨n1, q1, hq1, rfl, hg1, he1⟩ := hcut
          have hgs := gst_switch (l' := m1.b) (j := j) hg1 he1
          have hn1 := hg1.n_
          have hl1g : (grp u (m1.a.drop i)).length = n1 := by rw [he1, List.length_take, List.length_drop]; omega
          obtain ⟨g0, hg0⟩ : ∃ g0, grp u (m1.a.drop i) = g0 := ⟨_, rfl⟩
          rw [hg0] at hgs hl1g
          have HG0 := Lib.hid (And.intro hgs (And.intro hg0 (And.intro hl1g hn1)))
          have HQ1 := Lib.hid hq1
          clear hg1 he1 hgs hl1g hn1 hg0 hq1
          go_upto_block 4 with fail
          go_cut [10, 11] (fun v9 v11 wx => ∃ n q : Nat, q = j + n ∧ v9 = .int .i64 (q : Int) ∧ GSt W9 wx g0 m1.b j n u v11 ∧ grp u (m1.b.drop j) = (m1.b.drop j).take n)
          case first =>
            go_wp2_with fail
            go_loopw [10, 11] (fun v9 v11 wx => ∃ n q : Nat, q = j + n ∧ v9 = .int .i64 (q : Int) ∧ GSt W9 wx g0 m1.b j n u v11) (fun v9 _ _ => m1.b.length - (intOf v9).toNat)
            case atStart => exact ⟨0, j, rfl, rfl, HG0.out.1⟩
            case round =>
              obtain ⟨n, q, hq, rfl, hg⟩ := hrel
              have HQN := Lib.hid hq
              clear hq
              obtain ⟨A11, c11, t11, ht11, rfl, hrow11, hl11⟩ := hg.form
              have HT11 := Lib.hid ht11
              have HROW := Lib.hid hrow11
              clear ht11 hrow11
              obtain ⟨wq, hwq⟩ : ∃ wq, wq = wr := ⟨_, rfl⟩
              subst hwq
              have hsq := H9.out.1.past hg.below
              have hP := fun p : Past wq => own6 ((hsq.past p.h).own)
              have hQ := fun p : Past wq => own6 ((H9.out.2.2.2.1.past hg.below H9.out.2.2.2.1.inside).past p.h (Nat.lt_of_lt_of_le H9.out.2.2.2.1.inside hg.below.size))
              have hgn := hg.n_
              have HG := Lib.hid hg
              by_cases hin : q < m1.b.length
              · obtain ⟨x, hx⟩ : ∃ x, m1.b[q]? = some x := ⟨_, List.getElem?_eq_getElem hin⟩
                have hxm := List.mem_of_getElem? hx
                obtain ⟨qb, qo, hA, hB, hxs⟩ := lies_up hsq.b.head (by omega)
                have hX := fun p : Past wq => ((hxs q x hx).past_ p.h hB).six
                have hxo := H2.out.1.b.ok x hxm
                have hxi := hsq.b.each_ x hxm
                have u1 := fun p : Past wq => calls_past (rplace_any x u p.w (hxi.keep p.h) (H9.out.2.2.2.2.2.1 p.w (hg.below.trans (p.h.mono hg.below.size))) hxo H9.out.2.2.2.2.1)
                unfold Up.val at u1
                rw [hA] at hP
                obtain ⟨z, hz⟩ : ∃ z, plc x u = z := ⟨_, rfl⟩
                rw [hz] at u1
                have q0 : (0 : Int) ≤ (q : Int) := by omega
                have q1 : (q : Int) < (m1.b.length : Int) := by omega
                have q2 : decide ((q : Int) < (m1.b.length : Int)) = true := decide_eq_true q1
                have q2' : decide (q < m1.b.length) = true := decide_eq_true hin
                have HX := Lib.hid (And.intro hx hz)
                clear hg hsq hgn hxm hA hB hxs hxo hxi hz hx hl11
                by_cases hz0 : z = 0
                · have tz : (z == 0) = true := beq_iff_eq.2 hz0
                  have HZ0 := Lib.hid hz0
                  clear hz0
                  go_upto_region 12 with fail
                  refine wp_region_past wq (by kernel_rfl) (by kernel_rfl) (Below.refl _ _) ?_
                  repeat (first | go_big_quiet_step (fail) | quiet_step (fail))
                  quiet_step ((go_at_call 31; exact u1 _))
                  repeat (first | go_big_quiet_step (fail) | quiet_step (fail))
                  refine wpQuiet_nil ?_
                  intro wz hw'
                  obtain ⟨p, hw''⟩ := hw'
                  subst hw''
                  obtain ⟨c0, c1, c2, c3, c4, c5⟩ := hP p
                  obtain ⟨e0, e1, e2, e3, e4, e5⟩ := hX p
                  clear hP hQ hX u1
                  have hbp := p.h
                  obtain ⟨V10, hV10, hb10, hs10, _⟩ := upbox p.w x
                  have hb10' := belows hbp hb10
                  have hlx := up_made p.w x
                  have hrr := own_below HROW.out hb10'
                  have hsz10 : W9.heap.size ≤ V10.heap.size := Nat.le_trans HG.out.below.size hb10'.size
                  subst hV10
                  have HR := Lib.hid hrr
                  have HLX := Lib.hid hlx
                  have HB10 := Lib.hid hb10'
                  have hgn := HG.out.n_
                  have hgl : t11 ≤ 1048577 := by have h1 := HT11.out; have h2 := HG.out.n_; have h3 := HG0.out.2.2; omega
                  clear hrr hlx hb10' hb10 hs10 hbp
                  go_wp2_with (at_builtin; refine wpList_append_liesK (l := [x]) _ rfl (.tmp 85) (.tmp 91) 22 48 rfl i0 _ 80 HI.out.1 HI.out.2.1 HI.out.2.2.1 HI.out.2.2.2.1 HI.out.2.2.2.2 rfl (by decide) ucells_len ucells_one W9.heap.size _ _ _ rfl HR.out 1 rfl HLX.out ?b1 ?b2 ?b3 ?b4)
                  case b1 => unfold maxLen; simp only [List.length_singleton]; omega
                  case b2 => simp only [List.length_singleton]; omega
                  case b3 => exact hsz10
                  intro v' w' ho' hg' hv'
                  have HNX := Lib.hid (GSt.next HG.out (show (m1.b.drop j)[n]? = some x by rw [List.getElem?_drop, ← HQN.out]; exact HX.out.1) (HX.out.2.trans HZ0.out) HB10.out hg' HT11.out (by simpa using ho'))
                  clear ho' hg' hv' c0 c1 c2 c3 c4 c5 e0 e1 e2 e3 e4 e5
                  go_wp2_with fail
                  go_roundw
                  case rel => exact ⟨n + 1, q + 1, by have := HQN.out; omega, by go_num, HNX.out⟩
                  case measure => simp [intOf]; omega
                · have tz : (z == 0) = false := beq_eq_false_iff_ne.2 hz0
                  have HZ0 := Lib.hid hz0
                  clear hz0
                  go_upto_region 12 with fail
                  refine wp_region_past wq (by kernel_rfl) (by kernel_rfl) (Below.refl _ _) ?_
                  repeat (first | go_big_quiet_step (fail) | quiet_step (fail))
                  quiet_step ((go_at_call 31; exact u1 _))
                  repeat (first | go_big_quiet_step (fail) | quiet_step (fail))
                  refine wpQuiet_nil ?_
                  intro wz hw'
                  obtain ⟨p, hw''⟩ := hw'
                  subst hw''
                  have HP := Lib.hid p.h
                  clear hP hQ hX u1
                  go_wp2_with fail
                  go_meet
                  exact ⟨n, q, HQN.out, rfl, ⟨HG.out.below.trans (HP.out.mono HG.out.below.size), own_below HG.out.row HP.out, HG.out.keys, HG.out.n_⟩, grp_done HG.out.keys (fun y hy => by
                    rw [← HQN.out, HX.out.1] at hy
                    injection hy with hy
                    rw [← hy, HX.out.2]; exact HZ0.out)⟩
              · have q2 : decide ((q : Int) < (m1.b.length : Int)) = false := decide_eq_false (by omega)
                have q2' : decide (q < m1.b.length) = false := decide_eq_false hin
                have HIN := Lib.hid hin
                clear hg hsq hgn hin hl11
                go_upto_region 12 with fail
                refine wp_region_past wq (by kernel_rfl) (by kernel_rfl) (Below.refl _ _) ?_
                repeat (first | go_big_quiet_step (fail) | quiet_step (fail))
                refine wpQuiet_nil ?_
                intro wz hw'
                obtain ⟨p, hw''⟩ := hw'
                subst hw''
                have HP := Lib.hid p.h
                clear hP hQ
                go_wp2_with fail
                go_meet
                exact ⟨n, q, HQN.out, rfl, ⟨HG.out.below.trans (HP.out.mono HG.out.below.size), own_below HG.out.row HP.out, HG.out.keys, HG.out.n_⟩, grp_done HG.out.keys (fun y hy => by
                  have h1 := (List.getElem?_eq_some_iff.1 hy).1
                  rw [← HQN.out] at h1
                  exact absurd h1 HIN.out)⟩
          case rest =>
            obtain ⟨n2, q2, hq2, rfl, hg2, he2⟩ := hcut
            have hn2 := hg2.n_
            have HQ2 := Lib.hid hq2
            clear hq2
            obtain ⟨A11, c11, t11, ht11, rfl, _, hl11⟩ := hg2.form
            have hl2g : (grp u (m1.b.drop j)).length = n2 := by rw [he2, List.length_take, List.length_drop]; omega
            rw [← he2] at hl11
            obtain ⟨g1, hg1⟩ : ∃ g1, grp u (m1.b.drop j) = g1 := ⟨_, rfl⟩
            rw [hg1] at hl11 hl2g
            have hmem0 : ∀ x ∈ g0, x ∈ m1.a := fun x hx => by rw [← HG0.out.2.1] at hx; exact List.mem_of_mem_drop ((List.takeWhile_sublist _).subset hx)
            have hmem1 : ∀ x ∈ g1, x ∈ m1.b := fun x hx => by rw [← hg1] at hx; exact List.mem_of_mem_drop ((List.takeWhile_sublist _).subset hx)
            have HB9 := Lib.hid (show W9.heap.size ≤ wc.heap.size from hg2.below.size)
            have hs11 := H9.out.1.past hg2.below
            have hups : Ups wc wc.heap.size A11 (g0 ++ g1) := ⟨hl11, fun x hx => by
              rcases List.mem_append.1 hx with hx | hx
              · exact hs11.a.each_ x (hmem0 x hx)
              · exact hs11.b.each_ x (hmem1 x hx)⟩
            have hokG : ∀ x ∈ g0 ++ g1, UOk x := fun x hx => by
              rcases List.mem_append.1 hx with hx | hx
              · exact H2.out.1.a.ok x (hmem0 x hx)
              · exact H2.out.1.b.ok x (hmem1 x hx)
            have h8G : ∀ x ∈ g0 ++ g1, x.key.length ≤ 1099511627776 ∧ x.row.length ≤ 1099511627776 := fun x hx => by
              rcases List.mem_append.1 hx with hx | hx
              · exact H2.out.2.2.2.2.1 x (.inl (hmem0 x hx))
              · exact H2.out.2.2.2.2.1 x (.inr (hmem1 x hx))
            have hGl : (g0 ++ g1).length = t11 := by rw [List.length_append, hl2g, ht11]
            have hGn : (g0 ++ g1).length ≤ 1048576 := by have h1 := HG0.out.2.2; omega
            have y15 := Lib.hid (radvL_any A11 c11 (g0 ++ g1) m1.sA m1.sc m1.f wc hups hokG h8G (by omega) hs11.f H2.out.1.f.n)
            unfold Copied at y15
            rw [hGl] at y15
            obtain ⟨c0, c1, c2, c3, c4, c5⟩ := own6 hs11.own
            have H11 := Lib.hid (And.intro hs11 (And.intro (H9.out.2.1.past hg2.below H9.out.2.1.inside) (And.intro (H9.out.2.2.1.trans (hg2.below.mono H9.out.2.2.1.size)) (And.intro hg1 (And.intro hGl (And.intro hGn (And.intro hl2g hn2)))))))
            clear hg2 he2 hn2 hl11 hl2g hg1 ht11 hmem0 hmem1 hs11 hups hokG h8G hGl hGn
            go_wp2_with fail
            refine y15.out.mono ?_
            rintro _ w15 ⟨A15, c15, out15, rfl, hp15, hu15, ho15, b15⟩
            obtain ⟨V16, hV16, hb16, hul⟩ := one_list w15 A15 c15 out15 hu15
            have hl15 : out15.length = (g0 ++ g1).length := by rw [len_p hp15, advL_len]
            have y16 := Lib.hid (rcons_new (some ⟨w15.heap.size, 0, none⟩) 1 _ V16 hul (fun s hs x hx => by
              obtain rfl : s = ⟨A15, c15, out15⟩ := by simpa using hs
              exact ho15 x hx) (by have := H11.out.2.2.2.2.2.1; simp [flatR]; omega) (by simp))
            unfold UpsNew at y16
            simp only [List.map_cons, List.map_nil] at y16
            rw [(consL_p hp15).1, (consL_p hp15).2] at y16
            obtain ⟨E, hE⟩ : ∃ E, consE [advL m1.f (g0 ++ g1)] = E := ⟨_, rfl⟩
            rw [hE] at y16
            have hb116 := belows b15 hb16
            have HE0 := Lib.hid (And.intro hE (And.intro hb116 hl15))
            clear hp15 hu15 ho15 b15 hb16 hul hl15 hE hb116 y15 c0 c1 c2 c3 c4 c5
            go_wp2_with fail
            rw [← hV16]
            clear hV16
            refine y16.out.mono ?_
            rintro _ w17 ⟨A17, c17, ev, rfl, hpe, hue, hoe, b17, hle⟩
            have hb1117 := belows HE0.out.2.1 b17
            have hs17 := H11.out.1.past hb1117
            have hz17 := H11.out.2.1.past hb1117 H11.out.2.1.inside
            have hbw17 := H11.out.2.2.1.trans (hb1117.mono H11.out.2.2.1.size)
            have hGG : grp u (curM m1 i j k o).ra ++ grp u (curM m1 i j k o).rb = g0 ++ g1 := by
              show grp u (m1.a.drop i) ++ grp u (m1.b.drop j) = _
              rw [HG0.out.2.1, H11.out.2.2.2.1]
            have HGG := Lib.hid hGG
            have hnx := H8.out.2.2.2.2.2.2
            clear y16 hGG
            by_cases hE0 : E = 0
            case neg =>
              have t2 : (E != 0) = true := bne_iff_ne.2 hE0
              have hn0 : 0 < n := by have h1 := HN.out.2.2.2.2.2; have h2 := H5.out.2.2.2.2; omega
              have HE := Lib.hid (show workM m1.f fuel n (curM m1 i j k o) = { curM m1 i j k o with E := E } from by
                obtain ⟨n', rfl⟩ : ∃ n', n = n' + 1 := ⟨n - 1, by omega⟩
                have hc : consE [advL m1.f (grp u (curM m1 i j k o).ra ++ grp u (curM m1 i j k o).rb)] ≠ 0 := fun h => hE0 (by rw [HGG.out] at h; exact HE0.out.1.symm.trans h)
                rw [work_err H5.out.2.2.2.1 hnx hc, HGG.out, HE0.out.1])
              have hst := hs17
              have hz := hz17
              have hbw := hbw17
              clear hs17 hz17 hbw17 hb1117 hpe hue hoe b17 hle hnx hE0 hn0
              obtain ⟨c0, c1, c2, c3, c4, c5⟩ := own6 hst.own
              obtain ⟨f0, f1, f2, f3, f4, f5⟩ := own_frozen6 hz
              obtain ⟨z0, z1, z2, z3, z4, z5⟩ := own6 hz
              obtain ⟨Y, hY', hYo, hYb, hYs, hYh⟩ := own_six hz (.slice m1.aA m1.a.length m1.ac) (.slice m1.bA m1.b.length m1.bc) (.int .i64 (i : Int)) (.int .i64 (j : Int)) (.slice m1.sA m1.f.length m1.sc) (.slice oA o.length oc)
              obtain ⟨r1, r2⟩ := rout_fine (R := w.heap.size + 1) hst H2.out.2.1 H2.out.2.2.2.2.2.1 hYs hYh
              have HY := Lib.hid (And.intro (hYb w.heap.size w hbw (Nat.le_succ _)) (And.intro hYo (And.intro r1 (r2.mono (show w.heap.size ≤ w1.heap.size by have := H2.out.2.2.2.2.2.1; omega)))))
              have HR := Lib.hid hY'
              have HOK := Lib.hid hst.ok
              clear hst hbw hz hYo hYb hYs hYh hY' r1 r2
              go_wp2_with fail
              rw [← HR.out]
              obtain ⟨x0, x1, x2, x3, x4, x5⟩ := own6 HY.out.2.1
              exact bodyPost_ret (v := .tuple #[.agg #[.slice m1.aA m1.a.length m1.ac, .slice m1.bA m1.b.length m1.bc, .int .i64 (i : Int), .int .i64 (j : Int), .slice m1.sA m1.f.length m1.sc, .slice oA o.length oc], .int .i64 (k : Int), .int .i64 E]) (by simp [results, Tryz.results9, go_sem, x0, x1, x2, x3, x4, x5]) rfl ⟨outM m1 i j oA oc o, k, E, rfl, .inr ⟨HM.out, ⟨H2.out.2.2.1.a, H2.out.2.2.1.b, H2.out.2.2.1.f, work_fin H2.out.2.2.1 HN.out.2.2.2.2.1 HN.out.1 HN.out.2.1 H2.out.2.2.2.1 HE.out⟩⟩, HY.out.2.2.1, ⟨H2.out.1.a, H2.out.1.b, H2.out.1.f, ⟨by have := HN.out.2.2.2.1; show o.length ≤ _; omega, HOK.out⟩, ⟨by show -9223372036854775808 ≤ (i : Int); omega, by show (i : Int) ≤ 9223372036854775807; omega⟩, ⟨by show -9223372036854775808 ≤ (j : Int); omega, by show (j : Int) ≤ 9223372036854775807; omega⟩⟩, HY.out.2.2.2, HY.out.1⟩
            subst hE0
            have hPin := hs17.own.inside
            have hbase := hs17.base_
            have hvlo : ∀ q, (Value.slice oA o.length oc).ownBlock = some q → w1.heap.size ≤ q ∧ q < V16.heap.size := fun q hq => by
              have h1 := H11.out.1.row.lt q hq
              exact ⟨h1.1, Nat.lt_of_lt_of_le h1.2 HE0.out.2.1.size⟩
            have hPV : w.heap.size < V16.heap.size := Nat.lt_of_lt_of_le H11.out.1.own.inside HE0.out.2.1.size
            have hbV : w1.heap.size ≤ V16.heap.size := Nat.le_trans (show w1.heap.size ≤ W9.heap.size from HW9.out) (Nat.le_trans HB9.out HE0.out.2.1.size)
            obtain ⟨c0, c1, c2, c3, c4, c5⟩ := own6 hs17.own
            obtain ⟨f0, f1, f2, f3, f4, f5⟩ := own_frozen6 hs17.own
            obtain ⟨X, hX⟩ : ∃ X, X = (w17.setCell ⟨w.heap.size, 2, none⟩ (.int .i64 (q1 : Int))).setCell ⟨w.heap.size, 3, none⟩ (.int .i64 (q2 : Int)) := ⟨_, rfl⟩
            have oX : Own X w.heap.size 25 (rcells m1 q1 q2 (.slice oA o.length oc)) := hX ▸ ((hs17.own.set_ 2 (.int .i64 (q1 : Int))).set_ 3 (.int .i64 (q2 : Int)))
            have sX : X.heap.size = w17.heap.size := by rw [hX]; simp [World.setCell]
            have hXh : ∀ b, b ≠ w.heap.size → X.heap[b]? = w17.heap[b]? := fun b hb => by
              rw [hX, Below.heap_setCell _ ⟨w.heap.size, 3, none⟩ _ b hb, Below.heap_setCell _ ⟨w.heap.size, 2, none⟩ _ b hb]
            have hsX := hs17.move sX hXh (by rw [hX]; exact ⟨rfl, rfl, rfl⟩) oX
            have nbX : Nb V16.heap.size w17 X := ⟨sX, fun b hb => hXh b (by omega)⟩
            have hevX := nbX.ups hue hle
            have bX : Below w.heap.size w X := by
              rw [hX]
              exact (hbw17.setCell (p := ⟨w.heap.size, 2, none⟩) (Nat.le_refl _) _).setCell (p := ⟨w.heap.size, 3, none⟩) (Nat.le_refl _) _
            have zX : Own X (w.heap.size + 1) 25 Mg.nil.cells := (hXh _ (by omega)).trans hz17
            have hel : ev.length ≤ t11 := by
              have := consL_len [advL m1.f (g0 ++ g1)]
              rw [← hpe, List.length_map] at this
              simp only [List.flatten_cons, List.flatten_nil, List.append_nil, advL_len] at this
              rw [H11.out.2.2.2.2.1] at this
              exact this
            have htn : t11 ≤ 1048576 := by have h1 := H11.out.2.2.2.2.2.1; rw [H11.out.2.2.2.2.1] at h1; exact h1
            have hon : o.length ≤ 1048576 := by have := HN.out.2.2.2.1; omega
            have hszX : w1.heap.size ≤ X.heap.size := by rw [sX]; exact Nat.le_trans hbV b17.size
            have HRX := Lib.hid hsX.row
            have HLX := Lib.hid hevX.head
            have HXX := Lib.hid hX
            have HX2 := Lib.hid (And.intro hsX (And.intro hevX (And.intro bX (And.intro zX (And.intro hvlo (And.intro hPV hbV))))))
            have HEV := Lib.hid (And.intro hpe (And.intro hoe (And.intro hle hel)))
            have hHK : k ≤ 2097152 := by omega
            clear hs17 hz17 hbw17 hb1117 hue b17 hX sX hXh nbX hsX hevX bX zX hvlo hPV hbV hPin hbase hpe hoe hle
            go_upto_region 19 with fail
            rw [← HXX.out]
            clear HXX c0 c1 c2 c3 c4 c5 f0 f1 f2 f3 f4 f5
            obtain ⟨c0, c1, c2, c3, c4, c5⟩ := own6 oX
            go_wp2_with (at_builtin; refine wpList_append_liesK (l := ev) _ rfl (.tmp 114) (.tmp 115) 22 48 rfl i0 _ 80 HI.out.1 HI.out.2.1 HI.out.2.2.1 HI.out.2.2.2.1 HI.out.2.2.2.2 rfl (by decide) ucells_len ucells_one w1.heap.size _ _ _ rfl HRX.out c17 rfl HLX.out ?k1 ?k2 ?k3 ?k4)
            case k1 => unfold maxLen; omega
            case k2 => omega
            case k3 => exact hszX
            intro v19 w19 ho19 hg19 hv19
            obtain ⟨A19, c19, e19, _, _, _⟩ := lies_of_own (size := 6) (cells := Up.cells) (l := o ++ ev) (n := o.length + ev.length) (by decide) ucells_len (by rw [List.length_append]) (by rw [List.flatMap_append]; exact ho19)
            rw [List.length_append] at e19
            subst e19
            have o19 : Own w19 w.heap.size 25 (rcells m1 q1 q2 (.slice oA o.length oc)) := (hg19.block _ oX.inside (fun e => HX2.out.1.vP e.symm)).trans oX
            have z19 : Own w19 (w.heap.size + 1) 25 Mg.nil.cells := (hg19.block _ HX2.out.2.2.2.1.inside (fun e => by have h1 := (HX2.out.2.2.2.2.1 _ e.symm).1; have h2 := H2.out.2.2.2.2.2.1; omega)).trans HX2.out.2.2.2.1
            have b19 : Below w.heap.size w w19 := HX2.out.2.2.1.trans ((KeptK.of_grown (S := fun q => (Value.slice oA o.length oc).ownBlock = some q) hg19 (fun _ e => e)).below (fun q hq => by have h1 := (HX2.out.2.2.2.2.1 q hq).1; have h2 := H2.out.2.2.2.2.2.1; omega) HX2.out.2.2.1.size)
            obtain ⟨Y, hY⟩ : ∃ Y, Y = w19.setCell ⟨w.heap.size, 5, none⟩ (.slice A19 (o.length + ev.length) c19) := ⟨_, rfl⟩
            have oY : Own Y w.heap.size 25 (rcells m1 q1 q2 (.slice A19 (o.length + ev.length) c19)) := hY ▸ o19.set_ 5 (.slice A19 (o.length + ev.length) c19)
            have zY : Own Y (w.heap.size + 1) 25 Mg.nil.cells := hY ▸ z19.other (p := ⟨w.heap.size, 5, none⟩) (by intro e; dsimp only at e; omega) (.slice A19 (o.length + ev.length) c19)
            have bY : Below w.heap.size w Y := by rw [hY]; exact b19.setCell (p := ⟨w.heap.size, 5, none⟩) (Nat.le_refl _) _
            have hPQ : ∀ q, V16.heap.size ≤ q → q ≠ w.heap.size ∧ (Value.slice oA o.length oc).ownBlock ≠ some q := fun q hq => ⟨by have := HX2.out.2.2.2.2.2.1; omega, fun e => by have := (HX2.out.2.2.2.2.1 q e).2; omega⟩
            have hpush : RSt w1.heap.size w.heap.size m1 q1 q2 (.slice A19 (o.length + ev.length) c19) (o ++ ev) Y := HX2.out.1.push (w1 := w19) (by rw [List.length_append, List.flatMap_append]; exact ho19) hg19 hv19 HX2.out.2.1.each_ (fun u hu => ⟨fun _ b o' e => hPQ b (HEV.out.2.2.1.2 u hu b o' (.inl e)), fun _ b o' e => hPQ b (HEV.out.2.2.1.2 u hu b o' (.inr e))⟩) HEV.out.2.1 (fun u hu b o' e => Nat.le_trans HX2.out.2.2.2.2.2.2 (HEV.out.2.2.1.2 u hu b o' e)) oY (hY ▸ grown_setP w19 w.heap.size 5 (.slice A19 (o.length + ev.length) c19))
            have k5 := o19.open_ 5
            obtain ⟨g0_, g1_, g2_, g3_, g4_, g5⟩ := own6 o19
            clear g0_ g1_ g2_ g3_ g4_
            have HYY := Lib.hid hY
            have hsY : w1.heap.size ≤ Y.heap.size := by rw [hY]; simp only [World.setCell, Array.size_modify]; exact Nat.le_trans hszX hg19.size
            have HPU := Lib.hid (And.intro hpush (And.intro bY (And.intro zY (And.intro (own6 oY) hsY))))
            clear o19 z19 b19 hY oY zY bY hPQ hpush hsY ho19 hg19 hv19 c0 c1 c2 c3 c4 c5 oX
            go_upto_region 20 with fail
            rw [← HYY.out]
            clear HYY k5 g5
            go_wp2_with fail
            go_roundw
            case rel =>
              have e1 := HQ1.out
              have e2 := HQ2.out
              obtain ⟨_, hg0, hl0, hn1⟩ := HG0.out
              have hg1 := H11.out.2.2.2.1
              have hGl := H11.out.2.2.2.2.1
              have hl1 := H11.out.2.2.2.2.2.2.1
              have hn2 := H11.out.2.2.2.2.2.2.2
              rw [List.length_append, hl0, hl1] at hGl
              have h4 := HN.out.2.2.2.1
              have h5 := HN.out.2.2.2.2.2
              have h6 := H5.out.2.2.2.2
              have h7 := HEV.out.2.2.2
              have h3 := HN.out.2.2.1
              have hpos := grp_pos hnx
              have hpos' : 0 < t11 := by
                have : (grp u (m1.a.drop i)).length + (grp u (m1.b.drop j)).length = t11 := by rw [hg0, hg1, hl0, hl1]; exact hGl
                rw [← this]; exact hpos
              refine ⟨q1, q2, k + t11, .slice A19 (o.length + ev.length) c19, o ++ ev, n - 1, by go_num, HPU.out.1, HPU.out.2.1, HPU.out.2.2.1, HPU.out.2.2.2.2, by omega, by omega, by omega, by rw [List.length_append]; omega, ?_, by omega⟩
              refine HN.out.2.2.2.2.1.trans ?_
              obtain ⟨n', rfl⟩ : ∃ n', n = n' + 1 := ⟨n - 1, by omega⟩
              have hE : consE [advL m1.f (grp u (curM m1 i j k o).ra ++ grp u (curM m1 i j k o).rb)] = 0 := by rw [HGG.out]; exact HE0.out.1
              have he : ev.map Up.p = consL [advL m1.f (grp u (m1.a.drop i) ++ grp u (m1.b.drop j))] := by rw [hg0, hg1]; exact HEV.out.1
              rw [work_more H5.out.2.2.2.1 hnx hE, cur_step m1 i j k o ev u he, hg0, hg1, hl0, hl1, ← e1, ← e2, hGl]
              rfl
            case measure =>
              have e1 := HQ1.out
              have e2 := HQ2.out
              obtain ⟨_, hg0, hl0, hn1⟩ := HG0.out
              have hl1 := H11.out.2.2.2.2.2.2.1
              have hn2 := H11.out.2.2.2.2.2.2.2
              have hg1 := H11.out.2.2.2.1
              have hpos := grp_pos hnx
              have hpos' : 0 < n1 + n2 := by
                have : (grp u (m1.a.drop i)).length + (grp u (m1.b.drop j)).length = n1 + n2 := by rw [hg0, hg1, hl0, hl1]
                rw [← this]; exact hpos
              rw [HPU.out.2.2.2.1.2.2.1, HPU.out.2.2.2.1.2.2.2.1, HC0.out.2.2.1, HC0.out.2.2.2.1]
              simp only [Option.getD_some, intOf]
              omega
end Go.Proofs.YtllpfngmnccejaaGreat
namespace Go.Proofs.YtllpfngmnccejaaGreat
open Go Go.RowKit

def EndOk (m : Mg) : Prop := MOk m ∧ m.i = (m.a.length : Int) ∧ m.j = (m.b.length : Int)
def EndSaysB (m : Mg) (w : World) (x : Ending) (w' : World) : Prop :=
  ∃ (b : Bt) (E : Int), x = .returned (.tuple #[b.val, .int .i64 E]) ∧ (E = 0 ∧ EndOk m ∧ b.f = m.f ∧ b.l.map Up.p = m.o.map Up.p ∨ E = 8 ∧ ¬ EndOk m ∧ b = Bt.nil) ∧ BtIn w' w'.heap.size b ∧ BtOk b ∧ BtLo w.heap.size b ∧ Below w.heap.size w w'
theorem en_box (w : World) (m : Mg) : ∃ V, V = (w.alloc (.cells #[.slice m.aA m.a.length m.ac, .slice m.bA m.b.length m.bc, .int .i64 m.i, .int .i64 m.j, .slice m.sA m.f.length m.sc, .slice m.oA m.o.length m.oc] 25)).alloc (.cells #[.slice none 0 0, .slice none 0 0] 27) ∧ Below w.heap.size w V ∧ Own V w.heap.size 25 m.cells ∧ Own V (w.heap.size + 1) 27 [.slice none 0 0, .slice none 0 0] := by
  refine ⟨_, rfl, ((Below.refl _ _).alloc (Nat.le_refl _) _).alloc (by simp) _, (Own.made w 25 m.cells).more _, ?_⟩
  exact own_next (w := w.alloc (.cells #[.slice m.aA m.a.length m.ac, .slice m.bA m.b.length m.bc, .int .i64 m.i, .int .i64 m.j, .slice m.sA m.f.length m.sc, .slice m.oA m.o.length m.oc] 25)) (l := [.slice none 0 0, .slice none 0 0]) (by simp)
set_option maxRecDepth 100000 in
set_option maxHeartbeats 12800000 in
theorem end_any (m : Mg) (w : World) (hm : MgIn w w.heap.size m) (hok : MgOk m) (no : m.o.length ≤ 274877906944) :
    Calls Tryz.prog 10 #[m.val] w (EndSaysB m w) := by
  obtain ⟨V, hV, hvb, hvo, hvz⟩ := en_box w m
  have hin := hm.keep hvb
  have y1 := Lib.hid (checkM_any m V hin hok)
  have HB := Lib.hid (And.intro hvb (And.intro hvo hvz))
  have HK := Lib.hid (And.intro hin (And.intro hok no))
  have hmv : m.val = .agg #[.slice m.aA m.a.length m.ac, .slice m.bA m.b.length m.bc, .int .i64 m.i, .int .i64 m.j, .slice m.sA m.f.length m.sc, .slice m.oA m.o.length m.oc] := rfl
  rw [hmv] at y1 ⊢
  obtain ⟨d0, d1, d2, d3, d4, d5⟩ := own6 hvo
  clear hm hok hvb hvo hvz hin hmv no
  go_enter Tryz.func10, Tryz.ntmps10
  go_upto_region 1 with fail
  rw [← hV]
  clear hV
  go_wp2_with fail
  refine y1.out.mono ?_
  rintro _ w1 ⟨n, rfl, hn, b1⟩
  have H1 := Lib.hid (And.intro hn (And.intro (HB.out.1.trans (b1.mono HB.out.1.size)) (And.intro (HB.out.2.1.past b1 HB.out.2.1.inside) (And.intro (HB.out.2.2.past b1 HB.out.2.2.inside) (HK.out.1.keep b1)))))
  clear d0 d1 d2 d3 d4 d5 b1 y1 hn
  by_cases h0 : n = 0
  case neg =>
    have t1 : (n != 0) = true := bne_iff_ne.2 h0
    have hz := H1.out.2.2.2.1
    have f0 := hz.open_ 0
    have f1 := hz.open_ 1
    obtain ⟨d0, d1⟩ := own2 hz
    have hX := (hz.set_ 0 (.slice none 0 0)).set_ 1 (.slice none 0 0)
    have HX := Lib.hid (And.intro (H1.out.2.1.setCell (p := ⟨w.heap.size + 1, 0, none⟩) (Nat.le_succ _) (.slice none 0 0) |>.setCell (p := ⟨w.heap.size + 1, 1, none⟩) (Nat.le_succ _) (.slice none 0 0)) hX)
    have H0 := Lib.hid (show n = 8 ∧ ¬ MOk m from by
      rcases H1.out.1 with ⟨_, e⟩ | ⟨e, e2⟩
      · exact absurd e h0
      · exact ⟨e2, e⟩)
    clear h0 hz hX
    go_wp2_with fail
    obtain ⟨x0, x1⟩ := own2 HX.out.2
    exact bodyPost_ret (v := .tuple #[.agg #[.slice none 0 0, .slice none 0 0], .int .i64 n]) (by simp [results, Tryz.results10, go_sem, x0, x1]) rfl ⟨Bt.nil, n, rfl, .inr ⟨H0.out.1, fun h => H0.out.2 h.1, rfl⟩, bt_nil_in _ _, bt_nil_ok, bt_nil_lo _, HX.out.1⟩
  subst h0
  have hmok : MOk m := by
    rcases H1.out.1 with ⟨e, _⟩ | ⟨_, e⟩
    · exact e
    · omega
  obtain ⟨i, hi⟩ : ∃ i : Nat, m.i = (i : Int) := ⟨m.i.toNat, by have := hmok.da.lo; omega⟩
  obtain ⟨j, hj⟩ : ∃ j : Nat, m.j = (j : Int) := ⟨m.j.toNat, by have := hmok.db.lo; omega⟩
  have hil : i ≤ m.a.length := by have := hmok.da.hi; omega
  have hjl : j ≤ m.b.length := by have := hmok.db.hi; omega
  have hna := HK.out.2.1.a.n
  have hnb := HK.out.2.1.b.n
  obtain ⟨d0, d1, d2, d3, d4, d5⟩ := own6 H1.out.2.2.1
  rw [hi] at d2
  rw [hj] at d3
  obtain ⟨V2, hV2⟩ : ∃ V2, V2 = w1.alloc (.cells #[.slice m.aA m.a.length m.ac, .slice m.bA m.b.length m.bc, .int .i64 (i : Int), .int .i64 (j : Int), .slice m.sA m.f.length m.sc, .slice m.oA m.o.length m.oc, .int .i64 0] 72) := ⟨_, rfl⟩
  have hbV : Below w1.heap.size w1 V2 := by rw [hV2]; exact (Below.refl _ _).alloc (Nat.le_refl _) _
  have hP : Own V2 w1.heap.size 72 (mcells m i j (.slice m.oA m.o.length m.oc) 0) := by rw [hV2]; exact Own.made w1 _ (mcells m i j (.slice m.oA m.o.length m.oc) 0)
  have y2 := Lib.hid (left_any w1.heap.size m i j 0 _ V2 hP (by omega) (by omega) hna hnb)
  have H2 := Lib.hid (And.intro (H1.out.2.1.trans (hbV.mono H1.out.2.1.size)) (And.intro (H1.out.2.2.1.past hbV H1.out.2.2.1.inside) (And.intro (H1.out.2.2.2.1.past hbV H1.out.2.2.2.1.inside) (And.intro (H1.out.2.2.2.2.keep hbV) (And.intro hmok (And.intro hi hj))))))
  have HR := Lib.hid hV2
  clear hbV hP hmok hi hj hV2
  by_cases hlf : i < m.a.length ∨ j < m.b.length
  case pos =>
    have hD : decide (i < m.a.length ∨ j < m.b.length) = true := decide_eq_true hlf
    rw [hD] at y2
    have H0 := Lib.hid (show ¬ EndOk m from fun h => by have h1 := h.2.1; have h2 := h.2.2; rw [H2.out.2.2.2.2.2.1] at h1; rw [H2.out.2.2.2.2.2.2] at h2; omega)
    clear hD hlf
    go_wp2_with fail
    rw [← HR.out]
    refine y2.out.mono ?_
    rintro _ wl ⟨rfl, q, hq⟩
    have hz : Own wl (w.heap.size + 1) 27 [.slice none 0 0, .slice none 0 0] := hq ▸ H2.out.2.2.1.draws q
    have hb9 : Below w.heap.size w wl := hq ▸ below_draws H2.out.1 q
    have f0 := hz.open_ 0
    have f1 := hz.open_ 1
    clear d0 d1 d2 d3 d4 d5 hq y2
    obtain ⟨d0, d1⟩ := own2 hz
    have hX := (hz.set_ 0 (.slice none 0 0)).set_ 1 (.slice none 0 0)
    have HX := Lib.hid (And.intro (hb9.setCell (p := ⟨w.heap.size + 1, 0, none⟩) (Nat.le_succ _) (.slice none 0 0) |>.setCell (p := ⟨w.heap.size + 1, 1, none⟩) (Nat.le_succ _) (.slice none 0 0)) hX)
    clear hz hX hb9
    go_wp2_with fail
    obtain ⟨x0, x1⟩ := own2 HX.out.2
    exact bodyPost_ret (v := .tuple #[.agg #[.slice none 0 0, .slice none 0 0], .int .i64 8]) (by simp [results, Tryz.results10, go_sem, x0, x1]) rfl ⟨Bt.nil, 8, rfl, .inr ⟨rfl, H0.out, rfl⟩, bt_nil_in _ _, bt_nil_ok, bt_nil_lo _, HX.out.1⟩
  have hD : decide (i < m.a.length ∨ j < m.b.length) = false := decide_eq_false hlf
  rw [hD] at y2
  have H0 := Lib.hid (show EndOk m from ⟨H2.out.2.2.2.2.1, by rw [H2.out.2.2.2.2.2.1]; omega, by rw [H2.out.2.2.2.2.2.2]; omega⟩)
  clear hD hlf
  go_wp2_with fail
  rw [← HR.out]
  refine y2.out.mono ?_
  rintro _ wl ⟨rfl, q, hq⟩
  have hz : Own wl (w.heap.size + 1) 27 [.slice none 0 0, .slice none 0 0] := hq ▸ H2.out.2.2.1.draws q
  have hm9 : Own wl w.heap.size 25 m.cells := hq ▸ H2.out.2.1.draws q
  have hb9 : Below w.heap.size w wl := hq ▸ below_draws H2.out.1 q
  have hi9 : MgIn wl wl.heap.size m := hq ▸ H2.out.2.2.2.1.keep (below_draws (Below.refl _ _) q)
  clear d0 d1 d2 d3 d4 d5 hq y2
  obtain ⟨d0, d1, d2, d3, d4, d5⟩ := own6 hm9
  have y3 := Lib.hid (copyB_any ⟨m.sA, m.sc, m.f, m.oA, m.oc, m.o⟩ wl ⟨hi9.f, hi9.o⟩ ⟨HK.out.2.1.f, HK.out.2.1.o⟩ H0.out.1.even.2.2.2.2 HK.out.2.2)
  rw [show (Bt.mk m.sA m.sc m.f m.oA m.oc m.o).val = .agg #[.slice m.sA m.f.length m.sc, .slice m.oA m.o.length m.oc] from rfl] at y3
  have H9 := Lib.hid (And.intro hz hb9)
  clear hz hm9 hb9 hi9
  go_wp2_with fail
  refine y3.out.mono ?_
  rintro _ w5 ⟨b, rfl, hs5, hi5, ho5, hl5, b5⟩
  have hz := H9.out.1.past b5 H9.out.1.inside
  have f0 := hz.open_ 0
  have f1 := hz.open_ 1
  clear d0 d1 d2 d3 d4 d5 y3
  obtain ⟨d0, d1⟩ := own2 hz
  have hX := (hz.set_ 0 (.slice b.sA b.f.length b.sc)).set_ 1 (.slice b.uA b.l.length b.uc)
  obtain ⟨s1, s2⟩ := set2_other w5 (w.heap.size + 1) (.slice b.sA b.f.length b.sc) (.slice b.uA b.l.length b.uc)
  have hin9 := H9.out.1.inside
  have hw9 := H9.out.2.size
  have HX := Lib.hid (And.intro ((H9.out.2.trans (b5.mono H9.out.2.size)).setCell (p := ⟨w.heap.size + 1, 0, none⟩) (Nat.le_succ _) (.slice b.sA b.f.length b.sc) |>.setCell (p := ⟨w.heap.size + 1, 1, none⟩) (Nat.le_succ _) (.slice b.uA b.l.length b.uc)) (And.intro hX (And.intro (And.intro (times_other hi5.since (hl5.f.mono (by omega)) s1 s2) (ups_other hi5.ups (hl5.l.mono (by omega)) s1 s2)) (And.intro (hl5.mono (by omega)) (And.intro ho5 hs5)))))
  clear hz hX s1 s2 hin9 hw9 hs5 hi5 ho5 hl5 b5
  unfold Bt.val
  go_wp2_with fail
  obtain ⟨x0, x1⟩ := own2 HX.out.2.1
  exact bodyPost_ret (v := .tuple #[.agg #[.slice b.sA b.f.length b.sc, .slice b.uA b.l.length b.uc], .int .i64 0]) (by simp [results, Tryz.results10, go_sem, x0, x1]) rfl ⟨b, 0, rfl, .inl ⟨rfl, H0.out, HX.out.2.2.2.2.2.f, HX.out.2.2.2.2.2.l⟩, ⟨HX.out.2.2.1.1, HX.out.2.2.1.2⟩, HX.out.2.2.2.2.1, HX.out.2.2.2.1, HX.out.1⟩
end Go.Proofs.YtllpfngmnccejaaGreat
namespace Go.Proofs.YtllpfngmnccejaaGreat
open Go Go.RowKit

set_option maxRecDepth 100000 in
set_option maxHeartbeats 12800000 in
theorem rend_any (m : Mg) (w : World) (hm : MgIn w w.heap.size m) (hok : MgOk m) (h8 : ∀ u, u ∈ m.a ∨ u ∈ m.b ∨ u ∈ m.o → u.key.length ≤ 1099511627776 ∧ u.row.length ≤ 1099511627776) :
    Calls Tryz.prog 11 #[m.val] w (EndSaysB m w) := by
  obtain ⟨V, hV, hvb, hvo, hvz⟩ := en_box w m
  have hin := hm.keep hvb
  have y1 := Lib.hid (rcheckM_any m V hin hok)
  have HB := Lib.hid (And.intro hvb (And.intro hvo hvz))
  have HK := Lib.hid (And.intro hin (And.intro hok h8))
  have hmv : m.val = .agg #[.slice m.aA m.a.length m.ac, .slice m.bA m.b.length m.bc, .int .i64 m.i, .int .i64 m.j, .slice m.sA m.f.length m.sc, .slice m.oA m.o.length m.oc] := rfl
  rw [hmv] at y1 ⊢
  obtain ⟨d0, d1, d2, d3, d4, d5⟩ := own6 hvo
  clear hm hok hvb hvo hvz hin h8
  go_enter Tryz.func11, Tryz.ntmps11
  go_upto_region 1 with fail
  rw [← hV]
  clear hV
  go_wp2_with fail
  refine y1.out.mono ?_
  rintro _ w1 ⟨n, rfl, hn, b1⟩
  have H1 := Lib.hid (And.intro hn (And.intro (HB.out.1.trans (b1.mono HB.out.1.size)) (And.intro (HB.out.2.1.past b1 HB.out.2.1.inside) (And.intro (HB.out.2.2.past b1 HB.out.2.2.inside) (HK.out.1.keep b1)))))
  clear d0 d1 d2 d3 d4 d5 b1 y1 hn
  obtain ⟨d0, d1, d2, d3, d4, d5⟩ := own6 H1.out.2.2.1
  by_cases h0 : n = 0
  case neg =>
    have t1 : (n != 0) = true := bne_iff_ne.2 h0
    have HN := Lib.hid (show ¬ EndOk m from fun h => by
      rcases H1.out.1 with ⟨_, e⟩ | ⟨e, _⟩
      · exact h0 e
      · exact e h.1)
    clear h0
    have hz := H1.out.2.2.2.1
    have f0 := hz.open_ 0
    have f1 := hz.open_ 1
    obtain ⟨z0, z1⟩ := own2 hz
    have hX := (hz.set_ 0 (.slice none 0 0)).set_ 1 (.slice none 0 0)
    have HX := Lib.hid (And.intro (H1.out.2.1.setCell (p := ⟨w.heap.size + 1, 0, none⟩) (Nat.le_succ _) (.slice none 0 0) |>.setCell (p := ⟨w.heap.size + 1, 1, none⟩) (Nat.le_succ _) (.slice none 0 0)) hX)
    clear hz hX
    go_wp2_with fail
    obtain ⟨x0, x1⟩ := own2 HX.out.2
    exact bodyPost_ret (v := .tuple #[.agg #[.slice none 0 0, .slice none 0 0], .int .i64 8]) (by simp [results, Tryz.results11, go_sem, x0, x1]) rfl ⟨Bt.nil, 8, rfl, .inr ⟨rfl, HN.out, rfl⟩, bt_nil_in _ _, bt_nil_ok, bt_nil_lo _, HX.out.1⟩
  subst h0
  have hmok : MOk m := by
    rcases H1.out.1 with ⟨e, _⟩ | ⟨_, e⟩
    · exact e
    · omega
  by_cases g1 : m.i < (m.a.length : Int)
  · have t1 : decide (m.i < (m.a.length : Int)) = true := decide_eq_true g1
    have HN := Lib.hid (show ¬ EndOk m from fun h => by have := h.2.1; omega)
    clear g1 hmok
    have hz := H1.out.2.2.2.1
    have f0 := hz.open_ 0
    have f1 := hz.open_ 1
    obtain ⟨z0, z1⟩ := own2 hz
    have hX := (hz.set_ 0 (.slice none 0 0)).set_ 1 (.slice none 0 0)
    have HX := Lib.hid (And.intro (H1.out.2.1.setCell (p := ⟨w.heap.size + 1, 0, none⟩) (Nat.le_succ _) (.slice none 0 0) |>.setCell (p := ⟨w.heap.size + 1, 1, none⟩) (Nat.le_succ _) (.slice none 0 0)) hX)
    clear hz hX
    go_wp2_with fail
    obtain ⟨x0, x1⟩ := own2 HX.out.2
    exact bodyPost_ret (v := .tuple #[.agg #[.slice none 0 0, .slice none 0 0], .int .i64 8]) (by simp [results, Tryz.results11, go_sem, x0, x1]) rfl ⟨Bt.nil, 8, rfl, .inr ⟨rfl, HN.out, rfl⟩, bt_nil_in _ _, bt_nil_ok, bt_nil_lo _, HX.out.1⟩
  have t1 : decide (m.i < (m.a.length : Int)) = false := decide_eq_false g1
  by_cases g2 : m.j < (m.b.length : Int)
  · have t2 : decide (m.j < (m.b.length : Int)) = true := decide_eq_true g2
    have HN := Lib.hid (show ¬ EndOk m from fun h => by have := h.2.2; omega)
    clear g1 g2 hmok
    have hz := H1.out.2.2.2.1
    have f0 := hz.open_ 0
    have f1 := hz.open_ 1
    obtain ⟨z0, z1⟩ := own2 hz
    have hX := (hz.set_ 0 (.slice none 0 0)).set_ 1 (.slice none 0 0)
    have HX := Lib.hid (And.intro (H1.out.2.1.setCell (p := ⟨w.heap.size + 1, 0, none⟩) (Nat.le_succ _) (.slice none 0 0) |>.setCell (p := ⟨w.heap.size + 1, 1, none⟩) (Nat.le_succ _) (.slice none 0 0)) hX)
    clear hz hX
    go_wp2_with fail
    obtain ⟨x0, x1⟩ := own2 HX.out.2
    exact bodyPost_ret (v := .tuple #[.agg #[.slice none 0 0, .slice none 0 0], .int .i64 8]) (by simp [results, Tryz.results11, go_sem, x0, x1]) rfl ⟨Bt.nil, 8, rfl, .inr ⟨rfl, HN.out, rfl⟩, bt_nil_in _ _, bt_nil_ok, bt_nil_lo _, HX.out.1⟩
  have t2 : decide (m.j < (m.b.length : Int)) = false := decide_eq_false g2
  have HN := Lib.hid (show EndOk m from ⟨hmok, by have := hmok.da.hi; omega, by have := hmok.db.hi; omega⟩)
  have y2 := Lib.hid (rcopyM_any m w1 H1.out.2.2.2.2 HK.out.2.1 HK.out.2.2)
  rw [hmv] at y2
  clear g1 g2 hmok hmv
  go_wp2_with fail
  refine y2.out.mono ?_
  rintro _ w2 ⟨m1, rfl, hs1, hi1, ho1, hl1, b2, _⟩
  have hPb : w.heap.size + 1 < w1.heap.size := H1.out.2.2.2.1.inside
  have oP := H1.out.2.2.1.past b2 H1.out.2.2.1.inside
  have oR := H1.out.2.2.2.1.past b2 H1.out.2.2.2.1.inside
  obtain ⟨X, hX', hXo, hXb, hXs, hXh⟩ := own_six oP (.slice m1.aA m1.a.length m1.ac) (.slice m1.bA m1.b.length m1.bc) (.int .i64 m1.i) (.int .i64 m1.j) (.slice m1.sA m1.f.length m1.sc) (.slice m1.oA m1.o.length m1.oc)
  have oRX : Own X (w.heap.size + 1) 27 [.slice none 0 0, .slice none 0 0] := (hXh _ (by omega)).trans oR
  have nb1 : Nb w1.heap.size w2 X := ⟨hXs, fun b hb => hXh b (by omega)⟩
  have bX : Below w.heap.size w X := hXb w.heap.size w (H1.out.2.1.trans (b2.mono H1.out.2.1.size)) (Nat.le_refl _)
  have hY := (oRX.set_ 0 (.slice m1.sA m1.f.length m1.sc)).set_ 1 (.slice m1.oA m1.o.length m1.oc)
  have bY := (bX.setCell (p := ⟨w.heap.size + 1, 0, none⟩) (Nat.le_succ _) (.slice m1.sA m1.f.length m1.sc)).setCell (p := ⟨w.heap.size + 1, 1, none⟩) (Nat.le_succ _) (.slice m1.oA m1.o.length m1.oc)
  obtain ⟨s1, s2⟩ := set2_other X (w.heap.size + 1) (.slice m1.sA m1.f.length m1.sc) (.slice m1.oA m1.o.length m1.oc)
  have nb2 : Nb w1.heap.size X ((X.setCell ⟨w.heap.size + 1, 0, none⟩ (.slice m1.sA m1.f.length m1.sc)).setCell ⟨w.heap.size + 1, 1, none⟩ (.slice m1.oA m1.o.length m1.oc)) := ⟨s1, fun b hb => s2 b (by omega)⟩
  have HF := Lib.hid (And.intro (nb2.times (nb1.times hi1.f hl1.f) hl1.f) (And.intro (nb2.ups (nb1.ups hi1.o hl1.o) hl1.o) (And.intro bY hY)))
  have HM := Lib.hid (And.intro hs1 (And.intro ho1 hl1))
  have HX := Lib.hid hX'
  clear d0 d1 d2 d3 d4 d5
  obtain ⟨d0, d1, d2, d3, d4, d5⟩ := own6 oP
  obtain ⟨f0, f1, f2, f3, f4, f5⟩ := own_frozen6 oP
  have g0 := oRX.open_ 0
  have g1 := oRX.open_ 1
  obtain ⟨z0, z1⟩ := own2 oRX
  obtain ⟨e0, e1, e2, e3, e4, e5⟩ := own6 hXo
  unfold Mg.val
  clear hs1 hi1 ho1 hl1 b2 oP oR hX' hXo hXb hXs hXh oRX nb1 bX hY bY s1 s2 nb2 y2
  go_upto_region 4 with fail
  rw [← HX.out]
  clear HX d0 d1 d2 d3 d4 d5 f0 f1 f2 f3 f4 f5
  go_wp2_with fail
  obtain ⟨x0, x1⟩ := own2 HF.out.2.2.2
  exact bodyPost_ret (v := .tuple #[.agg #[.slice m1.sA m1.f.length m1.sc, .slice m1.oA m1.o.length m1.oc], .int .i64 0]) (by simp [results, Tryz.results11, go_sem, x0, x1]) rfl ⟨⟨m1.sA, m1.sc, m1.f, m1.oA, m1.oc, m1.o⟩, 0, rfl, .inl ⟨rfl, HN.out, HM.out.1.f, HM.out.1.o⟩, ⟨HF.out.1, HF.out.2.1⟩, ⟨HM.out.2.1.f, HM.out.2.1.o⟩, ⟨fun b o e => Nat.le_trans (by omega) (HM.out.2.2.f b o e), HM.out.2.2.o.mono (by omega)⟩, HF.out.2.2.1⟩
end Go.Proofs.YtllpfngmnccejaaGreat
namespace Go.Proofs.YtllpfngmnccejaaGreat
open Go Go.RowKit

/-- the list that is asked lies in a variable -/
structure Kpt (w : World) (bx : Nat) (A : Option Addr) (n c : Nat) : Prop where
  cell : w.cell? ⟨bx, 0, none⟩ = some (.slice A n c)
  inside : bx < w.heap.size
theorem Kpt.past {w w' : World} {bx n c : Nat} {A : Option Addr} (h : Kpt w bx A n c) (hb : Below w.heap.size w w') : Kpt w' bx A n c :=
  ⟨(hb.cell (p := ⟨bx, 0, none⟩) h.inside).trans h.cell, Nat.lt_of_lt_of_le h.inside hb.size⟩
set_option maxRecDepth 100000 in
set_option maxHeartbeats 3200000 in
theorem early_any (t : Tm) (bx : Nat) (A : Option Addr) (c : Nat) (l : List Tm) (w : World) (hk : Kpt w bx A l.length c) (hl : Times w w.heap.size A l) (hn : l.length ≤ maxLen) :
    Calls Tryz.prog 83 #[t.val, .pointer (some ⟨bx, 0, none⟩)] w fun e w' => e = .returned (.bool (!beyond l t)) ∧ Below w.heap.size w w' := by
  obtain ⟨V, hV, hvb, hvs, hvo⟩ := tm_box w t
  have k0 := (hk.past hvb).cell
  have y1 := Lib.hid (beyond_any A c l t V ((hl.past hvb (Nat.le_refl _)).wide hvb.size) hn)
  obtain ⟨d0, d1, d2⟩ := own3 hvo
  have HB := Lib.hid hvb
  rw [show t.val = .agg #[.int .u64 (t.e : Int), .int .u64 (t.a : Int), .int .u64 (t.b : Int)] from rfl] at y1 ⊢
  generalize beyond l t = B at *
  clear hk hl hn hvb hvs hvo
  go_enter Tryz.func83, Tryz.ntmps83
  go_upto_region 1 with fail
  rw [← hV]
  clear hV
  go_wp2_with fail
  refine y1.out.mono ?_
  rintro _ w2 ⟨rfl, b2⟩
  have H2 := Lib.hid (HB.out.trans (b2.mono HB.out.size))
  clear b2 d0 d1 d2 k0
  go_wp2_with fail
  go_ret
  exact ⟨rfl, H2.out⟩
def someEarly (l f : List Tm) : Bool := l.any fun t => !beyond f t
theorem early_next {l f : List Tm} {k : Nat} {t : Tm} (h : l[k]? = some t) : someEarly (l.take (k + 1)) f = (someEarly (l.take k) f || !beyond f t) := by
  unfold someEarly
  rw [List.take_add_one, h]; simp
theorem early_hit {l f : List Tm} {k : Nat} {t : Tm} (h : l[k]? = some t) (hb : (!beyond f t) = true) : someEarly l f = true := List.any_eq_true.2 ⟨t, List.mem_of_getElem? h, hb⟩
set_option maxRecDepth 100000 in
set_option maxHeartbeats 3200000 in
theorem indexT_any (A : Option Addr) (c : Nat) (l : List Tm) (bx : Nat) (A' : Option Addr) (c' : Nat) (f : List Tm) (w : World) (hl : Times w w.heap.size A l) (hn : l.length ≤ maxLen) (hk : Kpt w bx A' f.length c') (hf : Times w w.heap.size A' f) (hfn : f.length ≤ maxLen) :
    Calls Tryz.prog 133 #[.slice A l.length c, .func (.func 83) #[] #[.pointer (some ⟨bx, 0, none⟩)]] w fun x w' => ∃ r : Int, x = .returned (.int .i64 r) ∧ decide (0 ≤ r) = someEarly l f ∧ Below w.heap.size w w' := by
  unfold maxLen at hn
  have Hl := Lib.hid (And.intro hl (And.intro hk hf))
  have hu := fun t W h1 h2 => Lib.hid (early_any t bx A' c' f W h1 h2 hfn)
  unfold Tm.val at hu
  clear hl hk hf
  go_enter Tryz.func133, Tryz.ntmps133
  go_wp2_with fail
  go_loopw [8] (fun i wr => ∃ k : Nat, i = .int .i64 (k : Int) ∧ k ≤ l.length ∧ Below w.heap.size w wr ∧ someEarly (l.take k) f = false)
    (fun i _ => l.length - (intOf i).toNat)
  case atStart => exact ⟨0, rfl, by omega, Below.refl _ _, rfl⟩
  case round =>
    obtain ⟨k, rfl, hk, hb, he⟩ := hrel
    by_cases hlt : k < l.length
    · have hx : l[k]? = some l[k] := List.getElem?_eq_getElem hlt
      obtain ⟨b, o, rfl, hB, hc⟩ := Hl.out.1 (by omega)
      obtain ⟨c0, c1, c2⟩ := (hc k _ hx).past hb hB
      have hnx := early_next (f := f) hx
      have hit := early_hit (f := f) hx
      generalize l[k] = t at *
      have hut := hu t wr (Hl.out.2.1.past hb) ((Hl.out.2.2.past hb (Nat.le_refl _)).wide hb.size)
      have HH := Lib.hid (And.intro hb (And.intro he (And.intro hnx hit)))
      have q0 : (0 : Int) ≤ (k : Int) := by omega
      have q1 : (k : Int) < (l.length : Int) := by omega
      clear hb he hx hc hnx hit hu
      obtain ⟨B, hB'⟩ : ∃ B, (!beyond f t) = B := ⟨_, rfl⟩
      rw [hB'] at hut
      have HT := Lib.hid hB'
      clear hB'
      cases B with
      | true =>
        go_wp2_with fail
        refine hut.out.mono ?_
        rintro _ w2 ⟨rfl, b2⟩
        have H2 := Lib.hid (HH.out.1.trans (b2.mono HH.out.1.size))
        clear b2 c0 c1 c2
        go_wp2_with fail
        go_ret
        exact ⟨_, rfl, by rw [HH.out.2.2.2 HT.out]; simp, H2.out⟩
      | false =>
        go_wp2_with fail
        refine hut.out.mono ?_
        rintro _ w2 ⟨rfl, b2⟩
        have H2 := Lib.hid (HH.out.1.trans (b2.mono HH.out.1.size))
        clear b2 c0 c1 c2
        go_wp2_with fail
        go_roundw
        case rel => exact ⟨k + 1, by go_num, by omega, H2.out, by rw [HH.out.2.2.1, HH.out.2.1, HT.out]; rfl⟩
        case measure => simp [intOf]; omega
    · have hk2 : k = l.length := by omega
      subst hk2
      rw [List.take_length] at he
      have HH := Lib.hid (And.intro hb he)
      clear hb he
      go_wp2_with fail
      go_ret
      exact ⟨_, rfl, by rw [HH.out.2]; decide, HH.out.1⟩
set_option maxRecDepth 100000 in
set_option maxHeartbeats 1600000 in
theorem containsT_any (A : Option Addr) (c : Nat) (l : List Tm) (bx : Nat) (A' : Option Addr) (c' : Nat) (f : List Tm) (w : World) (hl : Times w w.heap.size A l) (hn : l.length ≤ maxLen) (hk : Kpt w bx A' f.length c') (hf : Times w w.heap.size A' f) (hfn : f.length ≤ maxLen) :
    Calls Tryz.prog 85 #[.slice A l.length c, .func (.func 83) #[] #[.pointer (some ⟨bx, 0, none⟩)]] w fun x w' => x = .returned (.bool (someEarly l f)) ∧ Below w.heap.size w w' := by
  have hi := Lib.hid (indexT_any A c l bx A' c' f w hl hn hk hf hfn)
  clear hl hn hk hf
  generalize someEarly l f = B at *
  go_enter Tryz.func85, Tryz.ntmps85
  go_wp2_with fail
  refine hi.out.mono ?_
  rintro _ w2 ⟨r, rfl, hr, b2⟩
  have H2 := Lib.hid b2
  clear b2
  go_wp2_with fail
  go_ret
  exact ⟨rfl, H2.out⟩
theorem later_iff {g f : List Tm} (hf : f ≠ []) : LaterF g f ↔ g ≠ [] ∧ someEarly g f = false := by
  unfold LaterF someEarly
  constructor
  · rintro (h | ⟨h1, h2⟩)
    · exact absurd h hf
    · refine ⟨h1, ?_⟩
      rw [List.any_eq_false]
      intro x hx
      rw [h2 x hx]
      simp
  · rintro ⟨h1, h2⟩
    refine .inr ⟨h1, fun x hx => ?_⟩
    rw [List.any_eq_false] at h2
    simpa using h2 x hx
set_option maxRecDepth 100000 in
set_option maxHeartbeats 3200000 in
theorem later_any (A : Option Addr) (c : Nat) (g : List Tm) (A' : Option Addr) (c' : Nat) (f : List Tm) (w : World) (hg : Times w w.heap.size A g) (hgn : g.length ≤ maxLen) (hf : Times w w.heap.size A' f) (hfn : f.length ≤ maxLen) :
    Calls Tryz.prog 37 #[.slice A g.length c, .slice A' f.length c'] w (Tells (LaterF g f) w) := by
  obtain ⟨V, hV, hvs, hvb, hvo⟩ := boxd w [.slice A' f.length c'] 23
  have d0 := hvo.at_ 0
  simp only [List.getElem?_cons_zero] at d0
  by_cases h0 : f = []
  · subst h0
    simp only [List.length_nil] at hV d0
    have HL := Lib.hid (show LaterF g [] from .inl rfl)
    have HB := Lib.hid hvb
    clear hg hf hgn hfn hvs hvb hvo
    go_enter Tryz.func37, Tryz.ntmps37
    go_upto_region 1 with fail
    rw [← hV]
    clear hV
    go_wp2_with fail
    go_ret
    exact ⟨true, rfl, ⟨fun _ => HL.out, fun _ => rfl⟩, HB.out⟩
  have hfp : 0 < f.length := List.length_pos_iff.2 h0
  have t0 : ((f.length : Int) == 0) = false := beq_eq_false_iff_ne.2 (by omega)
  have hit := later_iff (g := g) h0
  by_cases h1 : g = []
  · have HL := Lib.hid (show ¬ LaterF g f from fun h => (hit.1 h).1 h1)
    subst h1
    have HB := Lib.hid hvb
    clear hg hf hgn hfn hvs hvb hvo hit h0
    go_enter Tryz.func37, Tryz.ntmps37
    go_upto_region 1 with fail
    rw [← hV]
    clear hV
    go_wp2_with fail
    go_ret
    exact ⟨false, rfl, ⟨fun h => (by cases h), fun h => absurd h HL.out⟩, HB.out⟩
  have hgp : 0 < g.length := List.length_pos_iff.2 h1
  have t1 : decide (0 < g.length) = true := decide_eq_true hgp
  have t2 : decide ((0 : Int) < (g.length : Int)) = true := decide_eq_true (by omega)
  have y1 := Lib.hid (containsT_any A c g w.heap.size A' c' f V ((hg.past hvb (Nat.le_refl _)).wide hvb.size) hgn ⟨d0, hvo.inside⟩ ((hf.past hvb (Nat.le_refl _)).wide hvb.size) hfn)
  have HIT := Lib.hid (And.intro hit h1)
  have HB := Lib.hid hvb
  obtain ⟨B, hB⟩ : ∃ B, someEarly g f = B := ⟨_, rfl⟩
  rw [hB] at y1
  have HBB := Lib.hid hB
  clear hg hf hgn hfn hvs hvb hvo hit h0 h1 hB hfp hgp
  go_enter Tryz.func37, Tryz.ntmps37
  go_upto_region 1 with fail
  rw [← hV]
  clear hV
  go_wp2_with fail
  refine y1.out.mono ?_
  rintro _ w2 ⟨rfl, b2⟩
  have H2 := Lib.hid (HB.out.trans (b2.mono HB.out.size))
  clear b2 d0 y1
  cases B with
  | true =>
    go_wp2_with fail
    go_ret
    exact ⟨false, rfl, ⟨fun h => (by cases h), fun h => (by have := (HIT.out.1.1 h).2; rw [HBB.out] at this; cases this)⟩, H2.out⟩
  | false =>
    go_wp2_with fail
    go_ret
    exact ⟨true, rfl, ⟨fun _ => HIT.out.1.2 ⟨HIT.out.2, HBB.out⟩, fun _ => rfl⟩, H2.out⟩
end Go.Proofs.YtllpfngmnccejaaGreat
namespace Go.Proofs.YtllpfngmnccejaaGreat
open Go Go.RowKit

def StartOk (f : List Tm) (a b : Bt) : Prop := BatchOk a.f a.l ∧ BatchOk b.f b.l ∧ FrontOk f ∧ LaterF f a.f ∧ LaterF f b.f
def Started (f : List Tm) (a b : Bt) (w : World) (x : Ending) (w' : World) : Prop :=
  ∃ (m : Mg) (E : Int), x = .returned (.tuple #[m.val, .int .i64 E]) ∧ (E = 0 ∧ StartOk f a b ∧ m.a.map Up.p = a.l.map Up.p ∧ m.b.map Up.p = b.l.map Up.p ∧ m.i = 0 ∧ m.j = 0 ∧ m.f = f ∧ m.o = [] ∨ E ≠ 0 ∧ m = Mg.nil ∧ ¬ StartOk f a b) ∧
    MgIn w' w'.heap.size m ∧ MgOk m ∧ MgLo w.heap.size m ∧ Below w.heap.size w w'
theorem st_box (w : World) (a b : Bt) : ∃ V, V = ((w.alloc (.cells #[.slice a.sA a.f.length a.sc, .slice a.uA a.l.length a.uc] 27)).alloc (.cells #[.slice b.sA b.f.length b.sc, .slice b.uA b.l.length b.uc] 27)).alloc (.cells #[.slice none 0 0, .slice none 0 0, .int .i64 0, .int .i64 0, .slice none 0 0, .slice none 0 0] 25) ∧
    Below w.heap.size w V ∧ Own V w.heap.size 27 a.cells ∧ Own V (w.heap.size + 1) 27 b.cells ∧ Own V (w.heap.size + 2) 25 Mg.nil.cells := by
  refine ⟨_, rfl, (((Below.refl _ _).alloc (Nat.le_refl _) _).alloc (by simp) _).alloc (by simp; omega) _, ((Own.made w 27 a.cells).more _).more _, ?_, ?_⟩
  · exact (own_next (w := w.alloc (.cells #[.slice a.sA a.f.length a.sc, .slice a.uA a.l.length a.uc] 27)) (l := b.cells) (by simp)).more _
  · exact own_next (w := (w.alloc (.cells #[.slice a.sA a.f.length a.sc, .slice a.uA a.l.length a.uc] 27)).alloc (.cells #[.slice b.sA b.f.length b.sc, .slice b.uA b.l.length b.uc] 27)) (l := Mg.nil.cells) (by simp)
set_option maxRecDepth 100000 in
set_option maxHeartbeats 12800000 in
theorem start_any (A : Option Addr) (c : Nat) (f : List Tm) (a b : Bt) (w : World) (hf : Times w w.heap.size A f) (hfo : TsOk f c) (ha : BtIn w w.heap.size a) (oa : BtOk a) (na : a.l.length ≤ 274877906944) (hb : BtIn w w.heap.size b) (ob : BtOk b) (nb : b.l.length ≤ 274877906944) :
    Calls Tryz.prog 12 #[.slice A f.length c, a.val, b.val] w (Started f a b w) := by
  obtain ⟨V, hV, hvb, hv1, hv2, hv3⟩ := st_box w a b
  have hX := fun p : Past V => own2 (hv1.past p.h hv1.inside)
  have hY := fun p : Past V => own2 (hv2.past p.h hv2.inside)
  have hZ := fun p : Past V => hv3.past p.h hv3.inside
  have hia := ha.keep hvb
  have hib := hb.keep hvb
  have hif := (hf.past hvb (Nat.le_refl _)).wide hvb.size
  have hfV := fun p : Past V => (hif.past p.h (Nat.le_refl _)).wide p.h.size
  obtain ⟨ca, hca⟩ := code_of (BatchOk a.f a.l) 4
  obtain ⟨cb, hcb⟩ := code_of (BatchOk b.f b.l) 4
  obtain ⟨bf, hbf⟩ := bool_of (FrontOk f)
  obtain ⟨la, hla⟩ := bool_of (LaterF f a.f)
  obtain ⟨lb, hlb⟩ := bool_of (LaterF f b.f)
  have n1 := hfo.n
  have m1 : f.length ≤ maxLen := Nat.le_trans hfo.le hfo.c_
  have m2 : a.f.length ≤ maxLen := Nat.le_trans oa.f.le oa.f.c_
  have m3 : b.f.length ≤ maxLen := Nat.le_trans ob.f.le ob.f.c_
  have u1 := fun p : Past V => calls_past ((bcheck_any a p.w (hia.keep p.h) oa).mono fun x w' h => codes_is hca h)
  have u2 := fun p : Past V => calls_past ((bcheck_any b p.w (hib.keep p.h) ob).mono fun x w' h => codes_is hcb h)
  have u3 := fun p : Past V => calls_past ((bfrontier_any A c f p.w (hfV p) (by omega)).mono fun x w' h => tells_is hbf h)
  have u4 := fun p : Past V => calls_past ((later_any A c f a.sA a.sc a.f p.w (hfV p) m1 (hia.keep p.h).since m2).mono fun x w' h => tells_is hla h)
  have u5 := fun p : Past V => calls_past ((later_any A c f b.sA b.sc b.f p.w (hfV p) m1 (hib.keep p.h).since m3).mono fun x w' h => tells_is hlb h)
  have HB := Lib.hid hvb
  have HI := Lib.hid (And.intro hia (And.intro hib hif))
  have HZ := Lib.hid hZ
  have HC := Lib.hid (And.intro hca (And.intro hcb (And.intro hbf (And.intro hla hlb))))
  have HOK := Lib.hid (And.intro hfo (And.intro oa (And.intro na (And.intro ob nb))))
  have HG := Lib.hid hv3.inside
  have hA : a.val = .agg #[.slice a.sA a.f.length a.sc, .slice a.uA a.l.length a.uc] := rfl
  have hB : b.val = .agg #[.slice b.sA b.f.length b.sc, .slice b.uA b.l.length b.uc] := rfl
  rw [hA, hB]
  rw [hA] at u1
  rw [hB] at u2
  have HF := Lib.hid (show ∀ (E : Int) (x : Ending) (w' : World), E ≠ 0 → ¬ StartOk f a b → x = .returned (.tuple #[Mg.nil.val, .int .i64 E]) → Below w.heap.size w w' → Started f a b w x w' from fun E x w' h1 h2 h3 h4 => ⟨Mg.nil, E, h3, .inr ⟨h1, rfl, h2⟩, mg_nil_in _ _, mg_nil_ok, mg_nil_lo _, h4⟩)
  have HP := Lib.hid (show ∀ (m : Mg) (x : Ending) (w' : World), StartOk f a b → x = .returned (.tuple #[m.val, .int .i64 0]) → m.a.map Up.p = a.l.map Up.p ∧ m.b.map Up.p = b.l.map Up.p ∧ m.i = 0 ∧ m.j = 0 ∧ m.f = f ∧ m.o = [] → MgIn w' w'.heap.size m → MgOk m → MgLo w.heap.size m → Below w.heap.size w w' → Started f a b w x w' from fun m x w' h1 h2 h3 h4 h5 h6 h7 => ⟨m, 0, h2, .inl ⟨rfl, h1, h3⟩, h4, h5, h6, h7⟩)
  clear hf hfo ha oa hb ob hvb hv1 hv2 hv3 hia hib hif hfV hca hcb hbf hla hlb n1 m1 m2 m3 hZ hA hB na nb
  go_enter Tryz.func12, Tryz.ntmps12
  go_upto_region 1 with fail
  rw [← hV]
  clear hV
  obtain ⟨a0, a1⟩ := hX ⟨V, Below.refl _ _⟩
  obtain ⟨b0, b1⟩ := hY ⟨V, Below.refl _ _⟩
  dsimp only at a0 a1 b0 b1
  go_wp2_with fail
  refine (u1 ⟨V, Below.refl _ _⟩).mono ?_
  rintro _ _ ⟨rfl, ⟨p1, rfl⟩⟩
  clear a0 a1 b0 b1 u1
  obtain ⟨a0, a1⟩ := hX p1
  obtain ⟨b0, b1⟩ := hY p1
  by_cases h1 : ca = 0
  case neg =>
    have t1 : (ca != 0) = true := bne_iff_ne.2 h1
    have hz := HZ.out p1
    obtain ⟨f0, f1, f2, f3, f4, f5⟩ := own_frozen6 hz
    obtain ⟨z0, z1, z2, z3, z4, z5⟩ := own6 hz
    obtain ⟨X, hX', hXo, hXb, hXs, hXh⟩ := own_six hz (.slice none 0 0) (.slice none 0 0) (.int .i64 0) (.int .i64 0) (.slice none 0 0) (.slice none 0 0)
    have HX := Lib.hid (And.intro (hXb w.heap.size w (HB.out.trans (p1.h.mono HB.out.size)) (by omega)) hXo)
    have HN := Lib.hid (show ¬ StartOk f a b from fun h => by rcases HC.out.1 with ⟨_, e⟩ | ⟨e, _⟩; exact h1 e; exact e h.1)
    have HR := Lib.hid hX'
    clear hz hXo hXb hXs hXh hX' h1 u2 u3 u4 u5
    go_wp2_with fail
    rw [← HR.out]
    obtain ⟨x0, x1, x2, x3, x4, x5⟩ := own6 HX.out.2
    exact bodyPost_ret (v := .tuple #[.agg #[.slice none 0 0, .slice none 0 0, .int .i64 0, .int .i64 0, .slice none 0 0, .slice none 0 0], .int .i64 4]) (by simp [results, Tryz.results12, go_sem, x0, x1, x2, x3, x4, x5]) rfl (HF.out 4 _ _ (by decide) HN.out rfl HX.out.1)
  subst h1
  go_wp2_with fail
  refine (u2 p1).mono ?_
  rintro _ _ ⟨rfl, ⟨p2, rfl⟩⟩
  clear a0 a1 b0 b1 u2
  obtain ⟨a0, a1⟩ := hX p2
  obtain ⟨b0, b1⟩ := hY p2
  by_cases h2 : cb = 0
  case neg =>
    have t1 : (cb != 0) = true := bne_iff_ne.2 h2
    have hz := HZ.out p2
    obtain ⟨f0, f1, f2, f3, f4, f5⟩ := own_frozen6 hz
    obtain ⟨z0, z1, z2, z3, z4, z5⟩ := own6 hz
    obtain ⟨X, hX', hXo, hXb, hXs, hXh⟩ := own_six hz (.slice none 0 0) (.slice none 0 0) (.int .i64 0) (.int .i64 0) (.slice none 0 0) (.slice none 0 0)
    have HX := Lib.hid (And.intro (hXb w.heap.size w (HB.out.trans (p2.h.mono HB.out.size)) (by omega)) hXo)
    have HN := Lib.hid (show ¬ StartOk f a b from fun h => by rcases HC.out.2.1 with ⟨_, e⟩ | ⟨e, _⟩; exact h2 e; exact e h.2.1)
    have HR := Lib.hid hX'
    clear hz hXo hXb hXs hXh hX' h2 u3 u4 u5
    go_wp2_with fail
    rw [← HR.out]
    obtain ⟨x0, x1, x2, x3, x4, x5⟩ := own6 HX.out.2
    exact bodyPost_ret (v := .tuple #[.agg #[.slice none 0 0, .slice none 0 0, .int .i64 0, .int .i64 0, .slice none 0 0, .slice none 0 0], .int .i64 4]) (by simp [results, Tryz.results12, go_sem, x0, x1, x2, x3, x4, x5]) rfl (HF.out 4 _ _ (by decide) HN.out rfl HX.out.1)
  subst h2
  go_wp2_with fail
  refine (u3 p2).mono ?_
  rintro _ _ ⟨rfl, ⟨p3, rfl⟩⟩
  clear a0 a1 b0 b1 u3
  obtain ⟨a0, a1⟩ := hX p3
  obtain ⟨b0, b1⟩ := hY p3
  cases bf with
  | false =>
    have hz := HZ.out p3
    obtain ⟨f0, f1, f2, f3, f4, f5⟩ := own_frozen6 hz
    obtain ⟨z0, z1, z2, z3, z4, z5⟩ := own6 hz
    obtain ⟨X, hX', hXo, hXb, hXs, hXh⟩ := own_six hz (.slice none 0 0) (.slice none 0 0) (.int .i64 0) (.int .i64 0) (.slice none 0 0) (.slice none 0 0)
    have HX := Lib.hid (And.intro (hXb w.heap.size w (HB.out.trans (p3.h.mono HB.out.size)) (by omega)) hXo)
    have HN := Lib.hid (show ¬ StartOk f a b from fun h => by have := HC.out.2.2.1.2 h.2.2.1; cases this)
    have HR := Lib.hid hX'
    clear hz hXo hXb hXs hXh hX' u4 u5
    go_wp2_with fail
    rw [← HR.out]
    obtain ⟨x0, x1, x2, x3, x4, x5⟩ := own6 HX.out.2
    exact bodyPost_ret (v := .tuple #[.agg #[.slice none 0 0, .slice none 0 0, .int .i64 0, .int .i64 0, .slice none 0 0, .slice none 0 0], .int .i64 4]) (by simp [results, Tryz.results12, go_sem, x0, x1, x2, x3, x4, x5]) rfl (HF.out 4 _ _ (by decide) HN.out rfl HX.out.1)
  | true =>
  go_wp2_with fail
  refine (u4 p3).mono ?_
  rintro _ _ ⟨rfl, ⟨p4, rfl⟩⟩
  clear a0 a1 b0 b1 u4
  obtain ⟨a0, a1⟩ := hX p4
  obtain ⟨b0, b1⟩ := hY p4
  cases la with
  | false =>
    have hz := HZ.out p4
    obtain ⟨f0, f1, f2, f3, f4, f5⟩ := own_frozen6 hz
    obtain ⟨z0, z1, z2, z3, z4, z5⟩ := own6 hz
    obtain ⟨X, hX', hXo, hXb, hXs, hXh⟩ := own_six hz (.slice none 0 0) (.slice none 0 0) (.int .i64 0) (.int .i64 0) (.slice none 0 0) (.slice none 0 0)
    have HX := Lib.hid (And.intro (hXb w.heap.size w (HB.out.trans (p4.h.mono HB.out.size)) (by omega)) hXo)
    have HN := Lib.hid (show ¬ StartOk f a b from fun h => by have := HC.out.2.2.2.1.2 h.2.2.2.1; cases this)
    have HR := Lib.hid hX'
    clear hz hXo hXb hXs hXh hX' u5
    go_wp2_with fail
    rw [← HR.out]
    obtain ⟨x0, x1, x2, x3, x4, x5⟩ := own6 HX.out.2
    exact bodyPost_ret (v := .tuple #[.agg #[.slice none 0 0, .slice none 0 0, .int .i64 0, .int .i64 0, .slice none 0 0, .slice none 0 0], .int .i64 1]) (by simp [results, Tryz.results12, go_sem, x0, x1, x2, x3, x4, x5]) rfl (HF.out 1 _ _ (by decide) HN.out rfl HX.out.1)
  | true =>
  go_wp2_with fail
  refine (u5 p4).mono ?_
  rintro _ _ ⟨rfl, ⟨p5, rfl⟩⟩
  clear a0 a1 b0 b1 u5
  obtain ⟨a0, a1⟩ := hX p5
  obtain ⟨b0, b1⟩ := hY p5
  cases lb with
  | false =>
    have hz := HZ.out p5
    obtain ⟨f0, f1, f2, f3, f4, f5⟩ := own_frozen6 hz
    obtain ⟨z0, z1, z2, z3, z4, z5⟩ := own6 hz
    obtain ⟨X, hX', hXo, hXb, hXs, hXh⟩ := own_six hz (.slice none 0 0) (.slice none 0 0) (.int .i64 0) (.int .i64 0) (.slice none 0 0) (.slice none 0 0)
    have HX := Lib.hid (And.intro (hXb w.heap.size w (HB.out.trans (p5.h.mono HB.out.size)) (by omega)) hXo)
    have HN := Lib.hid (show ¬ StartOk f a b from fun h => by have := HC.out.2.2.2.2.2 h.2.2.2.2; cases this)
    have HR := Lib.hid hX'
    clear hz hXo hXb hXs hXh hX' hX
    go_wp2_with fail
    rw [← HR.out]
    obtain ⟨x0, x1, x2, x3, x4, x5⟩ := own6 HX.out.2
    exact bodyPost_ret (v := .tuple #[.agg #[.slice none 0 0, .slice none 0 0, .int .i64 0, .int .i64 0, .slice none 0 0, .slice none 0 0], .int .i64 1]) (by simp [results, Tryz.results12, go_sem, x0, x1, x2, x3, x4, x5]) rfl (HF.out 1 _ _ (by decide) HN.out rfl HX.out.1)
  | true =>
  have hst : StartOk f a b := by
    refine ⟨?_, ?_, HC.out.2.2.1.1 trivial, HC.out.2.2.2.1.1 trivial, HC.out.2.2.2.2.1 rfl⟩
    · rcases HC.out.1 with ⟨e, _⟩ | ⟨_, e⟩
      · exact e
      · omega
    · rcases HC.out.2.1 with ⟨e, _⟩ | ⟨_, e⟩
      · exact e
      · omega
  obtain ⟨U, hU⟩ : ∃ U, U = p5.w := ⟨_, rfl⟩
  have hUb : Below V.heap.size V U := hU ▸ p5.h
  have hza := HI.out.1.keep hUb
  have hzb := HI.out.2.1.keep hUb
  have hzf := (HI.out.2.2.past hUb (Nat.le_refl _)).wide hUb.size
  have hzz : Own U (w.heap.size + 2) 25 Mg.nil.cells := hU ▸ HZ.out p5
  rw [← hU] at a0 a1 b0 b1
  have y1 := fun W (h : Bl U W) => Lib.hid (copyUps_any a.uA a.uc a.l W (hza.keep h).ups HOK.out.2.1.l hst.1.2.1.2.2 HOK.out.2.2.1)
  have y2 := fun W (h : Bl U W) => Lib.hid (copyUps_any b.uA b.uc b.l W (hzb.keep h).ups HOK.out.2.2.2.1.l hst.2.1.2.1.2.2 HOK.out.2.2.2.2)
  have y3 := fun W (h : Bl U W) => Lib.hid (listT_times A c f W ((hzf.past h (Nat.le_refl _)).wide h.size) (by have := HOK.out.1.n; omega))
  have HS := Lib.hid (fun W (h : Bm (w.heap.size + 2) U W) => And.intro ((Below.cell (p := ⟨w.heap.size, 1, none⟩) h (by show w.heap.size < _; omega)).trans a1) ((Below.cell (p := ⟨w.heap.size + 1, 1, none⟩) h (by show w.heap.size + 1 < _; omega)).trans b1))
  have hbs : w.heap.size + 2 ≤ U.heap.size := Nat.le_of_lt hzz.inside
  have HT := Lib.hid (fun W (h : Bl U W) => hzz.past h hzz.inside)
  have HU := Lib.hid (And.intro (HB.out.trans (hUb.mono HB.out.size)) (And.intro hst hzz.inside))
  have hself := Bl.refl U
  clear hza hzb hzf hzz hUb hst hX hY a0 b0
  go_upto_region 5 with fail
  rw [← hU]
  clear hU
  go_region_held3 (fun w' => Bm (w.heap.size + 2) U w' ∧ (w'.cell? ⟨w.heap.size, 1, none⟩ = some (.slice a.uA a.l.length a.uc) ∧ w'.cell? ⟨w.heap.size + 1, 1, none⟩ = some (.slice b.uA b.l.length b.uc)))
    ((refine (fun h => And.intro h (HS.out _ h)) ?_; repeat (first | with_reducible exact Bm.of hb3 hbs | with_reducible exact Bm.of hb2 hbs | with_reducible exact Bm.of hb1 hbs | with_reducible exact Bm.of hself hbs | with_reducible refine Bm.set ?_ (Nat.le_refl _) _ _ | with_reducible refine Bm.more ?_ hbs _ | with_reducible refine Bm.drew ?_)))
    (first | (go_at_call 39; refine (y3 _ hb2).out.mono ?_; rintro _ w3 ⟨A3, rfl, v3, n3, b3⟩; have hb3 : Bl U w3 := Bl.call hb2 b3; have v1 := v1.keep b3; have v2 := v2.keep b3; obtain ⟨f0, f1, f2, f3, f4, f5⟩ := own_frozen6 (HT.out _ hb3); obtain ⟨e0, e1, e2, e3, e4, e5⟩ := own6 (HT.out _ hb3)) | (go_at_call 38; have hq := hb1; refine (y2 _ hb1).out.mono ?_; rintro _ w2 ⟨A2, l2, rfl, p2', v2, o2, n2, b2, _⟩; have hb2 : Bl U w2 := Bl.call hb1 b2; have v1 := v1.keep b2) | (go_at_call 38; refine (y1 _ hself.drew).out.mono ?_; rintro _ w1 ⟨A1, l1, rfl, p1', v1, o1, n1, b1', _⟩; have hb1 : Bl U w1 := Bl.call hself.drew b1'))
  obtain ⟨X, hX', hXo, hXb, hXs, hXh⟩ := own_six (HT.out _ hb3) (.slice A1 l1.length l1.length) (.slice A2 l2.length l2.length) (.int .i64 0) (.int .i64 0) (.slice A3 f.length f.length) (.slice none 0 0)
  have s1 : U.heap.size ≤ w1.heap.size := hb1.below.size
  have s2 : U.heap.size ≤ w2.heap.size := hb2.below.size
  have s0 : w.heap.size + 2 < U.heap.size := HU.out.2.2
  have n1' : U.drew.heap.size = U.heap.size := rfl
  have HX := Lib.hid (And.intro (hXb w.heap.size w (HU.out.1.trans (hb3.below.mono HU.out.1.size)) (by omega)) hXo)
  have HQ := Lib.hid (show MgIn X X.heap.size ⟨A1, l1.length, l1, A2, l2.length, l2, 0, 0, A3, f.length, f, none, 0, []⟩ from ⟨ups_other v1 (n1.mono (by omega)) hXs hXh, ups_other v2 (n2.mono (by omega)) hXs hXh, times_other v3 (fun b o e => by have h1 := (n3 b o e).1; omega) hXs hXh, ⟨Lies.nil_, fun u hu => by cases hu⟩⟩)
  have HN := Lib.hid (show MgLo w.heap.size ⟨A1, l1.length, l1, A2, l2.length, l2, 0, 0, A3, f.length, f, none, 0, []⟩ from ⟨n1.mono (by omega), n2.mono (by omega), fun b o e => (by have h1 := (n3 b o e).1; omega), lo_nil _⟩)
  have HK := Lib.hid (show MgOk ⟨A1, l1.length, l1, A2, l2.length, l2, 0, 0, A3, f.length, f, none, 0, []⟩ from ⟨⟨by show l1.length ≤ _; rw [len_p p1']; exact HOK.out.2.1.l.n, o1⟩, ⟨by show l2.length ≤ _; rw [len_p p2']; exact HOK.out.2.2.2.1.l.n, o2⟩, ⟨HOK.out.1.n, Nat.le_refl _, Nat.le_trans HOK.out.1.le HOK.out.1.c_⟩, us_nil, ⟨by show -9223372036854775808 ≤ (0 : Int); omega, by show (0 : Int) ≤ 9223372036854775807; omega⟩, ⟨by show -9223372036854775808 ≤ (0 : Int); omega, by show (0 : Int) ≤ 9223372036854775807; omega⟩⟩)
  have HM := Lib.hid (And.intro p1' p2')
  have HR := Lib.hid hX'
  clear hX' hXo hXb hXs hXh e0 e1 e2 e3 e4 e5 v1 v2 v3 n1 n2 n3 o1 o2 p1' p2' s1 s2 s0 n1' y1 y2 y3 hq a1 b1
  go_wp2_with fail
  rw [← HR.out]
  obtain ⟨x0, x1, x2, x3, x4, x5⟩ := own6 HX.out.2
  exact bodyPost_ret (v := .tuple #[.agg #[.slice A1 l1.length l1.length, .slice A2 l2.length l2.length, .int .i64 0, .int .i64 0, .slice A3 f.length f.length, .slice none 0 0], .int .i64 0]) (by simp [results, Tryz.results12, go_sem, x0, x1, x2, x3, x4, x5]) rfl (HP.out ⟨A1, l1.length, l1, A2, l2.length, l2, 0, 0, A3, f.length, f, none, 0, []⟩ _ _ HU.out.2.1 rfl ⟨HM.out.1, HM.out.2, rfl, rfl, rfl, rfl⟩ HQ.out HK.out HN.out HX.out.1)
end Go.Proofs.YtllpfngmnccejaaGreat
