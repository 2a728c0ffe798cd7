/- The walk of the law on the lattice of times. -/
import Derived.Test.YtngklaompkcjaaaBounds
import Derived.Test.YtngklaompkcjaaaKeep
import Derived.Test.YtngklaompkcjaaaFartherWalk
namespace Go.Proofs.Ytngklaompkcjaaa
open Go Go.RowKit

theorem foldl_sup : ∀ (l : List Tm) (a s : Tm), (l.foldl Tm.sup a).le s = (a.le s && l.all (·.le s))
  | [], a, s => by simp
  | x :: l, a, s => by
    rw [List.foldl_cons, foldl_sup l, List.all_cons]
    have : (a.sup x).le s = (a.le s && x.le s) := by
      rw [Bool.eq_iff_iff, Bool.and_eq_true, Tm.le_iff, Tm.le_iff, Tm.le_iff]
      simp only [Tm.sup]
      omega
    rw [this, Bool.and_assoc]
theorem foldl_inf' : ∀ (l : List Tm) (a s : Tm), s.le (l.foldl Tm.inf a) = (s.le a && l.all (s.le ·))
  | [], a, s => by simp
  | x :: l, a, s => by
    rw [List.foldl_cons, foldl_inf' l, List.all_cons]
    have : s.le (a.inf x) = (s.le a && s.le x) := by
      rw [Bool.eq_iff_iff, Bool.and_eq_true, Tm.le_iff, Tm.le_iff, Tm.le_iff]
      simp only [Tm.inf]
      omega
    rw [this, Bool.and_assoc]
theorem lub_le {l : List Tm} (h : l ≠ []) (s : Tm) : (lub l).le s = l.all (·.le s) := by
  cases l with
  | nil => exact absurd rfl h
  | cons x l => simp [lub, foldl_sup]
theorem le_glb {l : List Tm} (h : l ≠ []) (s : Tm) : s.le (glb l) = l.all (s.le ·) := by
  cases l with
  | nil => exact absurd rfl h
  | cons x l => simp [glb, foldl_inf']
theorem le_lub {l : List Tm} {x : Tm} (h : x ∈ l) : x.le (lub l) = true := by
  have := le_refl' (lub l)
  rw [lub_le (by intro e; rw [e] at h; simp at h), List.all_eq_true] at this
  exact this x h
theorem glb_le {l : List Tm} {x : Tm} (h : x ∈ l) : (glb l).le x = true := by
  have := le_refl' (glb l)
  rw [le_glb (by intro e; rw [e] at h; simp at h), List.all_eq_true] at this
  exact this x h
theorem all_snoc {p : Tm → Bool} {l : List Tm} {s : Tm} {k : Nat} (h : l[k]? = some s) : (l.take (k + 1)).all p = ((l.take k).all p && p s) := by
  rw [List.take_add_one, h]; simp
/-- four times, each in a block of its own -/
def Q4 (w : World) (g h i j : Nat) (s t u v : Tm) : Prop := Own w g 25 s.cells ∧ Own w h 25 t.cells ∧ Own w i 25 u.cells ∧ Own w j 25 v.cells
theorem Q4.past {w w' : World} {g h i j : Nat} {s t u v : Tm} (q : Q4 w g h i j s t u v) (hb : Below w.heap.size w w') : Q4 w' g h i j s t u v :=
  ⟨Own.past q.1 hb q.1.inside, Own.past q.2.1 hb q.2.1.inside, Own.past q.2.2.1 hb q.2.2.1.inside, Own.past q.2.2.2 hb q.2.2.2.inside⟩
theorem Q4.cells {w : World} {g h i j : Nat} {s t u v : Tm} (q : Q4 w g h i j s t u v) :
    (w.cell? ⟨g, 0, none⟩ = some (.int .u64 (s.e : Int)) ∧ w.cell? ⟨g, 1, none⟩ = some (.int .u64 (s.a : Int)) ∧ w.cell? ⟨g, 2, none⟩ = some (.int .u64 (s.b : Int))) ∧ (w.cell? ⟨h, 0, none⟩ = some (.int .u64 (t.e : Int)) ∧ w.cell? ⟨h, 1, none⟩ = some (.int .u64 (t.a : Int)) ∧ w.cell? ⟨h, 2, none⟩ = some (.int .u64 (t.b : Int))) ∧ (w.cell? ⟨i, 0, none⟩ = some (.int .u64 (u.e : Int)) ∧ w.cell? ⟨i, 1, none⟩ = some (.int .u64 (u.a : Int)) ∧ w.cell? ⟨i, 2, none⟩ = some (.int .u64 (u.b : Int))) ∧ (w.cell? ⟨j, 0, none⟩ = some (.int .u64 (v.e : Int)) ∧ w.cell? ⟨j, 1, none⟩ = some (.int .u64 (v.a : Int)) ∧ w.cell? ⟨j, 2, none⟩ = some (.int .u64 (v.b : Int))) :=
  ⟨own_cells q.1 (Below.refl _ _), own_cells q.2.1 (Below.refl _ _), own_cells q.2.2.1 (Below.refl _ _), own_cells q.2.2.2 (Below.refl _ _)⟩

set_option maxRecDepth 100000 in
set_option maxHeartbeats 3200000 in
theorem lattice_walk (A : Option Addr) (c : Nat) (l : List Tm) (t : Tm) (w : World) (hl : Times w w.heap.size A l) (hc : l.length ≤ c) (hn : l.length * 24 ≤ 140737488351232) (hm : c ≤ maxLen) :
    Calls Try.prog 7 #[.slice A l.length c, t.val] w fun e w' => e = .returned (.bool true) ∧ Below w.heap.size w w' := by
  have a1 := fun W h => Lib.hid (lub_any A c l W h hc hm)
  have a2 := fun W h => Lib.hid (glb_any A c l W h hc hm)
  have a3 := fun x y W => Lib.hid (ahead_any x y W)
  have hup : ∀ x ∈ l, x.le (lub l) = true := fun x hx => le_lub hx
  have hdn : ∀ x ∈ l, (glb l).le x = true := fun x hx => glb_le hx
  have hut : l ≠ [] → (lub l).le t = l.all (·.le t) := fun h => lub_le h t
  have hdt : l ≠ [] → t.le (glb l) = l.all (t.le ·) := fun h => le_glb h t
  generalize lub l = u at *
  generalize glb l = d at *
  unfold Tm.val at *
  have Hl := Lib.hid hl
  have HM := Lib.hid (And.intro hup (And.intro hdn (And.intro hut hdt)))
  clear hl hm hup hdn hut hdt
  go_enter Try.func7, Try.ntmps7
  go_wp2_with fail
  obtain ⟨W, hW, fb, f0⟩ := boxes1 w t
  rw [← hW]
  refine (orders_true _).mono ?_
  rintro e w1 ⟨rfl, b1⟩
  have H1 := Lib.hid (And.intro (fb.trans (b1.mono fb.size)) (f0.past b1 f0.inside))
  clear hW fb f0 b1
  go_wp2_with fail
  refine (bounds_true _).mono ?_
  rintro e w2 ⟨rfl, b2⟩
  have H2 := Lib.hid (And.intro (H1.out.1.trans (b2.mono H1.out.1.size)) (H1.out.2.past b2 H1.out.2.inside))
  have HT := Lib.hid (times_keep Hl.out H2.out.1)
  clear b2 H1
  go_wp2_with fail
  refine (a1 _ HT.out).out.mono ?_
  rintro e w3 ⟨rfl, b3⟩
  have H3 := Lib.hid (And.intro (H2.out.1.trans (b3.mono H2.out.1.size)) (H2.out.2.past b3 H2.out.2.inside))
  have HT3 := Lib.hid (times_keep HT.out b3)
  clear b3 H2 HT
  go_wp2_with fail
  refine (a2 _ HT3.out).out.mono ?_
  rintro e w4 ⟨rfl, b4⟩
  have H4 := Lib.hid (And.intro (H3.out.1.trans (b4.mono H3.out.1.size)) (H3.out.2.past b4 H3.out.2.inside))
  have HT4 := Lib.hid (times_keep HT3.out b4)
  clear b4 H3 HT3
  go_wp2_with fail
  obtain ⟨V, hV, gb, g0, g1⟩ := boxes2 w4 u d
  rw [← hV]
  have HV := Lib.hid (And.intro (H4.out.1.trans (gb.mono H4.out.1.size)) (And.intro (H4.out.2.past gb H4.out.2.inside) (And.intro g0 (And.intro g1 (times_keep HT4.out gb)))))
  clear hV gb g0 g1 H4 HT4
  go_loopw [7, 8, 23] (fun p q i wr => ∃ (k : Nat) (a b : Bool), i = .int .i64 (k : Int) ∧ p = .bool a ∧ q = .bool b ∧ k ≤ l.length ∧ Below V.heap.size V wr ∧ (l.take k).all (·.le t) = a ∧ (l.take k).all (t.le ·) = b)
    (fun _ _ i _ => l.length - (intOf i).toNat)
  case atStart => exact ⟨0, true, true, rfl, rfl, rfl, by omega, Below.refl _ _, rfl, rfl⟩
  case round =>
    obtain ⟨k, a, b, rfl, rfl, rfl, hk, hb, haq, hbq⟩ := hrel
    obtain ⟨fb, f0, f1, f2, ft⟩ := HV.out
    by_cases hlt : k < l.length
    · have hx : l[k]? = some l[k] := List.getElem?_eq_getElem hlt
      obtain ⟨g, o, rfl, hB, hgc⟩ := ft (by omega)
      obtain ⟨c0, c1, c2⟩ := (hgc k _ hx).past hb hB
      have hxu := HM.out.1 _ (List.mem_of_getElem? hx)
      have hdx := HM.out.2.1 _ (List.mem_of_getElem? hx)
      have hs1 := all_snoc (p := (·.le t)) hx
      have hs2 := all_snoc (p := (t.le ·)) hx
      generalize l[k] = x at *
      obtain ⟨U, hU, ub, u0⟩ := boxes1 wr x
      have hB2 : g < wr.heap.size := by have := hb.size; omega
      have q : Q4 U w.heap.size w4.heap.size (w4.heap.size + 1) wr.heap.size t u d x := ⟨(f0.past hb f0.inside).past ub (f0.past hb f0.inside).inside, (f1.past hb f1.inside).past ub (f1.past hb f1.inside).inside, (f2.past hb f2.inside).past ub (f2.past hb f2.inside).inside, u0⟩
      have r1 := fun W => a3 x u W
      have r2 := fun W => a3 d x W
      have r3 := fun W => a3 x t W
      have r4 := fun W => a3 t x W
      rw [hxu] at r1
      rw [hdx] at r2
      have HQ := Lib.hid q
      have HU := Lib.hid (And.intro hU ub)
      have qw : Q4 wr w.heap.size w4.heap.size (w4.heap.size + 1) w.heap.size t u d t := ⟨f0.past hb f0.inside, f1.past hb f1.inside, f2.past hb f2.inside, f0.past hb f0.inside⟩
      have z1 := qw.1.inside
      have z2 := qw.2.1.inside
      have z3 := qw.2.2.1.inside
      have HW := Lib.hid qw
      have HR := Lib.hid (And.intro hb (And.intro hs1 (And.intro hs2 (And.intro haq hbq))))
      clear hxu hdx hs1 hs2 haq hbq hb hU ub u0 q qw fb f0 f1 f2 ft hgc hx
      obtain ⟨⟨x0, x1, x2⟩, ⟨c3, c4, c5⟩, ⟨c6, c7, c8⟩, c9, c10, c11⟩ := HW.out.cells
      cases a <;> cases b
      · go_wp2_with fail
        refine (r1 _).out.mono ?_
        rintro e v1 ⟨rfl, e1⟩
        rw [← HU.out.1] at e1
        have P1 := Lib.hid (HQ.out.past e1)
        have E1 := Lib.hid e1
        clear e1 x0 x1 x2 c0 c1 c2 c3 c4 c5 c6 c7 c8 c9 c10 c11
        obtain ⟨⟨c0, c1, c2⟩, ⟨c3, c4, c5⟩, ⟨c6, c7, c8⟩, c9, c10, c11⟩ := P1.out.cells
        go_wp2_with fail
        refine (r2 _).out.mono ?_
        rintro e v2 ⟨rfl, e2⟩
        have P2 := Lib.hid (P1.out.past e2)
        have E2 := Lib.hid e2
        clear e2 c0 c1 c2 c3 c4 c5 c6 c7 c8 c9 c10 c11
        obtain ⟨⟨c0, c1, c2⟩, ⟨c3, c4, c5⟩, ⟨c6, c7, c8⟩, c9, c10, c11⟩ := P2.out.cells
        go_wp2_with fail
        obtain ⟨hb, hs1, hs2, haq, hbq⟩ := HR.out
        have hfin : Below wr.heap.size wr v2 := (belows (belows HU.out.2 E1.out) E2.out)
        go_roundw
        case rel => exact ⟨k + 1, false, false, by go_num, rfl, rfl, by omega, hb.trans (hfin.mono hb.size), by rw [hs1, haq]; simp, by rw [hs2, hbq]; simp⟩
        case measure => simp [intOf]; omega
      · go_wp2_with fail
        refine (r1 _).out.mono ?_
        rintro e v1 ⟨rfl, e1⟩
        rw [← HU.out.1] at e1
        have P1 := Lib.hid (HQ.out.past e1)
        have E1 := Lib.hid e1
        clear e1 x0 x1 x2 c0 c1 c2 c3 c4 c5 c6 c7 c8 c9 c10 c11
        obtain ⟨⟨c0, c1, c2⟩, ⟨c3, c4, c5⟩, ⟨c6, c7, c8⟩, c9, c10, c11⟩ := P1.out.cells
        go_wp2_with fail
        refine (r2 _).out.mono ?_
        rintro e v2 ⟨rfl, e2⟩
        have P2 := Lib.hid (P1.out.past e2)
        have E2 := Lib.hid e2
        clear e2 c0 c1 c2 c3 c4 c5 c6 c7 c8 c9 c10 c11
        obtain ⟨⟨c0, c1, c2⟩, ⟨c3, c4, c5⟩, ⟨c6, c7, c8⟩, c9, c10, c11⟩ := P2.out.cells
        go_wp2_with fail
        refine (r4 _).out.mono ?_
        rintro e v3 ⟨rfl, e3⟩
        have P3 := Lib.hid (P2.out.past e3)
        have E3 := Lib.hid e3
        clear e3 c0 c1 c2 c3 c4 c5 c6 c7 c8 c9 c10 c11
        obtain ⟨⟨c0, c1, c2⟩, ⟨c3, c4, c5⟩, ⟨c6, c7, c8⟩, c9, c10, c11⟩ := P3.out.cells
        go_wp2_with fail
        obtain ⟨hb, hs1, hs2, haq, hbq⟩ := HR.out
        have hfin : Below wr.heap.size wr v3 := (belows (belows (belows HU.out.2 E1.out) E2.out) E3.out)
        go_roundw
        case rel => exact ⟨k + 1, false, t.le x, by go_num, rfl, rfl, by omega, hb.trans (hfin.mono hb.size), by rw [hs1, haq]; simp, by rw [hs2, hbq]; simp⟩
        case measure => simp [intOf]; omega
      · go_wp2_with fail
        refine (r1 _).out.mono ?_
        rintro e v1 ⟨rfl, e1⟩
        rw [← HU.out.1] at e1
        have P1 := Lib.hid (HQ.out.past e1)
        have E1 := Lib.hid e1
        clear e1 x0 x1 x2 c0 c1 c2 c3 c4 c5 c6 c7 c8 c9 c10 c11
        obtain ⟨⟨c0, c1, c2⟩, ⟨c3, c4, c5⟩, ⟨c6, c7, c8⟩, c9, c10, c11⟩ := P1.out.cells
        go_wp2_with fail
        refine (r2 _).out.mono ?_
        rintro e v2 ⟨rfl, e2⟩
        have P2 := Lib.hid (P1.out.past e2)
        have E2 := Lib.hid e2
        clear e2 c0 c1 c2 c3 c4 c5 c6 c7 c8 c9 c10 c11
        obtain ⟨⟨c0, c1, c2⟩, ⟨c3, c4, c5⟩, ⟨c6, c7, c8⟩, c9, c10, c11⟩ := P2.out.cells
        go_wp2_with fail
        refine (r3 _).out.mono ?_
        rintro e v3 ⟨rfl, e3⟩
        have P3 := Lib.hid (P2.out.past e3)
        have E3 := Lib.hid e3
        clear e3 c0 c1 c2 c3 c4 c5 c6 c7 c8 c9 c10 c11
        obtain ⟨⟨c0, c1, c2⟩, ⟨c3, c4, c5⟩, ⟨c6, c7, c8⟩, c9, c10, c11⟩ := P3.out.cells
        go_wp2_with fail
        obtain ⟨hb, hs1, hs2, haq, hbq⟩ := HR.out
        have hfin : Below wr.heap.size wr v3 := (belows (belows (belows HU.out.2 E1.out) E2.out) E3.out)
        go_roundw
        case rel => exact ⟨k + 1, x.le t, false, by go_num, rfl, rfl, by omega, hb.trans (hfin.mono hb.size), by rw [hs1, haq]; simp, by rw [hs2, hbq]; simp⟩
        case measure => simp [intOf]; omega
      · go_wp2_with fail
        refine (r1 _).out.mono ?_
        rintro e v1 ⟨rfl, e1⟩
        rw [← HU.out.1] at e1
        have P1 := Lib.hid (HQ.out.past e1)
        have E1 := Lib.hid e1
        clear e1 x0 x1 x2 c0 c1 c2 c3 c4 c5 c6 c7 c8 c9 c10 c11
        obtain ⟨⟨c0, c1, c2⟩, ⟨c3, c4, c5⟩, ⟨c6, c7, c8⟩, c9, c10, c11⟩ := P1.out.cells
        go_wp2_with fail
        refine (r2 _).out.mono ?_
        rintro e v2 ⟨rfl, e2⟩
        have P2 := Lib.hid (P1.out.past e2)
        have E2 := Lib.hid e2
        clear e2 c0 c1 c2 c3 c4 c5 c6 c7 c8 c9 c10 c11
        obtain ⟨⟨c0, c1, c2⟩, ⟨c3, c4, c5⟩, ⟨c6, c7, c8⟩, c9, c10, c11⟩ := P2.out.cells
        go_wp2_with fail
        refine (r3 _).out.mono ?_
        rintro e v3 ⟨rfl, e3⟩
        have P3 := Lib.hid (P2.out.past e3)
        have E3 := Lib.hid e3
        clear e3 c0 c1 c2 c3 c4 c5 c6 c7 c8 c9 c10 c11
        obtain ⟨⟨c0, c1, c2⟩, ⟨c3, c4, c5⟩, ⟨c6, c7, c8⟩, c9, c10, c11⟩ := P3.out.cells
        go_wp2_with fail
        refine (r4 _).out.mono ?_
        rintro e v4 ⟨rfl, e4⟩
        have P4 := Lib.hid (P3.out.past e4)
        have E4 := Lib.hid e4
        clear e4 c0 c1 c2 c3 c4 c5 c6 c7 c8 c9 c10 c11
        obtain ⟨⟨c0, c1, c2⟩, ⟨c3, c4, c5⟩, ⟨c6, c7, c8⟩, c9, c10, c11⟩ := P4.out.cells
        go_wp2_with fail
        obtain ⟨hb, hs1, hs2, haq, hbq⟩ := HR.out
        have hfin : Below wr.heap.size wr v4 := (belows (belows (belows (belows HU.out.2 E1.out) E2.out) E3.out) E4.out)
        go_roundw
        case rel => exact ⟨k + 1, x.le t, t.le x, by go_num, rfl, rfl, by omega, hb.trans (hfin.mono hb.size), by rw [hs1, haq]; simp, by rw [hs2, hbq]; simp⟩
        case measure => simp [intOf]; omega
    · have hk2 : k = l.length := by omega
      subst hk2
      rw [List.take_length] at haq hbq
      have q1 := (f0.past hb f0.inside)
      have q2 := (f1.past hb f1.inside)
      have q3 := (f2.past hb f2.inside)
      have q : Q4 wr w.heap.size w4.heap.size (w4.heap.size + 1) w.heap.size t u d t := ⟨q1, q2, q3, q1⟩
      have HQ := Lib.hid q
      have HB := Lib.hid (fb.trans (hb.mono fb.size))
      clear q q1 q2 q3 hb fb f0 f1 f2 ft
      by_cases hl0 : l.length = 0
      · have h52 : ((l.length : Int) == 0) = true := by rw [beq_iff_eq]; omega
        clear hl0 haq hbq
        go_wp2_with fail
        go_ret
        exact ⟨rfl, HB.out⟩
      · have h52 : ((l.length : Int) == 0) = false := by rw [beq_eq_false_iff_ne]; omega
        have hne : l ≠ [] := fun h => hl0 (by rw [h]; rfl)
        have hut := (HM.out.2.2.1 hne).trans haq
        have hdt := (HM.out.2.2.2 hne).trans hbq
        have r1 := fun W => a3 u t W
        have r2 := fun W => a3 t d W
        rw [hut] at r1
        rw [hdt] at r2
        clear hl0 hne hut hdt haq hbq
        obtain ⟨⟨c0, c1, c2⟩, ⟨c3, c4, c5⟩, ⟨c6, c7, c8⟩, c9, c10, c11⟩ := HQ.out.cells
        cases a <;> cases b
        · go_wp2_with fail
          go_ret
          exact ⟨rfl, HB.out⟩
        · go_wp2_with fail
          refine (r2 _).out.mono ?_
          rintro e v1 ⟨rfl, e1⟩
          have P1 := Lib.hid (HQ.out.past e1)
          have E1 := Lib.hid e1
          clear e1 c0 c1 c2 c3 c4 c5 c6 c7 c8 c9 c10 c11
          obtain ⟨⟨c0, c1, c2⟩, ⟨c3, c4, c5⟩, ⟨c6, c7, c8⟩, c9, c10, c11⟩ := P1.out.cells
          go_wp2_with fail
          go_ret
          exact ⟨rfl, (belows HB.out E1.out)⟩
        · go_wp2_with fail
          refine (r1 _).out.mono ?_
          rintro e v1 ⟨rfl, e1⟩
          have P1 := Lib.hid (HQ.out.past e1)
          have E1 := Lib.hid e1
          clear e1 c0 c1 c2 c3 c4 c5 c6 c7 c8 c9 c10 c11
          obtain ⟨⟨c0, c1, c2⟩, ⟨c3, c4, c5⟩, ⟨c6, c7, c8⟩, c9, c10, c11⟩ := P1.out.cells
          go_wp2_with fail
          go_ret
          exact ⟨rfl, (belows HB.out E1.out)⟩
        · go_wp2_with fail
          refine (r1 _).out.mono ?_
          rintro e v1 ⟨rfl, e1⟩
          have P1 := Lib.hid (HQ.out.past e1)
          have E1 := Lib.hid e1
          clear e1 c0 c1 c2 c3 c4 c5 c6 c7 c8 c9 c10 c11
          obtain ⟨⟨c0, c1, c2⟩, ⟨c3, c4, c5⟩, ⟨c6, c7, c8⟩, c9, c10, c11⟩ := P1.out.cells
          go_wp2_with fail
          refine (r2 _).out.mono ?_
          rintro e v2 ⟨rfl, e2⟩
          have P2 := Lib.hid (P1.out.past e2)
          have E2 := Lib.hid e2
          clear e2 c0 c1 c2 c3 c4 c5 c6 c7 c8 c9 c10 c11
          obtain ⟨⟨c0, c1, c2⟩, ⟨c3, c4, c5⟩, ⟨c6, c7, c8⟩, c9, c10, c11⟩ := P2.out.cells
          go_wp2_with fail
          go_ret
          exact ⟨rfl, (belows (belows HB.out E1.out) E2.out)⟩
end Go.Proofs.Ytngklaompkcjaaa
