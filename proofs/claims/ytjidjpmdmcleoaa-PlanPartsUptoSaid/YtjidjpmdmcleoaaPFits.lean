/- Whether a plan has in its fields what it may. -/
import Derived.Test.YtjidjpmdmcleoaaPShapeB
import Derived.Test.YtjidjpmdmcleoaaELook2
namespace Go.Proofs.Ytjidjpmdmcleoaa
open Go Go.RowKit

/-- the box of what a plan may have, and the plan, in later worlds -/
structure FtIn (s : Sh) (p : Px) (B b o : Nat) (w : World) : Prop where
  box : Own w B 122 [.int .i64 s.k1, .int .i64 s.k2, .int .i64 s.e1, .int .i64 s.e2, .int .i64 s.c1, .int .i64 s.c2, .int .i64 s.w1, .int .i64 s.w2, .int .i64 s.n1, .int .i64 s.n2, .int .i64 s.a1, .int .i64 s.a2, .int .i64 s.r1, .int .i64 s.r2]
  at_ : PAt w b o p
  lt : b < w.heap.size
theorem FtIn.next {s : Sh} {p : Px} {B b o : Nat} {w w' : World} (h : FtIn s p B b o w) (hb : Below w.heap.size w w') : FtIn s p B b o w' := ⟨own_step h.box hb, h.at_.past hb h.lt, by have := hb.size; have := h.lt; omega⟩
theorem wrap_small {x : Int} (h1 : -9223372036854775808 ≤ x) (h2 : x ≤ 9223372036854775807) : IntKind.i64.wrap x = x := by simp [IntKind.wrap, IntKind.bits, IntKind.signed]; omega
theorem run_pick {P : Program} {ρ : Operand → Value} {o : Oper} (c x y : Operand) (h : o.op = .pick c x y) (b : Bool) (hc : ρ c = .bool b) (w : World) : (execOp ρ o).run P w = .ok (.value (if b then ρ x else ρ y)) w := by
  unfold execOp; rw [h]; cases b <;> simp [hc, asBool, go_sem]
theorem quiet_pick {P : Program} {C : World → Prop} {a : Act} {o : Oper} {K : Act → Prop} (c x y : Operand) (h : o.op = .pick c x y) (b : Bool) (hc : a.eval c = .bool b) (hk : K (a.put o.dst (if b then a.eval x else a.eval y))) : o.quiet P a C K :=
  ⟨_, fun w _ => by unfold Oper.quietAt; rw [run_pick c x y h b hc]; exact ⟨rfl, rfl⟩, hk⟩
/-- the rest of a quiet walk, if nothing is left but moves, picks and what is passed over -/
def dull (ops : Array Oper) : List Oper → Act → Option Act
  | [], a => some a
  | o :: rest, a => if Region.wanted o (yielded ops a.tmps) then (match o.op with
      | .move x => dull ops rest (a.put o.dst (a.eval x))
      | .assign x => dull ops rest (a.put o.dst (a.eval x))
      | .pick c x y => match a.eval c with
        | .bool b => dull ops rest (a.put o.dst (if b then a.eval x else a.eval y))
        | _ => none
      | _ => none) else dull ops rest (a.put o.dst undef)
theorem dull_quiet {P : Program} {ops : Array Oper} {C : World → Prop} {Q : Act → Prop} : ∀ (l : List Oper) (a a' : Act), dull ops l a = some a' → Q a' → wpQuiet P ops C Q l a
  | [], a, a', h, hQ => by
    obtain rfl : a = a' := by simpa [dull] using h
    exact hQ
  | o :: rest, a, a', h, hQ => by
    unfold dull at h
    refine wpQuiet_step fun K hK => ?_
    by_cases hw : Region.wanted o (yielded ops a.tmps) = true
    · rw [if_pos hw] at h ⊢
      split at h
      · rename_i x hx; exact BigFrame.quiet_move x hx (hK _ (dull_quiet rest _ _ h hQ))
      · rename_i x hx; exact BigFrame.quiet_assign x hx (hK _ (dull_quiet rest _ _ h hQ))
      · rename_i c x y hx
        split at h
        · rename_i b hb; exact quiet_pick c x y hx b hb (hK _ (dull_quiet rest _ _ h hQ))
        · cases h
      · cases h
    · rw [if_neg hw] at h ⊢
      exact hK _ (dull_quiet rest _ _ h hQ)
theorem wpQuiet_dull {P : Program} {ops : Array Oper} {C : World → Prop} {Q : Act → Prop} {l : List Oper} {a : Act} {n : Nat} {v : Value} (h : (dull ops l a).map (fun A => (A.tmps[n]?, A.defers)) = some (some v, [])) (hQ : ∀ A : Act, A.tmps[n]? = some v → A.defers = [] → Q A) : wpQuiet P ops C Q l a := by
  obtain ⟨A, hA, he⟩ := Option.map_eq_some_iff.1 h
  simp only [Prod.mk.injEq] at he
  exact dull_quiet l a A hA (hQ A he.1 he.2)
theorem has_val {a b n : Int} {B : Bool} (h : inS a b n = B) (w : World) : Calls Try.prog 70 #[.agg #[.int .i64 a, .int .i64 b], .int .i64 n] w fun x w' => x = .returned (.bool B) ∧ Below w.heap.size w w' := h ▸ has_any a b n w
theorem past_px {V : World} {b o : Nat} {p : Px} (h : PAt V b o p) (hb : b < V.heap.size) :
    (∀ q : Past V, q.w.cell? ⟨b, o, none⟩ = some (.int .u8 p.kind)) ∧ (∀ q : Past V, q.w.cell? ⟨b, o + 1, none⟩ = some (.int .i64 p.n)) ∧ (∀ q : Past V, q.w.cell? ⟨b, o + 2, none⟩ = some (.slice p.kA p.kids.length p.kc)) ∧ (∀ q : Past V, q.w.cell? ⟨b, o + 3, none⟩ = some (.slice p.eA p.exprs.length p.ec)) ∧
      (∀ q : Past V, q.w.cell? ⟨b, o + 4, none⟩ = some (.slice p.cA p.cols.length p.cc)) ∧ (∀ q : Past V, q.w.cell? ⟨b, o + 5, none⟩ = some (.slice p.wA p.wit.length p.wc)) ∧ (∀ q : Past V, q.w.cell? ⟨b, o + 6, none⟩ = some (.int .u8 p.agg)) ∧ (∀ q : Past V, q.w.cell? ⟨b, o + 7, none⟩ = some (.int .i64 p.rounds)) :=
  ⟨fun q => ((h.past q.h hb).eight).1, fun q => ((h.past q.h hb).eight).2.1, fun q => ((h.past q.h hb).eight).2.2.1, fun q => ((h.past q.h hb).eight).2.2.2.1, fun q => ((h.past q.h hb).eight).2.2.2.2.1, fun q => ((h.past q.h hb).eight).2.2.2.2.2.1, fun q => ((h.past q.h hb).eight).2.2.2.2.2.2.1, fun q => ((h.past q.h hb).eight).2.2.2.2.2.2.2⟩
set_option maxRecDepth 100000 in
set_option maxHeartbeats 16000000 in
theorem fits_any (s : Sh) (p : Px) (b o : Nat) (w : World) (h : PAt w b o p) (hb : b < w.heap.size) (ha : 0 ≤ p.agg ∧ p.agg ≤ 255) :
    Calls Try.prog 62 #[s.val, .pointer (some ⟨b, o, none⟩)] w fun x w' => x = .returned (.bool (s.fits p)) ∧ Below w.heap.size w w' := by
  have hS := Lib.hid (show s.fits p = (inS s.k1 s.k2 (p.kids.length : Int) && (inS s.e1 s.e2 (p.exprs.length : Int) && (inS s.c1 s.c2 (p.cols.length : Int) && (inS s.w1 s.w2 (p.wit.length : Int) && (inS s.n1 s.n2 p.n && (inS s.a1 s.a2 p.agg && (inS s.r1 s.r2 p.rounds))))))) from rfl)
  obtain ⟨B0, y0⟩ : ∃ B, inS s.k1 s.k2 (p.kids.length : Int) = B := ⟨_, rfl⟩
  obtain ⟨B1, y1⟩ : ∃ B, inS s.e1 s.e2 (p.exprs.length : Int) = B := ⟨_, rfl⟩
  obtain ⟨B2, y2⟩ : ∃ B, inS s.c1 s.c2 (p.cols.length : Int) = B := ⟨_, rfl⟩
  obtain ⟨B3, y3⟩ : ∃ B, inS s.w1 s.w2 (p.wit.length : Int) = B := ⟨_, rfl⟩
  obtain ⟨B4, y4⟩ : ∃ B, inS s.n1 s.n2 p.n = B := ⟨_, rfl⟩
  obtain ⟨B5, y5⟩ : ∃ B, inS s.a1 s.a2 p.agg = B := ⟨_, rfl⟩
  obtain ⟨B6, y6⟩ : ∃ B, inS s.r1 s.r2 p.rounds = B := ⟨_, rfl⟩
  rw [y0, y1, y2, y3, y4, y5, y6] at hS
  replace y0 := Lib.hid y0
  replace y1 := Lib.hid y1
  replace y2 := Lib.hid y2
  replace y3 := Lib.hid y3
  replace y4 := Lib.hid y4
  replace y5 := Lib.hid y5
  replace y6 := Lib.hid y6
  obtain ⟨W, hW⟩ : ∃ W, W = w.alloc (.cells #[.int .i64 s.k1, .int .i64 s.k2, .int .i64 s.e1, .int .i64 s.e2, .int .i64 s.c1, .int .i64 s.c2, .int .i64 s.w1, .int .i64 s.w2, .int .i64 s.n1, .int .i64 s.n2, .int .i64 s.a1, .int .i64 s.a2, .int .i64 s.r1, .int .i64 s.r2] 122) := ⟨_, rfl⟩
  have fb : Below w.heap.size w W := by rw [hW]; exact (Below.refl _ _).alloc (Nat.le_refl _) _
  have fo : FtIn s p w.heap.size b o W := ⟨by rw [hW]; exact own_at rfl, h.past fb hb, by have := fb.size; omega⟩
  have H0 := Lib.hid fb
  have x0 := fun q : Past W => (own_step fo.box q.h).at_ 0
  have x1 := fun q : Past W => (own_step fo.box q.h).at_ 1
  have x2 := fun q : Past W => (own_step fo.box q.h).at_ 2
  have x3 := fun q : Past W => (own_step fo.box q.h).at_ 3
  have x4 := fun q : Past W => (own_step fo.box q.h).at_ 4
  have x5 := fun q : Past W => (own_step fo.box q.h).at_ 5
  have x6 := fun q : Past W => (own_step fo.box q.h).at_ 6
  have x7 := fun q : Past W => (own_step fo.box q.h).at_ 7
  have x8 := fun q : Past W => (own_step fo.box q.h).at_ 8
  have x9 := fun q : Past W => (own_step fo.box q.h).at_ 9
  have x10 := fun q : Past W => (own_step fo.box q.h).at_ 10
  have x11 := fun q : Past W => (own_step fo.box q.h).at_ 11
  have x12 := fun q : Past W => (own_step fo.box q.h).at_ 12
  have x13 := fun q : Past W => (own_step fo.box q.h).at_ 13
  simp only [List.getElem?_cons_zero, List.getElem?_cons_succ] at x0 x1 x2 x3 x4 x5 x6 x7 x8 x9 x10 x11 x12 x13
  obtain ⟨e0, e1, e2, e3, e4, e5, e6, e7⟩ := past_px fo.at_ fo.lt
  obtain ⟨ha0, ha1⟩ := ha
  have hwr : IntKind.i64.wrap p.agg = p.agg := wrap_small (by omega) (by omega)
  clear h hb fb fo
  unfold Sh.val
  go_enter Try.func62, Try.ntmps62
  go_upto_region 1 with fail
  rw [← hW]
  clear hW
  have hz : ∀ q : Past W, Below w.heap.size w q.w := fun q => belows H0.out q.h
  cases B0 with
  | false =>
    have hF : s.fits p = false := by rw [hS.out]; simp
    replace hS := Lib.hid hF
    clear hF y1 y2 y3 y4 y5 y6 B1 B2 B3 B4 B5 B6
    refine wp_region_past W (by kernel_rfl) (by kernel_rfl) (Below.refl _ _) ?_
    iterate 7 (quiet_step (fail))
    quiet_step ((go_at_call 70; exact calls_past (has_val y0.out _)))
    refine wpQuiet_dull (n := 4) (v := .bool false) (by kernel_rfl) ?_
    intro A hT hD _ hw'
    obtain ⟨⟨wz, hbz⟩, hw''⟩ := hw'
    dsimp only at hw''
    obtain rfl := hw''
    have HB := Lib.hid (belows H0.out hbz)
    clear e0 e1 e2 e3 e4 e5 e6 e7 x0 x1 x2 x3 x4 x5 x6 x7 x8 x9 x10 x11 x12 x13
    go_wp2_with fail
    exact bodyPost_ret (v := .bool false) (by simp [results, Try.results62, go_sem, Act.eval, hT]) hD ⟨by rw [hS.out], HB.out⟩
  | true =>
  cases B1 with
  | false =>
    have hF : s.fits p = false := by rw [hS.out]; simp
    replace hS := Lib.hid hF
    clear hF y2 y3 y4 y5 y6 B2 B3 B4 B5 B6
    refine wp_region_past W (by kernel_rfl) (by kernel_rfl) (Below.refl _ _) ?_
    iterate 7 (quiet_step (fail))
    quiet_step ((go_at_call 70; exact calls_past (has_val y0.out _)))
    iterate 8 (quiet_step (fail))
    quiet_step ((go_at_call 70; exact calls_past (has_val y1.out _)))
    refine wpQuiet_dull (n := 4) (v := .bool false) (by kernel_rfl) ?_
    intro A hT hD _ hw'
    obtain ⟨⟨wz, hbz⟩, hw''⟩ := hw'
    dsimp only at hw''
    obtain rfl := hw''
    have HB := Lib.hid (belows H0.out hbz)
    clear e0 e1 e2 e3 e4 e5 e6 e7 x0 x1 x2 x3 x4 x5 x6 x7 x8 x9 x10 x11 x12 x13
    go_wp2_with fail
    exact bodyPost_ret (v := .bool false) (by simp [results, Try.results62, go_sem, Act.eval, hT]) hD ⟨by rw [hS.out], HB.out⟩
  | true =>
  cases B2 with
  | false =>
    have hF : s.fits p = false := by rw [hS.out]; simp
    replace hS := Lib.hid hF
    clear hF y3 y4 y5 y6 B3 B4 B5 B6
    refine wp_region_past W (by kernel_rfl) (by kernel_rfl) (Below.refl _ _) ?_
    iterate 7 (quiet_step (fail))
    quiet_step ((go_at_call 70; exact calls_past (has_val y0.out _)))
    iterate 8 (quiet_step (fail))
    quiet_step ((go_at_call 70; exact calls_past (has_val y1.out _)))
    iterate 9 (quiet_step (fail))
    quiet_step ((go_at_call 70; exact calls_past (has_val y2.out _)))
    refine wpQuiet_dull (n := 4) (v := .bool false) (by kernel_rfl) ?_
    intro A hT hD _ hw'
    obtain ⟨⟨wz, hbz⟩, hw''⟩ := hw'
    dsimp only at hw''
    obtain rfl := hw''
    have HB := Lib.hid (belows H0.out hbz)
    clear e0 e1 e2 e3 e4 e5 e6 e7 x0 x1 x2 x3 x4 x5 x6 x7 x8 x9 x10 x11 x12 x13
    go_wp2_with fail
    exact bodyPost_ret (v := .bool false) (by simp [results, Try.results62, go_sem, Act.eval, hT]) hD ⟨by rw [hS.out], HB.out⟩
  | true =>
  cases B3 with
  | false =>
    have hF : s.fits p = false := by rw [hS.out]; simp
    replace hS := Lib.hid hF
    clear hF y4 y5 y6 B4 B5 B6
    refine wp_region_past W (by kernel_rfl) (by kernel_rfl) (Below.refl _ _) ?_
    iterate 7 (quiet_step (fail))
    quiet_step ((go_at_call 70; exact calls_past (has_val y0.out _)))
    iterate 8 (quiet_step (fail))
    quiet_step ((go_at_call 70; exact calls_past (has_val y1.out _)))
    iterate 9 (quiet_step (fail))
    quiet_step ((go_at_call 70; exact calls_past (has_val y2.out _)))
    iterate 9 (quiet_step (fail))
    quiet_step ((go_at_call 70; exact calls_past (has_val y3.out _)))
    refine wpQuiet_dull (n := 4) (v := .bool false) (by kernel_rfl) ?_
    intro A hT hD _ hw'
    obtain ⟨⟨wz, hbz⟩, hw''⟩ := hw'
    dsimp only at hw''
    obtain rfl := hw''
    have HB := Lib.hid (belows H0.out hbz)
    clear e0 e1 e2 e3 e4 e5 e6 e7 x0 x1 x2 x3 x4 x5 x6 x7 x8 x9 x10 x11 x12 x13
    go_wp2_with fail
    exact bodyPost_ret (v := .bool false) (by simp [results, Try.results62, go_sem, Act.eval, hT]) hD ⟨by rw [hS.out], HB.out⟩
  | true =>
  cases B4 with
  | false =>
    have hF : s.fits p = false := by rw [hS.out]; simp
    replace hS := Lib.hid hF
    clear hF y5 y6 B5 B6
    refine wp_region_past W (by kernel_rfl) (by kernel_rfl) (Below.refl _ _) ?_
    iterate 7 (quiet_step (fail))
    quiet_step ((go_at_call 70; exact calls_past (has_val y0.out _)))
    iterate 8 (quiet_step (fail))
    quiet_step ((go_at_call 70; exact calls_past (has_val y1.out _)))
    iterate 9 (quiet_step (fail))
    quiet_step ((go_at_call 70; exact calls_past (has_val y2.out _)))
    iterate 9 (quiet_step (fail))
    quiet_step ((go_at_call 70; exact calls_past (has_val y3.out _)))
    iterate 8 (quiet_step (fail))
    quiet_step ((go_at_call 70; exact calls_past (has_val y4.out _)))
    refine wpQuiet_dull (n := 4) (v := .bool false) (by kernel_rfl) ?_
    intro A hT hD _ hw'
    obtain ⟨⟨wz, hbz⟩, hw''⟩ := hw'
    dsimp only at hw''
    obtain rfl := hw''
    have HB := Lib.hid (belows H0.out hbz)
    clear e0 e1 e2 e3 e4 e5 e6 e7 x0 x1 x2 x3 x4 x5 x6 x7 x8 x9 x10 x11 x12 x13
    go_wp2_with fail
    exact bodyPost_ret (v := .bool false) (by simp [results, Try.results62, go_sem, Act.eval, hT]) hD ⟨by rw [hS.out], HB.out⟩
  | true =>
  cases B5 with
  | false =>
    have hF : s.fits p = false := by rw [hS.out]; simp
    replace hS := Lib.hid hF
    clear hF y6 B6
    refine wp_region_past W (by kernel_rfl) (by kernel_rfl) (Below.refl _ _) ?_
    iterate 7 (quiet_step (fail))
    quiet_step ((go_at_call 70; exact calls_past (has_val y0.out _)))
    iterate 8 (quiet_step (fail))
    quiet_step ((go_at_call 70; exact calls_past (has_val y1.out _)))
    iterate 9 (quiet_step (fail))
    quiet_step ((go_at_call 70; exact calls_past (has_val y2.out _)))
    iterate 9 (quiet_step (fail))
    quiet_step ((go_at_call 70; exact calls_past (has_val y3.out _)))
    iterate 8 (quiet_step (fail))
    quiet_step ((go_at_call 70; exact calls_past (has_val y4.out _)))
    iterate 9 (quiet_step (fail))
    quiet_step ((go_at_call 70; exact calls_past (has_val y5.out _)))
    refine wpQuiet_dull (n := 4) (v := .bool false) (by kernel_rfl) ?_
    intro A hT hD _ hw'
    obtain ⟨⟨wz, hbz⟩, hw''⟩ := hw'
    dsimp only at hw''
    obtain rfl := hw''
    have HB := Lib.hid (belows H0.out hbz)
    clear e0 e1 e2 e3 e4 e5 e6 e7 x0 x1 x2 x3 x4 x5 x6 x7 x8 x9 x10 x11 x12 x13
    go_wp2_with fail
    exact bodyPost_ret (v := .bool false) (by simp [results, Try.results62, go_sem, Act.eval, hT]) hD ⟨by rw [hS.out], HB.out⟩
  | true =>
  cases B6 with
  | false =>
    have hF : s.fits p = false := by rw [hS.out]; simp
    replace hS := Lib.hid hF
    clear hF
    refine wp_region_past W (by kernel_rfl) (by kernel_rfl) (Below.refl _ _) ?_
    iterate 7 (quiet_step (fail))
    quiet_step ((go_at_call 70; exact calls_past (has_val y0.out _)))
    iterate 8 (quiet_step (fail))
    quiet_step ((go_at_call 70; exact calls_past (has_val y1.out _)))
    iterate 9 (quiet_step (fail))
    quiet_step ((go_at_call 70; exact calls_past (has_val y2.out _)))
    iterate 9 (quiet_step (fail))
    quiet_step ((go_at_call 70; exact calls_past (has_val y3.out _)))
    iterate 8 (quiet_step (fail))
    quiet_step ((go_at_call 70; exact calls_past (has_val y4.out _)))
    iterate 9 (quiet_step (fail))
    quiet_step ((go_at_call 70; exact calls_past (has_val y5.out _)))
    iterate 8 (quiet_step (fail))
    quiet_step ((go_at_call 70; exact calls_past (has_val y6.out _)))
    refine wpQuiet_dull (n := 4) (v := .bool false) (by kernel_rfl) ?_
    intro A hT hD _ hw'
    obtain ⟨⟨wz, hbz⟩, hw''⟩ := hw'
    dsimp only at hw''
    obtain rfl := hw''
    have HB := Lib.hid (belows H0.out hbz)
    clear e0 e1 e2 e3 e4 e5 e6 e7 x0 x1 x2 x3 x4 x5 x6 x7 x8 x9 x10 x11 x12 x13
    go_wp2_with fail
    exact bodyPost_ret (v := .bool false) (by simp [results, Try.results62, go_sem, Act.eval, hT]) hD ⟨by rw [hS.out], HB.out⟩
  | true =>
  refine wp_region_past W (by kernel_rfl) (by kernel_rfl) (Below.refl _ _) ?_
  iterate 7 (quiet_step (fail))
  quiet_step ((go_at_call 70; exact calls_past (has_val y0.out _)))
  iterate 8 (quiet_step (fail))
  quiet_step ((go_at_call 70; exact calls_past (has_val y1.out _)))
  iterate 9 (quiet_step (fail))
  quiet_step ((go_at_call 70; exact calls_past (has_val y2.out _)))
  iterate 9 (quiet_step (fail))
  quiet_step ((go_at_call 70; exact calls_past (has_val y3.out _)))
  iterate 8 (quiet_step (fail))
  quiet_step ((go_at_call 70; exact calls_past (has_val y4.out _)))
  iterate 9 (quiet_step (fail))
  quiet_step ((go_at_call 70; exact calls_past (has_val y5.out _)))
  iterate 8 (quiet_step (fail))
  quiet_step ((go_at_call 70; exact calls_past (has_val y6.out _)))
  refine wpQuiet_dull (n := 4) (v := .bool true) (by kernel_rfl) ?_
  intro A hT hD _ hw'
  obtain ⟨⟨wz, hbz⟩, hw''⟩ := hw'
  dsimp only at hw''
  obtain rfl := hw''
  have HB := Lib.hid (belows H0.out hbz)
  clear e0 e1 e2 e3 e4 e5 e6 e7 x0 x1 x2 x3 x4 x5 x6 x7 x8 x9 x10 x11 x12 x13
  go_wp2_with fail
  exact bodyPost_ret (v := .bool true) (by simp [results, Try.results62, go_sem, Act.eval, hT]) hD ⟨by rw [hS.out]; rfl, HB.out⟩
end Go.Proofs.Ytjidjpmdmcleoaa
