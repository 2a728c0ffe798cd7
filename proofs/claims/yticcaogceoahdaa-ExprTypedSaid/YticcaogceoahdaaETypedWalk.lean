/- ExprTyped returns true. -/
import Derived.Test.YticcaogceoahdaaESchema
import Derived.Test.YticcaogceoahdaaESumsWalk
namespace Go.Proofs.Yticcaogceoahdaa
open Go Go.RowKit

set_option maxRecDepth 100000 in
set_option maxHeartbeats 6400000 in
theorem typed_core (e : Lx) (A : Option Addr) (c : Nat) (row : List Vl) (w : World) (he : LxFine w e) (hl : Vals w w.heap.size A row) (hn : row.length ≤ maxLen) (hn32 : row.length * 32 ≤ 140737488351232) (hr : ∀ v ∈ row, VOk v) (T : Int × Int) (R : Vl × Int) (hT : inferE (row.map tyV) e = T) (hR : evalE row e = R)
    (key : (T.2 ≠ 0 ∧ R.2 ≠ 0) ∨ (T.2 ≠ 0 ∧ R.2 = 0 ∧ T.2 ≠ 4 ∧ T.2 ≠ 2) ∨ (T.2 = 0 ∧ R.2 = 4) ∨ (T.2 = 0 ∧ R.2 = 10 ∧ R.1 = Vl.zero) ∨ (T.2 = 0 ∧ R.2 = 0 ∧ R.1.t = (T.1 == 2))) :
    Calls Try.prog 3 #[e.val, .slice A row.length c] w fun x w' => x = .returned (.bool true) ∧ Below w.heap.size w w' := by
  have y0 := fun W => Lib.hid (elives_true W)
  have y1 := fun W h => Lib.hid (schema_any A c row W h hn32)
  have y2 : ∀ W A2 c2, LxFine W e → Tys W W.heap.size A2 (row.map tyV) → Hid (Calls Try.prog 7 #[e.val, .slice A2 row.length c2] W fun x w' => x = .returned (.tuple #[.int .u8 T.1, .int .i64 T.2]) ∧ Below W.heap.size W w') := fun W A2 c2 h1 h2 => by
    have h := inferE_any e A2 c2 (row.map tyV) W (h1 17).1 (h1 17).2 h2 (by rw [List.length_map]; exact hn)
    rw [List.length_map, hT] at h
    exact Lib.hid h
  have y3 : ∀ W, LxFine W e → Vals W W.heap.size A row → Hid (Calls Try.prog 9 #[e.val, .slice A row.length c] W fun x w' => x = .returned (.tuple #[R.1.val, .int .i64 R.2]) ∧ Below W.heap.size W w') := fun W h1 h2 => by
    have h := evalE_any e A c row W (h1 17).1 (h1 17).2 h2 hn hr
    rw [hR] at h
    exact Lib.hid h
  obtain ⟨W, hW, fb, hs, f1⟩ := lxbox w e
  have HB := Lib.hid (And.intro fb (And.intro (⟨f1, lxFine_keep he fb⟩ : Boxed e w.heap.size W) (vals_keep hl fb)))
  have hLen : ∀ (W : World) (base : Nat) (v : Value), W.ownsRow base 30 1 v row.length ((row.map tyV).map cellT) → ∃ A2 c2, v = .slice A2 row.length c2 ∧ Tys W W.heap.size A2 (row.map tyV) := fun W base v h => by
    obtain ⟨A2, c2, h1, _, _, h4, _⟩ := tys_of_own (l := row.map tyV) (by rw [List.length_map]) h
    rw [List.length_map] at h1
    exact ⟨A2, c2, h1, h4⟩
  have hLen := Lib.hid hLen
  clear he hl hn hn32 hr hT hR fb hs f1
  obtain ⟨t, u1⟩ := T
  obtain ⟨v, u2⟩ := R
  dsimp only at *
  unfold Lx.val at *
  go_enter Try.func3, Try.ntmps3
  go_upto_region 1 with fail
  rw [← hW]
  clear hW
  go_wp2_with fail
  refine (y0 _).out.mono ?_
  rintro _ w1 ⟨rfl, b1⟩
  have H1 := Lib.hid (And.intro (belows HB.out.1 b1) (And.intro (HB.out.2.1.next b1) (vals_keep HB.out.2.2 b1)))
  clear b1
  go_upto_region 3 with fail
  go_cut [5, 6] (fun s5 s6 wx => s5 = .int .u8 t ∧ s6 = .int .i64 u1 ∧ Below w1.heap.size w1 wx)
  case first =>
    have hsix := H1.out.2.1.six
    have HS := Lib.hid (fun (w' : World) (h : Below w1.heap.size w1 w') => (H1.out.2.1.next h).six)
    have HV := Lib.hid (fun (w' : World) (h : Below w1.heap.size w1 w') => vals_keep H1.out.2.2 h)
    have HF := Lib.hid (fun (w' : World) (h : Below w1.heap.size w1 w') => (H1.out.2.1.next h).fine)
    obtain ⟨a0, a1, a2, a3, a4, a5⟩ := hsix
    go_region_held3 (fun w' => Below w1.heap.size w1 w' ∧ (w'.cell? ⟨w.heap.size, 0, none⟩ = some (.int .u8 e.op) ∧ w'.cell? ⟨w.heap.size, 1, none⟩ = some (.int .i64 e.col) ∧ w'.cell? ⟨w.heap.size, 2, none⟩ = some (.bool e.c.t) ∧
      w'.cell? ⟨w.heap.size, 3, none⟩ = some (.int .i64 e.c.n) ∧ w'.cell? ⟨w.heap.size, 4, none⟩ = some (.string e.c.s) ∧ w'.cell? ⟨w.heap.size, 5, none⟩ = some (.slice e.A e.kids.length e.cap)))
      ((refine (fun h => And.intro h (HS.out _ h)) ?_; first | exact (Below.refl _ _).drew | exact hb2 | exact hb3))
      (first | (go_at_call 8; refine (y1 _ (HV.out _ (Below.refl _ _).drew)).out.mono ?_; rintro _ w2 ⟨v2, rfl, ho2, hbx⟩; obtain ⟨A2, c2, rfl, ht2⟩ := hLen.out _ _ _ ho2; have hb2 : Below w1.heap.size w1 w2 := belows (Below.refl _ _).drew hbx) | (go_at_call 7; refine (y2 _ _ _ (HF.out _ hb2) ht2).out.mono ?_; rintro _ w3 ⟨rfl, hby⟩; have hb3 : Below w1.heap.size w1 w3 := belows hb2 hby))
    all_goals
      go_wp2_with fail
      go_meet
      exact ⟨rfl, rfl, hb3⟩
  case rest =>
    obtain ⟨rfl, rfl, hcb⟩ := hcut
    have H2 := Lib.hid (And.intro (belows H1.out.1 hcb) (And.intro (H1.out.2.1.next hcb) (vals_keep H1.out.2.2 hcb)))
    clear hcb y0 y1 y2
    obtain ⟨a0, a1, a2, a3, a4, a5⟩ := H2.out.2.1.six
    have y3 := y3 _ H2.out.2.1.fine H2.out.2.2
    go_wp2_with fail
    refine y3.out.mono ?_
    rintro _ w4 ⟨rfl, b4⟩
    obtain ⟨V4, hV⟩ : ∃ V, V = w4.alloc (.cells #[.bool v.t, .int .i64 v.n, .string v.s] 24) := ⟨_, rfl⟩
    have h1 : Below w4.heap.size w4 V4 := by rw [hV]; exact (Below.refl _ _).alloc (Nat.le_refl _) _
    have h2 : Own V4 w4.heap.size 24 v.cells := by rw [hV]; exact Own.made w4 _ _
    have H4 := Lib.hid (belows H2.out.1 (belows b4 h1))
    have d0 := h2.at_ 0
    have d1 := h2.at_ 1
    have d2 := h2.at_ 2
    simp only [Vl.cells, List.getElem?_cons_zero, List.getElem?_cons_succ] at d0 d1 d2
    clear b4 h1 h2 y3 a0 a1 a2 a3 a4 a5
    unfold Vl.val
    try dsimp only
    go_upto_region 5 with fail
    rw [← hV]
    clear hV
    rcases key with ⟨k1, k2⟩ | ⟨k1, rfl, k3, k4⟩ | ⟨rfl, rfl⟩ | ⟨rfl, rfl, rfl⟩ | ⟨rfl, rfl, k⟩
    · have t1 : (u1 != 0) = true := bne_iff_ne.2 k1
      have t2 : (u2 != 0) = true := bne_iff_ne.2 k2
      clear k1 k2
      go_wp2_with fail
      go_ret
      exact ⟨rfl, H4.out⟩
    · have t1 : (u1 != 0) = true := bne_iff_ne.2 k1
      have t2 : (u1 != 4) = true := bne_iff_ne.2 k3
      have t3 : (u1 != 2) = true := bne_iff_ne.2 k4
      clear k1 k3 k4
      go_wp2_with fail
      go_ret
      exact ⟨rfl, H4.out⟩
    · go_wp2_with fail
      go_ret
      exact ⟨rfl, H4.out⟩
    · have hgd := fun (x1 y1 : Operand) (xs ys : Array Value) (w : World) => grd_val .eql x1 y1 xs ys w
      have he := eql_val Vl.zero Vl.zero
      rw [eqV_iff.2 rfl] at he
      unfold Vl.val Vl.zero at he
      unfold Vl.zero at d0 d1 d2
      dsimp only at he d0 d1 d2
      go_wp2_with fail
      go_ret
      exact ⟨rfl, H4.out⟩
    · rw [k] at d0
      go_wp2_with fail
      go_ret
      exact ⟨ret_bool (by simp), H4.out⟩
theorem typed_walk (e : Lx) (A : Option Addr) (c : Nat) (row : List Vl) (w : World) (he : LxFine w e) (hl : Vals w w.heap.size A row) (hc : row.length ≤ c) (hn32 : row.length * 32 ≤ 140737488351232) (hm : c ≤ maxLen) (hr : ∀ v ∈ row, VOk v) :
    Calls Try.prog 3 #[e.val, .slice A row.length c] w fun x w' => x = .returned (.bool true) ∧ Below w.heap.size w w' :=
  typed_core e A c row w he hl (Nat.le_trans hc hm) hn32 hr _ _ rfl rfl (typed_key row e)
end Go.Proofs.Yticcaogceoahdaa
