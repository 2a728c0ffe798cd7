/- What a plan may have in its fields, as the program tells it: a reduction, and what is no plan. -/
import Derived.Test.YtjidjpmdmcleoaaPShape
namespace Go.Proofs.Ytjidjpmdmcleoaa
open Go Go.RowKit

theorem own_put2_at {w : World} {P : Nat} {t : TypeId} {a0 a1 a2 a3 a4 a5 a6 a7 a8 a9 a10 a11 a12 a13 : Value} (h : Own w P t [a0, a1, a2, a3, a4, a5, a6, a7, a8, a9, a10, a11, a12, a13]) (x y : Value) : Own ((w.setCell ⟨P, 8, none⟩ x).setCell ⟨P, 9, none⟩ y) P t [a0, a1, a2, a3, a4, a5, a6, a7, x, y, a10, a11, a12, a13] := (h.set_ 8 x).set_ 9 y
theorem shp8 {a : Int} (h : a ≠ 1) : (shp 8 a).val = .agg #[.int .i64 1, .int .i64 1, .int .i64 0, .int .i64 0, .int .i64 0, .int .i64 9223372036854775807, .int .i64 0, .int .i64 0, .int .i64 (-9223372036854775808), .int .i64 9223372036854775807, .int .i64 1, .int .i64 5, .int .i64 0, .int .i64 0] := by
  unfold shp
  rw [if_neg (by omega), if_neg (by omega), if_neg (by omega), if_neg (by omega), if_neg (by omega), if_neg (by omega), if_pos rfl, if_neg h, if_neg h]
  rfl
theorem own_step {w w' : World} {P : Nat} {t : TypeId} {l : List Value} (h : Own w P t l) (hb : Below w.heap.size w w') : Own w' P t l := h.past hb h.inside
attribute [local go_sem] cell_alloc_ne
attribute [local go_sem] frozen_alloc_ne
theorem shp0 {k a : Int} (h : k ≠ 1 ∧ k ≠ 2 ∧ k ≠ 3 ∧ k ≠ 4 ∧ k ≠ 5 ∧ k ≠ 6 ∧ k ≠ 7 ∧ k ≠ 8 ∧ k ≠ 9 ∧ k ≠ 10) : (shp k a).val = .agg #[.int .i64 1, .int .i64 0, .int .i64 0, .int .i64 0, .int .i64 0, .int .i64 0, .int .i64 0, .int .i64 0, .int .i64 0, .int .i64 0, .int .i64 0, .int .i64 0, .int .i64 0, .int .i64 0] := by
  unfold shp
  rw [if_neg (by omega), if_neg (by omega), if_neg (by omega), if_neg (by omega), if_neg (by omega), if_neg (by omega), if_neg (by omega), if_neg (by omega)]
  rfl
set_option maxRecDepth 100000 in
set_option maxHeartbeats 3200000 in
theorem shape_8a (p : Px) (b o : Nat) (w : World) (h : PAt w b o p) (hb : b < w.heap.size) (hk : p.kind = 8) (ha : p.agg = 1) :
    Calls Try.prog 61 #[.pointer (some ⟨b, o, none⟩)] w fun x w' => x = .returned (shp p.kind p.agg).val ∧ Below w.heap.size w w' := by
  obtain ⟨W, hW, fb, q0, q1, q2, q3, q4, hs⟩ := shbox w
  have hbW : b < W.heap.size := by omega
  obtain ⟨e0, _, _, _, _, _, e6, _⟩ := (h.past fb hb).eight
  have hv : (shp p.kind p.agg).val = .agg #[.int .i64 1, .int .i64 1, .int .i64 0, .int .i64 0, .int .i64 0, .int .i64 9223372036854775807, .int .i64 0, .int .i64 0, .int .i64 0, .int .i64 0, .int .i64 1, .int .i64 5, .int .i64 0, .int .i64 0] := by rw [hk, ha]; kernel_rfl
  rw [hv]
  rw [hk] at e0
  rw [ha] at e6
  have a0 := q1.at_ 0
  have a1 := q1.at_ 1
  have b0 := q2.at_ 0
  have b1 := q2.at_ 1
  have c0 := q3.at_ 0
  have c1 := q3.at_ 1
  have d0 := q4.at_ 0
  have d1 := q4.at_ 1
  simp only [List.getElem?_cons_zero, List.getElem?_cons_succ] at a0 a1 b0 b1 c0 c1 d0 d1
  obtain ⟨z0, z1, z2, z3, z4, z5, z6, z7, z8, z9, z10, z11, z12, z13⟩ := at14 q0
  have y0 := q0.open_ 0
  have y1 := q0.open_ 1
  have y2 := q0.open_ 2
  have y3 := q0.open_ 3
  have y4 := q0.open_ 4
  have y5 := q0.open_ 5
  have y6 := q0.open_ 6
  have y7 := q0.open_ 7
  have y8 := q0.open_ 8
  have y9 := q0.open_ 9
  have y10 := q0.open_ 10
  have y11 := q0.open_ 11
  have y12 := q0.open_ 12
  have y13 := q0.open_ 13
  have hy := Lib.hid (fun (w2 : World) (h : Below W.heap.size W w2) => own_step q0 h)
  have HQ := Lib.hid (And.intro q0 fb)
  have Hs := Lib.hid hs
  have hi0 := q0.inside
  have hne : w.heap.size ≠ W.heap.size := by omega
  have hne2 : W.heap.size ≠ w.heap.size := by omega
  have hne3 : b ≠ W.heap.size := by omega
  have hne4 : w.heap.size + 1 ≠ W.heap.size := by omega
  have hne5 : w.heap.size + 1 + 1 ≠ W.heap.size := by omega
  have hne6 : w.heap.size + 1 + 1 + 1 ≠ W.heap.size := by omega
  have hne7 : w.heap.size + 1 + 1 + 1 + 1 ≠ W.heap.size := by omega
  clear hk ha
  clear h hv q0 q1 q2 q3 q4 fb hs hb
  go_enter Try.func61, Try.ntmps61
  go_upto_region 3 with fail
  rw [← hW]
  clear hW
  go_upto_region 20 with fail
  obtain ⟨V, hV⟩ : ∃ V, V = W.alloc (.cells #[.int .i64 1, .int .i64 1, .int .i64 0, .int .i64 0, .int .i64 0, .int .i64 9223372036854775807, .int .i64 0, .int .i64 0, .int .i64 0, .int .i64 0, .int .i64 1, .int .i64 5, .int .i64 0, .int .i64 0] 122) := ⟨_, rfl⟩
  have hvb : Below W.heap.size W V := by rw [hV]; exact (Below.refl _ _).alloc (Nat.le_refl _) _
  have hvo : Own V W.heap.size 122 [.int .i64 1, .int .i64 1, .int .i64 0, .int .i64 0, .int .i64 0, .int .i64 9223372036854775807, .int .i64 0, .int .i64 0, .int .i64 0, .int .i64 0, .int .i64 1, .int .i64 5, .int .i64 0, .int .i64 0] := by rw [hV]; exact own_at rfl
  rw [← hV]
  have d0 := (hvb.cell (p := ⟨w.heap.size + 1 + 1 + 1 + 1, 0, none⟩) (by have := Hs.out; show w.heap.size + 1 + 1 + 1 + 1 < W.heap.size; omega)).trans d0
  have d1 := (hvb.cell (p := ⟨w.heap.size + 1 + 1 + 1 + 1, 1, none⟩) (by have := Hs.out; show w.heap.size + 1 + 1 + 1 + 1 < W.heap.size; omega)).trans d1
  have e6 := (hvb.cell (p := ⟨b, o + 6, none⟩) hbW).trans e6
  have q0 := hy.out V hvb
  have HV := Lib.hid (And.intro hvo (And.intro q0 (HQ.out.2.trans (hvb.mono (by have := Hs.out; omega)))))
  clear hV hvo q0 hvb z0 z1 z2 z3 z4 z5 z6 z7 z8 z9 z10 z11 z12 z13 y0 y1 y2 y3 y4 y5 y6 y7 y8 y9 y10 y11 y12 y13 a0 a1 b0 b1 c0 c1
  go_upto_region 22 with fail
  have hu1 := HV.out.1
  have hu2 := HV.out.2.1
  have hu3 := HV.out.2.2
  obtain ⟨x0, x1, x2, x3, x4, x5, x6, x7, x8, x9, x10, x11, x12, x13⟩ := at14 hu1
  obtain ⟨z0, z1, z2, z3, z4, z5, z6, z7, z8, z9, z10, z11, z12, z13⟩ := at14 hu2
  have y0 := hu2.open_ 0
  have y1 := hu2.open_ 1
  have y2 := hu2.open_ 2
  have y3 := hu2.open_ 3
  have y4 := hu2.open_ 4
  have y5 := hu2.open_ 5
  have y6 := hu2.open_ 6
  have y7 := hu2.open_ 7
  have y8 := hu2.open_ 8
  have y9 := hu2.open_ 9
  have y10 := hu2.open_ 10
  have y11 := hu2.open_ 11
  have y12 := hu2.open_ 12
  have y13 := hu2.open_ 13
  have HP := Lib.hid (And.intro hu3 hu2)
  clear hu1 hu2 hu3 d0 d1 e6
  go_wp2_with fail
  have hp := own_put14 HP.out.2 (.int .i64 1) (.int .i64 1) (.int .i64 0) (.int .i64 0) (.int .i64 0) (.int .i64 9223372036854775807) (.int .i64 0) (.int .i64 0) (.int .i64 0) (.int .i64 0) (.int .i64 1) (.int .i64 5) (.int .i64 0) (.int .i64 0)
  obtain ⟨x0, x1, x2, x3, x4, x5, x6, x7, x8, x9, x10, x11, x12, x13⟩ := at14 hp
  exact bodyPost_ret (v := .agg #[.int .i64 1, .int .i64 1, .int .i64 0, .int .i64 0, .int .i64 0, .int .i64 9223372036854775807, .int .i64 0, .int .i64 0, .int .i64 0, .int .i64 0, .int .i64 1, .int .i64 5, .int .i64 0, .int .i64 0]) (by simp [results, Try.results61, go_sem, x0, x1, x2, x3, x4, x5, x6, x7, x8, x9, x10, x11, x12, x13]) rfl ⟨rfl, below_put14 HP.out.1 (Nat.le_refl _) _ _ _ _ _ _ _ _ _ _ _ _ _ _⟩
set_option maxRecDepth 100000 in
set_option maxHeartbeats 3200000 in
theorem shape_8b (p : Px) (b o : Nat) (w : World) (h : PAt w b o p) (hb : b < w.heap.size) (hk : p.kind = 8) (ha : p.agg ≠ 1) :
    Calls Try.prog 61 #[.pointer (some ⟨b, o, none⟩)] w fun x w' => x = .returned (shp p.kind p.agg).val ∧ Below w.heap.size w w' := by
  obtain ⟨W, hW, fb, q0, q1, q2, q3, q4, hs⟩ := shbox w
  have hbW : b < W.heap.size := by omega
  obtain ⟨e0, _, _, _, _, _, e6, _⟩ := (h.past fb hb).eight
  have hv : (shp p.kind p.agg).val = .agg #[.int .i64 1, .int .i64 1, .int .i64 0, .int .i64 0, .int .i64 0, .int .i64 9223372036854775807, .int .i64 0, .int .i64 0, .int .i64 (-9223372036854775808), .int .i64 9223372036854775807, .int .i64 1, .int .i64 5, .int .i64 0, .int .i64 0] := by rw [hk]; exact shp8 ha
  rw [hv]
  rw [hk] at e0
  have t1 : (p.agg != 1) = true := by simpa using ha
  have a0 := q1.at_ 0
  have a1 := q1.at_ 1
  have b0 := q2.at_ 0
  have b1 := q2.at_ 1
  have c0 := q3.at_ 0
  have c1 := q3.at_ 1
  have d0 := q4.at_ 0
  have d1 := q4.at_ 1
  simp only [List.getElem?_cons_zero, List.getElem?_cons_succ] at a0 a1 b0 b1 c0 c1 d0 d1
  obtain ⟨z0, z1, z2, z3, z4, z5, z6, z7, z8, z9, z10, z11, z12, z13⟩ := at14 q0
  have y0 := q0.open_ 0
  have y1 := q0.open_ 1
  have y2 := q0.open_ 2
  have y3 := q0.open_ 3
  have y4 := q0.open_ 4
  have y5 := q0.open_ 5
  have y6 := q0.open_ 6
  have y7 := q0.open_ 7
  have y8 := q0.open_ 8
  have y9 := q0.open_ 9
  have y10 := q0.open_ 10
  have y11 := q0.open_ 11
  have y12 := q0.open_ 12
  have y13 := q0.open_ 13
  have hy := Lib.hid (fun (w2 : World) (h : Below W.heap.size W w2) => own_step q0 h)
  have HQ := Lib.hid (And.intro q0 fb)
  have Hs := Lib.hid hs
  have hi0 := q0.inside
  have hne : w.heap.size ≠ W.heap.size := by omega
  have hne2 : W.heap.size ≠ w.heap.size := by omega
  have hne3 : b ≠ W.heap.size := by omega
  have hne4 : w.heap.size + 1 ≠ W.heap.size := by omega
  have hne5 : w.heap.size + 1 + 1 ≠ W.heap.size := by omega
  have hne6 : w.heap.size + 1 + 1 + 1 ≠ W.heap.size := by omega
  have hne7 : w.heap.size + 1 + 1 + 1 + 1 ≠ W.heap.size := by omega
  clear hk ha
  clear h hv q0 q1 q2 q3 q4 fb hs hb
  go_enter Try.func61, Try.ntmps61
  go_upto_region 3 with fail
  rw [← hW]
  clear hW
  go_upto_region 20 with fail
  obtain ⟨V, hV⟩ : ∃ V, V = W.alloc (.cells #[.int .i64 1, .int .i64 1, .int .i64 0, .int .i64 0, .int .i64 0, .int .i64 9223372036854775807, .int .i64 0, .int .i64 0, .int .i64 0, .int .i64 0, .int .i64 1, .int .i64 5, .int .i64 0, .int .i64 0] 122) := ⟨_, rfl⟩
  have hvb : Below W.heap.size W V := by rw [hV]; exact (Below.refl _ _).alloc (Nat.le_refl _) _
  have hvo : Own V W.heap.size 122 [.int .i64 1, .int .i64 1, .int .i64 0, .int .i64 0, .int .i64 0, .int .i64 9223372036854775807, .int .i64 0, .int .i64 0, .int .i64 0, .int .i64 0, .int .i64 1, .int .i64 5, .int .i64 0, .int .i64 0] := by rw [hV]; exact own_at rfl
  rw [← hV]
  have d0 := (hvb.cell (p := ⟨w.heap.size + 1 + 1 + 1 + 1, 0, none⟩) (by have := Hs.out; show w.heap.size + 1 + 1 + 1 + 1 < W.heap.size; omega)).trans d0
  have d1 := (hvb.cell (p := ⟨w.heap.size + 1 + 1 + 1 + 1, 1, none⟩) (by have := Hs.out; show w.heap.size + 1 + 1 + 1 + 1 < W.heap.size; omega)).trans d1
  have e6 := (hvb.cell (p := ⟨b, o + 6, none⟩) hbW).trans e6
  have q0 := hy.out V hvb
  have HV := Lib.hid (And.intro hvo (And.intro q0 (HQ.out.2.trans (hvb.mono (by have := Hs.out; omega)))))
  have f8 := hvo.open_ 8
  have f9 := hvo.open_ 9
  have g8 := hvo.at_ 8
  have g9 := hvo.at_ 9
  simp only [List.getElem?_cons_zero, List.getElem?_cons_succ] at g8 g9
  clear hV hvo q0 hvb z0 z1 z2 z3 z4 z5 z6 z7 z8 z9 z10 z11 z12 z13 y0 y1 y2 y3 y4 y5 y6 y7 y8 y9 y10 y11 y12 y13 a0 a1 b0 b1 c0 c1
  go_upto_region 22 with fail
  obtain ⟨U, hU⟩ : ∃ U, U = (V.setCell ⟨W.heap.size, 8, none⟩ (.int .i64 (-9223372036854775808))).setCell ⟨W.heap.size, 9, none⟩ (.int .i64 9223372036854775807) := ⟨_, rfl⟩
  have hu1 := own_put2_at HV.out.1 (.int .i64 (-9223372036854775808)) (.int .i64 9223372036854775807)
  have hu2 := (HV.out.2.1.other (p := ⟨W.heap.size, 8, none⟩) hne2 (.int .i64 (-9223372036854775808))).other (p := ⟨W.heap.size, 9, none⟩) hne2 (.int .i64 9223372036854775807)
  have hu3 := (HV.out.2.2.setCell (p := ⟨W.heap.size, 8, none⟩) (by have := Hs.out; show _ ≤ W.heap.size; omega) (.int .i64 (-9223372036854775808))).setCell (p := ⟨W.heap.size, 9, none⟩) (by have := Hs.out; show _ ≤ W.heap.size; omega) (.int .i64 9223372036854775807)
  rw [← hU] at hu1 hu2 hu3 ⊢
  obtain ⟨x0, x1, x2, x3, x4, x5, x6, x7, x8, x9, x10, x11, x12, x13⟩ := at14 hu1
  obtain ⟨z0, z1, z2, z3, z4, z5, z6, z7, z8, z9, z10, z11, z12, z13⟩ := at14 hu2
  have y0 := hu2.open_ 0
  have y1 := hu2.open_ 1
  have y2 := hu2.open_ 2
  have y3 := hu2.open_ 3
  have y4 := hu2.open_ 4
  have y5 := hu2.open_ 5
  have y6 := hu2.open_ 6
  have y7 := hu2.open_ 7
  have y8 := hu2.open_ 8
  have y9 := hu2.open_ 9
  have y10 := hu2.open_ 10
  have y11 := hu2.open_ 11
  have y12 := hu2.open_ 12
  have y13 := hu2.open_ 13
  have HP := Lib.hid (And.intro hu3 hu2)
  clear hu1 hu2 hu3 d0 d1 e6 f8 f9 g8 g9 hU
  go_wp2_with fail
  have hp := own_put14 HP.out.2 (.int .i64 1) (.int .i64 1) (.int .i64 0) (.int .i64 0) (.int .i64 0) (.int .i64 9223372036854775807) (.int .i64 0) (.int .i64 0) (.int .i64 (-9223372036854775808)) (.int .i64 9223372036854775807) (.int .i64 1) (.int .i64 5) (.int .i64 0) (.int .i64 0)
  obtain ⟨x0, x1, x2, x3, x4, x5, x6, x7, x8, x9, x10, x11, x12, x13⟩ := at14 hp
  exact bodyPost_ret (v := .agg #[.int .i64 1, .int .i64 1, .int .i64 0, .int .i64 0, .int .i64 0, .int .i64 9223372036854775807, .int .i64 0, .int .i64 0, .int .i64 (-9223372036854775808), .int .i64 9223372036854775807, .int .i64 1, .int .i64 5, .int .i64 0, .int .i64 0]) (by simp [results, Try.results61, go_sem, x0, x1, x2, x3, x4, x5, x6, x7, x8, x9, x10, x11, x12, x13]) rfl ⟨rfl, below_put14 HP.out.1 (Nat.le_refl _) _ _ _ _ _ _ _ _ _ _ _ _ _ _⟩
set_option maxRecDepth 100000 in
set_option maxHeartbeats 3200000 in
theorem shape_0 (p : Px) (b o : Nat) (w : World) (h : PAt w b o p) (hb : b < w.heap.size) (hk : p.kind ≠ 1 ∧ p.kind ≠ 2 ∧ p.kind ≠ 3 ∧ p.kind ≠ 4 ∧ p.kind ≠ 5 ∧ p.kind ≠ 6 ∧ p.kind ≠ 7 ∧ p.kind ≠ 8 ∧ p.kind ≠ 9 ∧ p.kind ≠ 10) :
    Calls Try.prog 61 #[.pointer (some ⟨b, o, none⟩)] w fun x w' => x = .returned (shp p.kind p.agg).val ∧ Below w.heap.size w w' := by
  obtain ⟨W, hW, fb, q0, q1, q2, q3, q4, hs⟩ := shbox w
  have hbW : b < W.heap.size := by omega
  obtain ⟨e0, _, _, _, _, _, e6, _⟩ := (h.past fb hb).eight
  have hv : (shp p.kind p.agg).val = .agg #[.int .i64 1, .int .i64 0, .int .i64 0, .int .i64 0, .int .i64 0, .int .i64 0, .int .i64 0, .int .i64 0, .int .i64 0, .int .i64 0, .int .i64 0, .int .i64 0, .int .i64 0, .int .i64 0] := by exact shp0 hk
  rw [hv]
  have t1 : (p.kind == 1) = false := by simp; omega
  have t2 : (p.kind == 2) = false := by simp; omega
  have t3 : (p.kind == 3) = false := by simp; omega
  have t4 : (p.kind == 4) = false := by simp; omega
  have t5 : (p.kind == 5) = false := by simp; omega
  have t6 : (p.kind == 6) = false := by simp; omega
  have t7 : (p.kind == 7) = false := by simp; omega
  have t8 : (p.kind == 8) = false := by simp; omega
  have t9 : (p.kind == 9) = false := by simp; omega
  have t10 : (p.kind == 10) = false := by simp; omega
  have a0 := q1.at_ 0
  have a1 := q1.at_ 1
  have b0 := q2.at_ 0
  have b1 := q2.at_ 1
  have c0 := q3.at_ 0
  have c1 := q3.at_ 1
  have d0 := q4.at_ 0
  have d1 := q4.at_ 1
  simp only [List.getElem?_cons_zero, List.getElem?_cons_succ] at a0 a1 b0 b1 c0 c1 d0 d1
  obtain ⟨z0, z1, z2, z3, z4, z5, z6, z7, z8, z9, z10, z11, z12, z13⟩ := at14 q0
  have y0 := q0.open_ 0
  have y1 := q0.open_ 1
  have y2 := q0.open_ 2
  have y3 := q0.open_ 3
  have y4 := q0.open_ 4
  have y5 := q0.open_ 5
  have y6 := q0.open_ 6
  have y7 := q0.open_ 7
  have y8 := q0.open_ 8
  have y9 := q0.open_ 9
  have y10 := q0.open_ 10
  have y11 := q0.open_ 11
  have y12 := q0.open_ 12
  have y13 := q0.open_ 13
  have hy := Lib.hid (fun (w2 : World) (h : Below W.heap.size W w2) => own_step q0 h)
  have HQ := Lib.hid (And.intro q0 fb)
  have Hs := Lib.hid hs
  have hi0 := q0.inside
  have hne : w.heap.size ≠ W.heap.size := by omega
  have hne2 : W.heap.size ≠ w.heap.size := by omega
  have hne3 : b ≠ W.heap.size := by omega
  have hne4 : w.heap.size + 1 ≠ W.heap.size := by omega
  have hne5 : w.heap.size + 1 + 1 ≠ W.heap.size := by omega
  have hne6 : w.heap.size + 1 + 1 + 1 ≠ W.heap.size := by omega
  have hne7 : w.heap.size + 1 + 1 + 1 + 1 ≠ W.heap.size := by omega
  clear hk
  clear h hv q0 q1 q2 q3 q4 fb hs hb
  go_enter Try.func61, Try.ntmps61
  go_upto_region 3 with fail
  rw [← hW]
  clear hW
  go_wp2_with fail
  refine (nothing_any _).mono ?_
  rintro _ w2 ⟨rfl, b2⟩
  have q2 := hy.out w2 b2
  obtain ⟨z0, z1, z2, z3, z4, z5, z6, z7, z8, z9, z10, z11, z12, z13⟩ := at14 q2
  have y0 := q2.open_ 0
  have y1 := q2.open_ 1
  have y2 := q2.open_ 2
  have y3 := q2.open_ 3
  have y4 := q2.open_ 4
  have y5 := q2.open_ 5
  have y6 := q2.open_ 6
  have y7 := q2.open_ 7
  have y8 := q2.open_ 8
  have y9 := q2.open_ 9
  have y10 := q2.open_ 10
  have y11 := q2.open_ 11
  have y12 := q2.open_ 12
  have y13 := q2.open_ 13
  have HP := Lib.hid (And.intro (HQ.out.2.trans (b2.mono (by have := Hs.out; omega))) q2)
  clear b2 q2
  go_wp2_with fail
  have hp := own_put14 HP.out.2 (.int .i64 1) (.int .i64 0) (.int .i64 0) (.int .i64 0) (.int .i64 0) (.int .i64 0) (.int .i64 0) (.int .i64 0) (.int .i64 0) (.int .i64 0) (.int .i64 0) (.int .i64 0) (.int .i64 0) (.int .i64 0)
  obtain ⟨x0, x1, x2, x3, x4, x5, x6, x7, x8, x9, x10, x11, x12, x13⟩ := at14 hp
  exact bodyPost_ret (v := .agg #[.int .i64 1, .int .i64 0, .int .i64 0, .int .i64 0, .int .i64 0, .int .i64 0, .int .i64 0, .int .i64 0, .int .i64 0, .int .i64 0, .int .i64 0, .int .i64 0, .int .i64 0, .int .i64 0]) (by simp [results, Try.results61, go_sem, x0, x1, x2, x3, x4, x5, x6, x7, x8, x9, x10, x11, x12, x13]) rfl ⟨rfl, below_put14 HP.out.1 (Nat.le_refl _) _ _ _ _ _ _ _ _ _ _ _ _ _ _⟩
theorem shape_any (p : Px) (b o : Nat) (w : World) (h : PAt w b o p) (hb : b < w.heap.size) :
    Calls Try.prog 61 #[.pointer (some ⟨b, o, none⟩)] w fun x w' => x = .returned (shp p.kind p.agg).val ∧ Below w.heap.size w w' := by
  by_cases h1 : p.kind = 1
  · exact shape_1 p b o w h hb h1
  by_cases h2 : p.kind = 2
  · exact shape_2 p b o w h hb h2
  by_cases h3 : p.kind = 3
  · exact shape_3 p b o w h hb h3
  by_cases h4 : p.kind = 4
  · exact shape_4 p b o w h hb h4
  by_cases h5 : p.kind = 5
  · exact shape_5 p b o w h hb h5
  by_cases h6 : p.kind = 6
  · exact shape_6 p b o w h hb h6
  by_cases h9 : p.kind = 9
  · exact shape_9 p b o w h hb h9
  by_cases h7 : p.kind = 7
  · exact shape_7 p b o w h hb h7
  by_cases h10 : p.kind = 10
  · exact shape_10 p b o w h hb h10
  by_cases h8 : p.kind = 8
  · by_cases ha : p.agg = 1
    · exact shape_8a p b o w h hb h8 ha
    · exact shape_8b p b o w h hb h8 ha
  exact shape_0 p b o w h hb ⟨h1, h2, h3, h4, h5, h6, h7, h8, h9, h10⟩
end Go.Proofs.Ytjidjpmdmcleoaa
