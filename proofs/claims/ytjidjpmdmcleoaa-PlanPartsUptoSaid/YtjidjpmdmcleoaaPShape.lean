/- What a plan may have in its fields, as the program tells it. -/
import Derived.Test.YtjidjpmdmcleoaaPMem
namespace Go.Proofs.Ytjidjpmdmcleoaa
open Go Go.RowKit

def Sh.val (s : Sh) : Value := .agg #[.int .i64 s.k1, .int .i64 s.k2, .int .i64 s.e1, .int .i64 s.e2, .int .i64 s.c1, .int .i64 s.c2, .int .i64 s.w1, .int .i64 s.w2, .int .i64 s.n1, .int .i64 s.n2, .int .i64 s.a1, .int .i64 s.a2, .int .i64 s.r1, .int .i64 s.r2]
def z14 : List Value := [.int .i64 0, .int .i64 0, .int .i64 0, .int .i64 0, .int .i64 0, .int .i64 0, .int .i64 0, .int .i64 0, .int .i64 0, .int .i64 0, .int .i64 0, .int .i64 0, .int .i64 0, .int .i64 0]
theorem shbox (w : World) : ∃ W, W = (((((w.alloc (.cells #[.int .i64 0, .int .i64 0, .int .i64 0, .int .i64 0, .int .i64 0, .int .i64 0, .int .i64 0, .int .i64 0, .int .i64 0, .int .i64 0, .int .i64 0, .int .i64 0, .int .i64 0, .int .i64 0] 122)).alloc (.cells #[.int .i64 1, .int .i64 1] 120)).alloc (.cells #[.int .i64 2, .int .i64 2] 120)).alloc
      (.cells #[.int .i64 0, .int .i64 9223372036854775807] 120)).alloc (.cells #[.int .i64 (-9223372036854775808), .int .i64 9223372036854775807] 120)) ∧ Below w.heap.size w W ∧ Own W w.heap.size 122 z14 ∧ Own W (w.heap.size + 1) 120 [.int .i64 1, .int .i64 1] ∧
      Own W (w.heap.size + 1 + 1) 120 [.int .i64 2, .int .i64 2] ∧ Own W (w.heap.size + 1 + 1 + 1) 120 [.int .i64 0, .int .i64 9223372036854775807] ∧ Own W (w.heap.size + 1 + 1 + 1 + 1) 120 [.int .i64 (-9223372036854775808), .int .i64 9223372036854775807] ∧ W.heap.size = w.heap.size + 5 :=
  ⟨_, rfl, (((((Below.refl _ _).alloc (Nat.le_refl _) _).alloc (by simp) _).alloc (by simp; omega) _).alloc (by simp; omega) _).alloc (by simp; omega) _,
    ((((own_at (l := z14) rfl).more _).more _).more _).more _, (((own_at (by simp)).more _).more _).more _, ((own_at (by simp)).more _).more _, (own_at (by simp)).more _, own_at (by simp), by simp⟩
theorem at14 {w : World} {P : Nat} {t : TypeId} {a0 a1 a2 a3 a4 a5 a6 a7 a8 a9 a10 a11 a12 a13 : Value} (h : Own w P t [a0, a1, a2, a3, a4, a5, a6, a7, a8, a9, a10, a11, a12, a13]) :
    w.cell? ⟨P, 0, none⟩ = some a0 ∧ w.cell? ⟨P, 1, none⟩ = some a1 ∧ w.cell? ⟨P, 2, none⟩ = some a2 ∧ w.cell? ⟨P, 3, none⟩ = some a3 ∧ w.cell? ⟨P, 4, none⟩ = some a4 ∧ w.cell? ⟨P, 5, none⟩ = some a5 ∧ w.cell? ⟨P, 6, none⟩ = some a6 ∧ w.cell? ⟨P, 7, none⟩ = some a7 ∧
      w.cell? ⟨P, 8, none⟩ = some a8 ∧ w.cell? ⟨P, 9, none⟩ = some a9 ∧ w.cell? ⟨P, 10, none⟩ = some a10 ∧ w.cell? ⟨P, 11, none⟩ = some a11 ∧ w.cell? ⟨P, 12, none⟩ = some a12 ∧ w.cell? ⟨P, 13, none⟩ = some a13 :=
  ⟨h.at_ 0, h.at_ 1, h.at_ 2, h.at_ 3, h.at_ 4, h.at_ 5, h.at_ 6, h.at_ 7, h.at_ 8, h.at_ 9, h.at_ 10, h.at_ 11, h.at_ 12, h.at_ 13⟩
theorem below_put14 {B : Nat} {u w : World} {P : Nat} (h : Below B u w) (hg : B ≤ P) (a0 a1 a2 a3 a4 a5 a6 a7 a8 a9 a10 a11 a12 a13 : Value) :
    Below B u ((((((((((((((w.setCell ⟨P, 0, none⟩ a0).setCell ⟨P, 1, none⟩ a1).setCell ⟨P, 2, none⟩ a2).setCell ⟨P, 3, none⟩ a3).setCell ⟨P, 4, none⟩ a4).setCell ⟨P, 5, none⟩ a5).setCell ⟨P, 6, none⟩ a6).setCell ⟨P, 7, none⟩ a7).setCell ⟨P, 8, none⟩ a8).setCell ⟨P, 9, none⟩ a9).setCell ⟨P, 10, none⟩ a10).setCell ⟨P, 11, none⟩ a11).setCell ⟨P, 12, none⟩ a12).setCell ⟨P, 13, none⟩ a13) :=
  (((((((((((((h.setCell hg _).setCell hg _).setCell hg _).setCell hg _).setCell hg _).setCell hg _).setCell hg _).setCell hg _).setCell hg _).setCell hg _).setCell hg _).setCell hg _).setCell hg _).setCell hg _
set_option maxRecDepth 100000 in
set_option maxHeartbeats 1600000 in
theorem nothing_any (w : World) : Calls Try.prog 69 #[] w fun x w' => x = .returned (.agg #[.int .i64 1, .int .i64 0, .int .i64 0, .int .i64 0, .int .i64 0, .int .i64 0, .int .i64 0, .int .i64 0, .int .i64 0, .int .i64 0, .int .i64 0, .int .i64 0, .int .i64 0, .int .i64 0]) ∧ Below w.heap.size w w' := by
  go_enter Try.func69, Try.ntmps69
  go_wp2_with fail
  exact bodyPost_ret (v := .agg #[.int .i64 1, .int .i64 0, .int .i64 0, .int .i64 0, .int .i64 0, .int .i64 0, .int .i64 0, .int .i64 0, .int .i64 0, .int .i64 0, .int .i64 0, .int .i64 0, .int .i64 0, .int .i64 0]) (by simp [results, Try.results69, go_sem]) rfl ⟨rfl, (Below.refl _ _).alloc (Nat.le_refl _) _⟩
set_option maxRecDepth 100000 in
set_option maxHeartbeats 3200000 in
theorem shape_1 (p : Px) (b o : Nat) (w : World) (h : PAt w b o p) (hb : b < w.heap.size) (hk : p.kind = 1) :
    Calls Try.prog 61 #[.pointer (some ⟨b, o, none⟩)] w fun x w' => x = .returned (shp p.kind p.agg).val ∧ Below w.heap.size w w' := by
  obtain ⟨W, hW, fb, q0, q1, q2, q3, q4, hs⟩ := shbox w
  obtain ⟨e0, _, _, _, _, _, _, _⟩ := (h.past fb hb).eight
  have hv : (shp p.kind p.agg).val = .agg #[.int .i64 0, .int .i64 0, .int .i64 0, .int .i64 0, .int .i64 0, .int .i64 0, .int .i64 0, .int .i64 0, .int .i64 (-9223372036854775808), .int .i64 9223372036854775807, .int .i64 0, .int .i64 0, .int .i64 0, .int .i64 0] := by rw [hk]; kernel_rfl
  rw [hv]
  rw [hk] at e0
  have a0 := q1.at_ 0
  have a1 := q1.at_ 1
  have b0 := q2.at_ 0
  have b1 := q2.at_ 1
  have c0 := q3.at_ 0
  have c1 := q3.at_ 1
  have d0 := q4.at_ 0
  have d1 := q4.at_ 1
  simp only [List.getElem?_cons_zero, List.getElem?_cons_succ] at a0 a1 b0 b1 c0 c1 d0 d1
  have hz := at14 q0
  obtain ⟨z0, z1, z2, z3, z4, z5, z6, z7, z8, z9, z10, z11, z12, z13⟩ := hz
  have y0 := q0.open_ 0
  have y1 := q0.open_ 1
  have y2 := q0.open_ 2
  have y3 := q0.open_ 3
  have y4 := q0.open_ 4
  have y5 := q0.open_ 5
  have y6 := q0.open_ 6
  have y7 := q0.open_ 7
  have y8 := q0.open_ 8
  have y9 := q0.open_ 9
  have y10 := q0.open_ 10
  have y11 := q0.open_ 11
  have y12 := q0.open_ 12
  have y13 := q0.open_ 13
  have HQ := Lib.hid (And.intro q0 fb)
  have Hs := Lib.hid hs
  clear h hk hv q0 q1 q2 q3 q4 fb hs hb
  go_enter Try.func61, Try.ntmps61
  go_upto_region 3 with fail
  rw [← hW]
  clear hW
  go_wp2_with fail
  have hp := own_put14 HQ.out.1 (.int .i64 0) (.int .i64 0) (.int .i64 0) (.int .i64 0) (.int .i64 0) (.int .i64 0) (.int .i64 0) (.int .i64 0) (.int .i64 (-9223372036854775808)) (.int .i64 9223372036854775807) (.int .i64 0) (.int .i64 0) (.int .i64 0) (.int .i64 0)
  obtain ⟨x0, x1, x2, x3, x4, x5, x6, x7, x8, x9, x10, x11, x12, x13⟩ := at14 hp
  exact bodyPost_ret (v := .agg #[.int .i64 0, .int .i64 0, .int .i64 0, .int .i64 0, .int .i64 0, .int .i64 0, .int .i64 0, .int .i64 0, .int .i64 (-9223372036854775808), .int .i64 9223372036854775807, .int .i64 0, .int .i64 0, .int .i64 0, .int .i64 0]) (by simp [results, Try.results61, go_sem, x0, x1, x2, x3, x4, x5, x6, x7, x8, x9, x10, x11, x12, x13]) rfl ⟨rfl, below_put14 HQ.out.2 (Nat.le_refl _) _ _ _ _ _ _ _ _ _ _ _ _ _ _⟩

set_option maxRecDepth 100000 in
set_option maxHeartbeats 3200000 in
theorem shape_2 (p : Px) (b o : Nat) (w : World) (h : PAt w b o p) (hb : b < w.heap.size) (hk : p.kind = 2) :
    Calls Try.prog 61 #[.pointer (some ⟨b, o, none⟩)] w fun x w' => x = .returned (shp p.kind p.agg).val ∧ Below w.heap.size w w' := by
  obtain ⟨W, hW, fb, q0, q1, q2, q3, q4, hs⟩ := shbox w
  obtain ⟨e0, _, _, _, _, _, _, _⟩ := (h.past fb hb).eight
  have hv : (shp p.kind p.agg).val = .agg #[.int .i64 0, .int .i64 0, .int .i64 0, .int .i64 0, .int .i64 0, .int .i64 0, .int .i64 0, .int .i64 0, .int .i64 (-9223372036854775808), .int .i64 9223372036854775807, .int .i64 0, .int .i64 0, .int .i64 0, .int .i64 0] := by rw [hk]; kernel_rfl
  rw [hv]
  rw [hk] at e0
  have a0 := q1.at_ 0
  have a1 := q1.at_ 1
  have b0 := q2.at_ 0
  have b1 := q2.at_ 1
  have c0 := q3.at_ 0
  have c1 := q3.at_ 1
  have d0 := q4.at_ 0
  have d1 := q4.at_ 1
  simp only [List.getElem?_cons_zero, List.getElem?_cons_succ] at a0 a1 b0 b1 c0 c1 d0 d1
  have hz := at14 q0
  obtain ⟨z0, z1, z2, z3, z4, z5, z6, z7, z8, z9, z10, z11, z12, z13⟩ := hz
  have y0 := q0.open_ 0
  have y1 := q0.open_ 1
  have y2 := q0.open_ 2
  have y3 := q0.open_ 3
  have y4 := q0.open_ 4
  have y5 := q0.open_ 5
  have y6 := q0.open_ 6
  have y7 := q0.open_ 7
  have y8 := q0.open_ 8
  have y9 := q0.open_ 9
  have y10 := q0.open_ 10
  have y11 := q0.open_ 11
  have y12 := q0.open_ 12
  have y13 := q0.open_ 13
  have HQ := Lib.hid (And.intro q0 fb)
  have Hs := Lib.hid hs
  clear h hk hv q0 q1 q2 q3 q4 fb hs hb
  go_enter Try.func61, Try.ntmps61
  go_upto_region 3 with fail
  rw [← hW]
  clear hW
  go_wp2_with fail
  have hp := own_put14 HQ.out.1 (.int .i64 0) (.int .i64 0) (.int .i64 0) (.int .i64 0) (.int .i64 0) (.int .i64 0) (.int .i64 0) (.int .i64 0) (.int .i64 (-9223372036854775808)) (.int .i64 9223372036854775807) (.int .i64 0) (.int .i64 0) (.int .i64 0) (.int .i64 0)
  obtain ⟨x0, x1, x2, x3, x4, x5, x6, x7, x8, x9, x10, x11, x12, x13⟩ := at14 hp
  exact bodyPost_ret (v := .agg #[.int .i64 0, .int .i64 0, .int .i64 0, .int .i64 0, .int .i64 0, .int .i64 0, .int .i64 0, .int .i64 0, .int .i64 (-9223372036854775808), .int .i64 9223372036854775807, .int .i64 0, .int .i64 0, .int .i64 0, .int .i64 0]) (by simp [results, Try.results61, go_sem, x0, x1, x2, x3, x4, x5, x6, x7, x8, x9, x10, x11, x12, x13]) rfl ⟨rfl, below_put14 HQ.out.2 (Nat.le_refl _) _ _ _ _ _ _ _ _ _ _ _ _ _ _⟩

set_option maxRecDepth 100000 in
set_option maxHeartbeats 3200000 in
theorem shape_3 (p : Px) (b o : Nat) (w : World) (h : PAt w b o p) (hb : b < w.heap.size) (hk : p.kind = 3) :
    Calls Try.prog 61 #[.pointer (some ⟨b, o, none⟩)] w fun x w' => x = .returned (shp p.kind p.agg).val ∧ Below w.heap.size w w' := by
  obtain ⟨W, hW, fb, q0, q1, q2, q3, q4, hs⟩ := shbox w
  obtain ⟨e0, _, _, _, _, _, _, _⟩ := (h.past fb hb).eight
  have hv : (shp p.kind p.agg).val = .agg #[.int .i64 1, .int .i64 1, .int .i64 0, .int .i64 9223372036854775807, .int .i64 0, .int .i64 0, .int .i64 0, .int .i64 0, .int .i64 0, .int .i64 0, .int .i64 0, .int .i64 0, .int .i64 0, .int .i64 0] := by rw [hk]; kernel_rfl
  rw [hv]
  rw [hk] at e0
  have a0 := q1.at_ 0
  have a1 := q1.at_ 1
  have b0 := q2.at_ 0
  have b1 := q2.at_ 1
  have c0 := q3.at_ 0
  have c1 := q3.at_ 1
  have d0 := q4.at_ 0
  have d1 := q4.at_ 1
  simp only [List.getElem?_cons_zero, List.getElem?_cons_succ] at a0 a1 b0 b1 c0 c1 d0 d1
  have hz := at14 q0
  obtain ⟨z0, z1, z2, z3, z4, z5, z6, z7, z8, z9, z10, z11, z12, z13⟩ := hz
  have y0 := q0.open_ 0
  have y1 := q0.open_ 1
  have y2 := q0.open_ 2
  have y3 := q0.open_ 3
  have y4 := q0.open_ 4
  have y5 := q0.open_ 5
  have y6 := q0.open_ 6
  have y7 := q0.open_ 7
  have y8 := q0.open_ 8
  have y9 := q0.open_ 9
  have y10 := q0.open_ 10
  have y11 := q0.open_ 11
  have y12 := q0.open_ 12
  have y13 := q0.open_ 13
  have HQ := Lib.hid (And.intro q0 fb)
  have Hs := Lib.hid hs
  clear h hk hv q0 q1 q2 q3 q4 fb hs hb
  go_enter Try.func61, Try.ntmps61
  go_upto_region 3 with fail
  rw [← hW]
  clear hW
  go_wp2_with fail
  have hp := own_put14 HQ.out.1 (.int .i64 1) (.int .i64 1) (.int .i64 0) (.int .i64 9223372036854775807) (.int .i64 0) (.int .i64 0) (.int .i64 0) (.int .i64 0) (.int .i64 0) (.int .i64 0) (.int .i64 0) (.int .i64 0) (.int .i64 0) (.int .i64 0)
  obtain ⟨x0, x1, x2, x3, x4, x5, x6, x7, x8, x9, x10, x11, x12, x13⟩ := at14 hp
  exact bodyPost_ret (v := .agg #[.int .i64 1, .int .i64 1, .int .i64 0, .int .i64 9223372036854775807, .int .i64 0, .int .i64 0, .int .i64 0, .int .i64 0, .int .i64 0, .int .i64 0, .int .i64 0, .int .i64 0, .int .i64 0, .int .i64 0]) (by simp [results, Try.results61, go_sem, x0, x1, x2, x3, x4, x5, x6, x7, x8, x9, x10, x11, x12, x13]) rfl ⟨rfl, below_put14 HQ.out.2 (Nat.le_refl _) _ _ _ _ _ _ _ _ _ _ _ _ _ _⟩

set_option maxRecDepth 100000 in
set_option maxHeartbeats 3200000 in
theorem shape_4 (p : Px) (b o : Nat) (w : World) (h : PAt w b o p) (hb : b < w.heap.size) (hk : p.kind = 4) :
    Calls Try.prog 61 #[.pointer (some ⟨b, o, none⟩)] w fun x w' => x = .returned (shp p.kind p.agg).val ∧ Below w.heap.size w w' := by
  obtain ⟨W, hW, fb, q0, q1, q2, q3, q4, hs⟩ := shbox w
  obtain ⟨e0, _, _, _, _, _, _, _⟩ := (h.past fb hb).eight
  have hv : (shp p.kind p.agg).val = .agg #[.int .i64 1, .int .i64 1, .int .i64 1, .int .i64 1, .int .i64 0, .int .i64 0, .int .i64 0, .int .i64 0, .int .i64 0, .int .i64 0, .int .i64 0, .int .i64 0, .int .i64 0, .int .i64 0] := by rw [hk]; kernel_rfl
  rw [hv]
  rw [hk] at e0
  have a0 := q1.at_ 0
  have a1 := q1.at_ 1
  have b0 := q2.at_ 0
  have b1 := q2.at_ 1
  have c0 := q3.at_ 0
  have c1 := q3.at_ 1
  have d0 := q4.at_ 0
  have d1 := q4.at_ 1
  simp only [List.getElem?_cons_zero, List.getElem?_cons_succ] at a0 a1 b0 b1 c0 c1 d0 d1
  have hz := at14 q0
  obtain ⟨z0, z1, z2, z3, z4, z5, z6, z7, z8, z9, z10, z11, z12, z13⟩ := hz
  have y0 := q0.open_ 0
  have y1 := q0.open_ 1
  have y2 := q0.open_ 2
  have y3 := q0.open_ 3
  have y4 := q0.open_ 4
  have y5 := q0.open_ 5
  have y6 := q0.open_ 6
  have y7 := q0.open_ 7
  have y8 := q0.open_ 8
  have y9 := q0.open_ 9
  have y10 := q0.open_ 10
  have y11 := q0.open_ 11
  have y12 := q0.open_ 12
  have y13 := q0.open_ 13
  have HQ := Lib.hid (And.intro q0 fb)
  have Hs := Lib.hid hs
  clear h hk hv q0 q1 q2 q3 q4 fb hs hb
  go_enter Try.func61, Try.ntmps61
  go_upto_region 3 with fail
  rw [← hW]
  clear hW
  go_wp2_with fail
  have hp := own_put14 HQ.out.1 (.int .i64 1) (.int .i64 1) (.int .i64 1) (.int .i64 1) (.int .i64 0) (.int .i64 0) (.int .i64 0) (.int .i64 0) (.int .i64 0) (.int .i64 0) (.int .i64 0) (.int .i64 0) (.int .i64 0) (.int .i64 0)
  obtain ⟨x0, x1, x2, x3, x4, x5, x6, x7, x8, x9, x10, x11, x12, x13⟩ := at14 hp
  exact bodyPost_ret (v := .agg #[.int .i64 1, .int .i64 1, .int .i64 1, .int .i64 1, .int .i64 0, .int .i64 0, .int .i64 0, .int .i64 0, .int .i64 0, .int .i64 0, .int .i64 0, .int .i64 0, .int .i64 0, .int .i64 0]) (by simp [results, Try.results61, go_sem, x0, x1, x2, x3, x4, x5, x6, x7, x8, x9, x10, x11, x12, x13]) rfl ⟨rfl, below_put14 HQ.out.2 (Nat.le_refl _) _ _ _ _ _ _ _ _ _ _ _ _ _ _⟩

set_option maxRecDepth 100000 in
set_option maxHeartbeats 3200000 in
theorem shape_5 (p : Px) (b o : Nat) (w : World) (h : PAt w b o p) (hb : b < w.heap.size) (hk : p.kind = 5) :
    Calls Try.prog 61 #[.pointer (some ⟨b, o, none⟩)] w fun x w' => x = .returned (shp p.kind p.agg).val ∧ Below w.heap.size w w' := by
  obtain ⟨W, hW, fb, q0, q1, q2, q3, q4, hs⟩ := shbox w
  obtain ⟨e0, _, _, _, _, _, _, _⟩ := (h.past fb hb).eight
  have hv : (shp p.kind p.agg).val = .agg #[.int .i64 1, .int .i64 9223372036854775807, .int .i64 0, .int .i64 0, .int .i64 0, .int .i64 0, .int .i64 0, .int .i64 0, .int .i64 0, .int .i64 0, .int .i64 0, .int .i64 0, .int .i64 0, .int .i64 0] := by rw [hk]; kernel_rfl
  rw [hv]
  rw [hk] at e0
  have a0 := q1.at_ 0
  have a1 := q1.at_ 1
  have b0 := q2.at_ 0
  have b1 := q2.at_ 1
  have c0 := q3.at_ 0
  have c1 := q3.at_ 1
  have d0 := q4.at_ 0
  have d1 := q4.at_ 1
  simp only [List.getElem?_cons_zero, List.getElem?_cons_succ] at a0 a1 b0 b1 c0 c1 d0 d1
  have hz := at14 q0
  obtain ⟨z0, z1, z2, z3, z4, z5, z6, z7, z8, z9, z10, z11, z12, z13⟩ := hz
  have y0 := q0.open_ 0
  have y1 := q0.open_ 1
  have y2 := q0.open_ 2
  have y3 := q0.open_ 3
  have y4 := q0.open_ 4
  have y5 := q0.open_ 5
  have y6 := q0.open_ 6
  have y7 := q0.open_ 7
  have y8 := q0.open_ 8
  have y9 := q0.open_ 9
  have y10 := q0.open_ 10
  have y11 := q0.open_ 11
  have y12 := q0.open_ 12
  have y13 := q0.open_ 13
  have HQ := Lib.hid (And.intro q0 fb)
  have Hs := Lib.hid hs
  clear h hk hv q0 q1 q2 q3 q4 fb hs hb
  go_enter Try.func61, Try.ntmps61
  go_upto_region 3 with fail
  rw [← hW]
  clear hW
  go_wp2_with fail
  have hp := own_put14 HQ.out.1 (.int .i64 1) (.int .i64 9223372036854775807) (.int .i64 0) (.int .i64 0) (.int .i64 0) (.int .i64 0) (.int .i64 0) (.int .i64 0) (.int .i64 0) (.int .i64 0) (.int .i64 0) (.int .i64 0) (.int .i64 0) (.int .i64 0)
  obtain ⟨x0, x1, x2, x3, x4, x5, x6, x7, x8, x9, x10, x11, x12, x13⟩ := at14 hp
  exact bodyPost_ret (v := .agg #[.int .i64 1, .int .i64 9223372036854775807, .int .i64 0, .int .i64 0, .int .i64 0, .int .i64 0, .int .i64 0, .int .i64 0, .int .i64 0, .int .i64 0, .int .i64 0, .int .i64 0, .int .i64 0, .int .i64 0]) (by simp [results, Try.results61, go_sem, x0, x1, x2, x3, x4, x5, x6, x7, x8, x9, x10, x11, x12, x13]) rfl ⟨rfl, below_put14 HQ.out.2 (Nat.le_refl _) _ _ _ _ _ _ _ _ _ _ _ _ _ _⟩

set_option maxRecDepth 100000 in
set_option maxHeartbeats 3200000 in
theorem shape_6 (p : Px) (b o : Nat) (w : World) (h : PAt w b o p) (hb : b < w.heap.size) (hk : p.kind = 6) :
    Calls Try.prog 61 #[.pointer (some ⟨b, o, none⟩)] w fun x w' => x = .returned (shp p.kind p.agg).val ∧ Below w.heap.size w w' := by
  obtain ⟨W, hW, fb, q0, q1, q2, q3, q4, hs⟩ := shbox w
  obtain ⟨e0, _, _, _, _, _, _, _⟩ := (h.past fb hb).eight
  have hv : (shp p.kind p.agg).val = .agg #[.int .i64 1, .int .i64 1, .int .i64 0, .int .i64 0, .int .i64 0, .int .i64 0, .int .i64 0, .int .i64 0, .int .i64 0, .int .i64 0, .int .i64 0, .int .i64 0, .int .i64 0, .int .i64 0] := by rw [hk]; kernel_rfl
  rw [hv]
  rw [hk] at e0
  have a0 := q1.at_ 0
  have a1 := q1.at_ 1
  have b0 := q2.at_ 0
  have b1 := q2.at_ 1
  have c0 := q3.at_ 0
  have c1 := q3.at_ 1
  have d0 := q4.at_ 0
  have d1 := q4.at_ 1
  simp only [List.getElem?_cons_zero, List.getElem?_cons_succ] at a0 a1 b0 b1 c0 c1 d0 d1
  have hz := at14 q0
  obtain ⟨z0, z1, z2, z3, z4, z5, z6, z7, z8, z9, z10, z11, z12, z13⟩ := hz
  have y0 := q0.open_ 0
  have y1 := q0.open_ 1
  have y2 := q0.open_ 2
  have y3 := q0.open_ 3
  have y4 := q0.open_ 4
  have y5 := q0.open_ 5
  have y6 := q0.open_ 6
  have y7 := q0.open_ 7
  have y8 := q0.open_ 8
  have y9 := q0.open_ 9
  have y10 := q0.open_ 10
  have y11 := q0.open_ 11
  have y12 := q0.open_ 12
  have y13 := q0.open_ 13
  have HQ := Lib.hid (And.intro q0 fb)
  have Hs := Lib.hid hs
  clear h hk hv q0 q1 q2 q3 q4 fb hs hb
  go_enter Try.func61, Try.ntmps61
  go_upto_region 3 with fail
  rw [← hW]
  clear hW
  go_wp2_with fail
  have hp := own_put14 HQ.out.1 (.int .i64 1) (.int .i64 1) (.int .i64 0) (.int .i64 0) (.int .i64 0) (.int .i64 0) (.int .i64 0) (.int .i64 0) (.int .i64 0) (.int .i64 0) (.int .i64 0) (.int .i64 0) (.int .i64 0) (.int .i64 0)
  obtain ⟨x0, x1, x2, x3, x4, x5, x6, x7, x8, x9, x10, x11, x12, x13⟩ := at14 hp
  exact bodyPost_ret (v := .agg #[.int .i64 1, .int .i64 1, .int .i64 0, .int .i64 0, .int .i64 0, .int .i64 0, .int .i64 0, .int .i64 0, .int .i64 0, .int .i64 0, .int .i64 0, .int .i64 0, .int .i64 0, .int .i64 0]) (by simp [results, Try.results61, go_sem, x0, x1, x2, x3, x4, x5, x6, x7, x8, x9, x10, x11, x12, x13]) rfl ⟨rfl, below_put14 HQ.out.2 (Nat.le_refl _) _ _ _ _ _ _ _ _ _ _ _ _ _ _⟩

set_option maxRecDepth 100000 in
set_option maxHeartbeats 3200000 in
theorem shape_9 (p : Px) (b o : Nat) (w : World) (h : PAt w b o p) (hb : b < w.heap.size) (hk : p.kind = 9) :
    Calls Try.prog 61 #[.pointer (some ⟨b, o, none⟩)] w fun x w' => x = .returned (shp p.kind p.agg).val ∧ Below w.heap.size w w' := by
  obtain ⟨W, hW, fb, q0, q1, q2, q3, q4, hs⟩ := shbox w
  obtain ⟨e0, _, _, _, _, _, _, _⟩ := (h.past fb hb).eight
  have hv : (shp p.kind p.agg).val = .agg #[.int .i64 1, .int .i64 1, .int .i64 0, .int .i64 0, .int .i64 0, .int .i64 0, .int .i64 0, .int .i64 0, .int .i64 0, .int .i64 0, .int .i64 0, .int .i64 0, .int .i64 0, .int .i64 0] := by rw [hk]; kernel_rfl
  rw [hv]
  rw [hk] at e0
  have a0 := q1.at_ 0
  have a1 := q1.at_ 1
  have b0 := q2.at_ 0
  have b1 := q2.at_ 1
  have c0 := q3.at_ 0
  have c1 := q3.at_ 1
  have d0 := q4.at_ 0
  have d1 := q4.at_ 1
  simp only [List.getElem?_cons_zero, List.getElem?_cons_succ] at a0 a1 b0 b1 c0 c1 d0 d1
  have hz := at14 q0
  obtain ⟨z0, z1, z2, z3, z4, z5, z6, z7, z8, z9, z10, z11, z12, z13⟩ := hz
  have y0 := q0.open_ 0
  have y1 := q0.open_ 1
  have y2 := q0.open_ 2
  have y3 := q0.open_ 3
  have y4 := q0.open_ 4
  have y5 := q0.open_ 5
  have y6 := q0.open_ 6
  have y7 := q0.open_ 7
  have y8 := q0.open_ 8
  have y9 := q0.open_ 9
  have y10 := q0.open_ 10
  have y11 := q0.open_ 11
  have y12 := q0.open_ 12
  have y13 := q0.open_ 13
  have HQ := Lib.hid (And.intro q0 fb)
  have Hs := Lib.hid hs
  clear h hk hv q0 q1 q2 q3 q4 fb hs hb
  go_enter Try.func61, Try.ntmps61
  go_upto_region 3 with fail
  rw [← hW]
  clear hW
  go_wp2_with fail
  have hp := own_put14 HQ.out.1 (.int .i64 1) (.int .i64 1) (.int .i64 0) (.int .i64 0) (.int .i64 0) (.int .i64 0) (.int .i64 0) (.int .i64 0) (.int .i64 0) (.int .i64 0) (.int .i64 0) (.int .i64 0) (.int .i64 0) (.int .i64 0)
  obtain ⟨x0, x1, x2, x3, x4, x5, x6, x7, x8, x9, x10, x11, x12, x13⟩ := at14 hp
  exact bodyPost_ret (v := .agg #[.int .i64 1, .int .i64 1, .int .i64 0, .int .i64 0, .int .i64 0, .int .i64 0, .int .i64 0, .int .i64 0, .int .i64 0, .int .i64 0, .int .i64 0, .int .i64 0, .int .i64 0, .int .i64 0]) (by simp [results, Try.results61, go_sem, x0, x1, x2, x3, x4, x5, x6, x7, x8, x9, x10, x11, x12, x13]) rfl ⟨rfl, below_put14 HQ.out.2 (Nat.le_refl _) _ _ _ _ _ _ _ _ _ _ _ _ _ _⟩

set_option maxRecDepth 100000 in
set_option maxHeartbeats 3200000 in
theorem shape_7 (p : Px) (b o : Nat) (w : World) (h : PAt w b o p) (hb : b < w.heap.size) (hk : p.kind = 7) :
    Calls Try.prog 61 #[.pointer (some ⟨b, o, none⟩)] w fun x w' => x = .returned (shp p.kind p.agg).val ∧ Below w.heap.size w w' := by
  obtain ⟨W, hW, fb, q0, q1, q2, q3, q4, hs⟩ := shbox w
  obtain ⟨e0, _, _, _, _, _, _, _⟩ := (h.past fb hb).eight
  have hv : (shp p.kind p.agg).val = .agg #[.int .i64 2, .int .i64 2, .int .i64 0, .int .i64 0, .int .i64 0, .int .i64 9223372036854775807, .int .i64 0, .int .i64 9223372036854775807, .int .i64 0, .int .i64 0, .int .i64 0, .int .i64 0, .int .i64 0, .int .i64 0] := by rw [hk]; kernel_rfl
  rw [hv]
  rw [hk] at e0
  have a0 := q1.at_ 0
  have a1 := q1.at_ 1
  have b0 := q2.at_ 0
  have b1 := q2.at_ 1
  have c0 := q3.at_ 0
  have c1 := q3.at_ 1
  have d0 := q4.at_ 0
  have d1 := q4.at_ 1
  simp only [List.getElem?_cons_zero, List.getElem?_cons_succ] at a0 a1 b0 b1 c0 c1 d0 d1
  have hz := at14 q0
  obtain ⟨z0, z1, z2, z3, z4, z5, z6, z7, z8, z9, z10, z11, z12, z13⟩ := hz
  have y0 := q0.open_ 0
  have y1 := q0.open_ 1
  have y2 := q0.open_ 2
  have y3 := q0.open_ 3
  have y4 := q0.open_ 4
  have y5 := q0.open_ 5
  have y6 := q0.open_ 6
  have y7 := q0.open_ 7
  have y8 := q0.open_ 8
  have y9 := q0.open_ 9
  have y10 := q0.open_ 10
  have y11 := q0.open_ 11
  have y12 := q0.open_ 12
  have y13 := q0.open_ 13
  have HQ := Lib.hid (And.intro q0 fb)
  have Hs := Lib.hid hs
  clear h hk hv q0 q1 q2 q3 q4 fb hs hb
  go_enter Try.func61, Try.ntmps61
  go_upto_region 3 with fail
  rw [← hW]
  clear hW
  go_wp2_with fail
  have hp := own_put14 HQ.out.1 (.int .i64 2) (.int .i64 2) (.int .i64 0) (.int .i64 0) (.int .i64 0) (.int .i64 9223372036854775807) (.int .i64 0) (.int .i64 9223372036854775807) (.int .i64 0) (.int .i64 0) (.int .i64 0) (.int .i64 0) (.int .i64 0) (.int .i64 0)
  obtain ⟨x0, x1, x2, x3, x4, x5, x6, x7, x8, x9, x10, x11, x12, x13⟩ := at14 hp
  exact bodyPost_ret (v := .agg #[.int .i64 2, .int .i64 2, .int .i64 0, .int .i64 0, .int .i64 0, .int .i64 9223372036854775807, .int .i64 0, .int .i64 9223372036854775807, .int .i64 0, .int .i64 0, .int .i64 0, .int .i64 0, .int .i64 0, .int .i64 0]) (by simp [results, Try.results61, go_sem, x0, x1, x2, x3, x4, x5, x6, x7, x8, x9, x10, x11, x12, x13]) rfl ⟨rfl, below_put14 HQ.out.2 (Nat.le_refl _) _ _ _ _ _ _ _ _ _ _ _ _ _ _⟩

set_option maxRecDepth 100000 in
set_option maxHeartbeats 3200000 in
theorem shape_10 (p : Px) (b o : Nat) (w : World) (h : PAt w b o p) (hb : b < w.heap.size) (hk : p.kind = 10) :
    Calls Try.prog 61 #[.pointer (some ⟨b, o, none⟩)] w fun x w' => x = .returned (shp p.kind p.agg).val ∧ Below w.heap.size w w' := by
  obtain ⟨W, hW, fb, q0, q1, q2, q3, q4, hs⟩ := shbox w
  obtain ⟨e0, _, _, _, _, _, _, _⟩ := (h.past fb hb).eight
  have hv : (shp p.kind p.agg).val = .agg #[.int .i64 2, .int .i64 2, .int .i64 0, .int .i64 0, .int .i64 0, .int .i64 0, .int .i64 0, .int .i64 0, .int .i64 0, .int .i64 0, .int .i64 0, .int .i64 0, .int .i64 1, .int .i64 16] := by rw [hk]; kernel_rfl
  rw [hv]
  rw [hk] at e0
  have a0 := q1.at_ 0
  have a1 := q1.at_ 1
  have b0 := q2.at_ 0
  have b1 := q2.at_ 1
  have c0 := q3.at_ 0
  have c1 := q3.at_ 1
  have d0 := q4.at_ 0
  have d1 := q4.at_ 1
  simp only [List.getElem?_cons_zero, List.getElem?_cons_succ] at a0 a1 b0 b1 c0 c1 d0 d1
  have hz := at14 q0
  obtain ⟨z0, z1, z2, z3, z4, z5, z6, z7, z8, z9, z10, z11, z12, z13⟩ := hz
  have y0 := q0.open_ 0
  have y1 := q0.open_ 1
  have y2 := q0.open_ 2
  have y3 := q0.open_ 3
  have y4 := q0.open_ 4
  have y5 := q0.open_ 5
  have y6 := q0.open_ 6
  have y7 := q0.open_ 7
  have y8 := q0.open_ 8
  have y9 := q0.open_ 9
  have y10 := q0.open_ 10
  have y11 := q0.open_ 11
  have y12 := q0.open_ 12
  have y13 := q0.open_ 13
  have HQ := Lib.hid (And.intro q0 fb)
  have Hs := Lib.hid hs
  clear h hk hv q0 q1 q2 q3 q4 fb hs hb
  go_enter Try.func61, Try.ntmps61
  go_upto_region 3 with fail
  rw [← hW]
  clear hW
  go_wp2_with fail
  have hp := own_put14 HQ.out.1 (.int .i64 2) (.int .i64 2) (.int .i64 0) (.int .i64 0) (.int .i64 0) (.int .i64 0) (.int .i64 0) (.int .i64 0) (.int .i64 0) (.int .i64 0) (.int .i64 0) (.int .i64 0) (.int .i64 1) (.int .i64 16)
  obtain ⟨x0, x1, x2, x3, x4, x5, x6, x7, x8, x9, x10, x11, x12, x13⟩ := at14 hp
  exact bodyPost_ret (v := .agg #[.int .i64 2, .int .i64 2, .int .i64 0, .int .i64 0, .int .i64 0, .int .i64 0, .int .i64 0, .int .i64 0, .int .i64 0, .int .i64 0, .int .i64 0, .int .i64 0, .int .i64 1, .int .i64 16]) (by simp [results, Try.results61, go_sem, x0, x1, x2, x3, x4, x5, x6, x7, x8, x9, x10, x11, x12, x13]) rfl ⟨rfl, below_put14 HQ.out.2 (Nat.le_refl _) _ _ _ _ _ _ _ _ _ _ _ _ _ _⟩
end Go.Proofs.Ytjidjpmdmcleoaa
