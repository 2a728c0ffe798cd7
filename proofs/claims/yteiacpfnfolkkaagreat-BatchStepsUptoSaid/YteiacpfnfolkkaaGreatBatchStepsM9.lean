/- Facts and contracts on which BatchSteps rests besides. -/
import Derived.Test.YteiacpfnfolkkaaGreatBatchTwiceM9
import Derived.ChangeSlices
namespace Go.Proofs.YteiacpfnfolkkaaGreat
open Go Go.RowKit

/-- a slice at A of as many numbers as l has reads as l; it lies below block B -/
def Ints (w : World) (B : Nat) (A : Option Addr) (l : List Int) : Prop :=
  0 < l.length → ∃ b o, A = some ⟨b, o, none⟩ ∧ b < B ∧ ∀ (i : Nat) (n : Int), l[i]? = some n → w.cell? ⟨b, o + i, none⟩ = some (.int .i64 n)
section
variable {w w' : World} {B B' b o : Nat} {A : Option Addr} {l : List Int}
theorem Ints.past (h : Ints w B A l) (hb : Below B' w w') (hB : B ≤ B') : Ints w' B A l := fun hn => by
  obtain ⟨b, o, e, hlt, hc⟩ := h hn
  exact ⟨b, o, e, hlt, fun i n hi => (hb.cell (p := ⟨b, o + i, none⟩) (show b < B' by omega)).trans (hc i n hi)⟩
theorem Ints.wide (h : Ints w B A l) (hB : B ≤ B') : Ints w B' A l := fun hn => by
  obtain ⟨b, o, e, hlt, hc⟩ := h hn
  exact ⟨b, o, e, by omega, hc⟩
theorem Ints.nil_ : Ints w B A [] := fun h => absurd h (by simp)
end
theorem ints_keep {a b : World} {A : Option Addr} {l : List Int} (h : Ints a a.heap.size A l) (hb : Below a.heap.size a b) : Ints b b.heap.size A l := (h.past hb (Nat.le_refl _)).wide hb.size
/-- all of them fit a word -/
def Fit64 (l : List Int) : Prop := ∀ n ∈ l, -9223372036854775808 ≤ n ∧ n ≤ 9223372036854775807
end Go.Proofs.YteiacpfnfolkkaaGreat
namespace Go.Proofs.YteiacpfnfolkkaaGreat
open Go Go.RowKit Go.ChangeShapes Go.WideShapes Go.ChangeAt

section
variable {H : Type} {enc : TypeId × Value → H} {P : Program} {w : World} {base : Nat} {spare : Nat → Bool} {held : Bool}
/-- the slice, its list; and what its reading tells of its length -/
theorem open_intsL {t e : TypeId} (ht : P.underlying t = some (.slice e)) (he : P.underlying e = some (.int .i64)) (hc : P.cellsOf e = 1) {v : Value} {d : DataW H} {p : List MemPlace} {r : Reach} {b0 : Nat} (hv : Value.okWide P w r b0 t v) (h : DataW.Trod enc P w base spare held t v d p) :
    ∃ (A : Option Addr) (c : Nat) (l : List Int), v = .slice A l.length c ∧ l.length ≤ c ∧ c ≤ maxLen ∧ Ints w w.heap.size A l ∧ Fit64 l ∧ (d = .nil ∧ l = [] ∧ c = 0 ∨ ∃ es sp, d = .slice es sp ∧ es.length = l.length) := by
  obtain ⟨a0, n0, c0, rfl⟩ := okWide_slice ht hv
  obtain ⟨fuel, hf⟩ := h
  simp only [Value.cells] at hf
  rcases ChangeShapes.open_ints ht he hc hf with ⟨e, hx⟩ | ⟨a, len, cap, zs, e, hb, hl, hm, hz, hx, hcell, hws⟩
  · simp only [List.cons.injEq, and_true, Value.slice.injEq] at e
    obtain ⟨rfl, rfl, rfl⟩ := e
    obtain ⟨rfl, _⟩ := Prod.mk.inj hx
    exact ⟨none, 0, [], rfl, by simp, by unfold maxLen; omega, Ints.nil_, fun n hn => (by cases hn), .inl ⟨rfl, rfl, rfl⟩⟩
  · simp only [List.cons.injEq, and_true, Value.slice.injEq] at e
    obtain ⟨rfl, rfl, rfl⟩ := e
    obtain ⟨rfl, rfl⟩ := Prod.mk.inj hx
    have hlz : n0 ≤ zs.length := by rw [hz]; split <;> omega
    have htk : (zs.take n0).length = n0 := by rw [List.length_take]; omega
    refine ⟨some a, c0, zs.take n0, by rw [htk], by rw [htk]; exact hl, hm, fun hpos => ?_, fun n hn => wf_i64 (hws n (List.mem_of_mem_take hn)), .inr ⟨_, _, rfl, by simp [lits]⟩⟩
    rw [htk] at hpos
    have haz : a.add 0 = a := by unfold Addr.add; simp
    have h0 := hcell 0 (by omega)
    rw [haz] at h0
    obtain ⟨b, o, sp⟩ := a
    have hspot : sp = none := by
      cases sp with
      | none => rfl
      | some s =>
        unfold World.cell? at h0
        simp only at h0
        split at h0 <;> simp at h0
    subst hspot
    refine ⟨b, o, rfl, World.block_lt_of_cell? w _ h0, fun i n hi => ?_⟩
    have hil : i < n0 := by have := (List.getElem?_eq_some_iff.1 hi).1; omega
    rw [List.getElem?_take_of_lt hil] at hi
    have hci := hcell i (by omega)
    rw [List.getD_eq_getElem?_getD, hi, Option.getD_some] at hci
    have hadd : (⟨b, o, none⟩ : Addr).add i = ⟨b, o + i, none⟩ := by unfold Addr.add; split <;> simp_all
    rwa [hadd] at hci
end
end Go.Proofs.YteiacpfnfolkkaaGreat
namespace Go.Proofs.YteiacpfnfolkkaaGreat
open Go Go.RowKit

theorem check_yes (b : Bt) (w : World) (hb : BtIn w w.heap.size b) (hok : BtOk b) (h : BatchOk b.f b.l) :
    Calls Tryz.prog 16 #[b.val] w fun x w' => x = .returned (.int .i64 0) ∧ Below w.heap.size w w' :=
  (bcheck_any b w hb hok).mono fun x w' h' => codes_is (.inl ⟨h, rfl⟩) h'
theorem beyond_is (A : Option Addr) (c : Nat) (l : List Tm) (t : Tm) (w : World) (hl : Times w w.heap.size A l) (hn : l.length ≤ maxLen) {b : Bool} (h : beyond l t = b) :
    Calls Tryz.prog 35 #[.slice A l.length c, .agg #[.int .u64 (t.e : Int), .int .u64 (t.a : Int), .int .u64 (t.b : Int)]] w fun e w' => e = .returned (.bool b) ∧ Below w.heap.size w w' := by
  have := beyond_any A c l t w hl hn
  rw [h] at this
  exact this
set_option maxRecDepth 100000 in
set_option maxHeartbeats 12800000 in
theorem bthere_walk (A : Option Addr) (c : Nat) (f : List Tm) (A' : Option Addr) (c' : Nat) (l : List Up) (t : Tm) (w : World) (hf : Times w w.heap.size A f) (hfc : f.length ≤ c) (hfn : f.length ≤ 1048576) (hcm : c ≤ maxLen) (hl : Ups w w.heap.size A' l) (hok : ∀ u ∈ l, UOk u) (_ : l.length ≤ c') (_ : c' ≤ maxLen) (hn : f.length + l.length ≤ 1048576) :
    Calls Tryz.prog 7 #[.slice A f.length c, .slice A' l.length c', t.val] w fun e w' => e = .returned (.bool true) ∧ Below w.heap.size w w' := by
  have y0 := fun W => Lib.hid (blives_true W)
  have hfo : TsOk f c := ⟨by omega, hfc, hcm⟩
  have hlo : UsOk l := ⟨by omega, hok⟩
  obtain ⟨V, hV, hvb, hvs, hvo⟩ := tm_box w t
  have HL := Lib.hid (And.intro hf (And.intro hfo (And.intro hl hlo)))
  have HV := Lib.hid (And.intro hvb hvo)
  have HM := Lib.hid (Nat.le_trans hfc hcm)
  rw [show t.val = .agg #[.int .u64 (t.e : Int), .int .u64 (t.a : Int), .int .u64 (t.b : Int)] from rfl]
  clear hf hfo hl hlo hok hfc hfn hcm hn hvb hvs hvo
  go_enter Tryz.func7, Tryz.ntmps7
  go_upto_region 1 with fail
  rw [← hV]
  clear hV
  go_wp2_with fail
  refine (y0 _).out.mono ?_
  rintro e w1 ⟨rfl, b1⟩
  have hb1 := belows HV.out.1 b1
  have hf1 := (HL.out.1.past hb1 (Nat.le_refl _)).wide hb1.size
  have hl1 := HL.out.2.2.1.keep hb1
  have ht1 := HV.out.2.past b1 HV.out.2.inside
  obtain ⟨V2, hV2, hb2, hu2⟩ := one_list w1 A' c' l hl1
  have hf2 := (hf1.past hb2 (Nat.le_refl _)).wide hb2.size
  have z1 := Lib.hid (build_one A c f (some ⟨w1.heap.size, 0, none⟩) A' c' l V2 hf2 HL.out.2.1 hu2 HL.out.2.2.2)
  have H2 := Lib.hid (And.intro (belows hb1 hb2) (And.intro hf2 (And.intro (hl1.keep hb2) (ht1.past hb2 ht1.inside))))
  clear b1 hb1 hf1 hl1 hb2 hu2 hf2 ht1
  obtain ⟨E1, hE1⟩ : ∃ E1, bldE f l = E1 := ⟨_, rfl⟩
  unfold Built at z1
  rw [hE1] at z1
  have HE1 := Lib.hid hE1
  clear hE1
  go_wp2_with fail
  rw [← hV2]
  clear hV2
  refine z1.out.mono ?_
  rintro _ w3 ⟨a, rfl, ha1, ha2, ia, oa, _, b3⟩
  by_cases h1 : E1 = 0
  case neg =>
    have t1 : (E1 != 0) = true := bne_iff_ne.2 h1
    obtain rfl := ha2 h1
    obtain ⟨V3, hV3', hb3, hs3, ho3⟩ := btbox w3 Bt.nil
    have hV3 : V3 = w3.alloc (.cells #[.slice none 0 0, .slice none 0 0] 26) := hV3'
    clear hV3'
    have H3 := Lib.hid (belows H2.out.1 (belows b3 hb3))
    obtain ⟨d0, d1⟩ : V3.cell? ⟨w3.heap.size, 0, none⟩ = some (.slice none 0 0) ∧ V3.cell? ⟨w3.heap.size, 1, none⟩ = some (.slice none 0 0) := own2 ho3
    rw [show Bt.nil.val = .agg #[.slice none 0 0, .slice none 0 0] from rfl]
    clear ha1 ha2 ia oa b3 hb3 hs3 ho3 z1 h1
    go_upto_region 4 with fail
    rw [← hV3]
    clear hV3
    go_wp2_with fail
    go_ret
    exact ⟨rfl, H3.out⟩
  subst h1
  obtain ⟨k1, k2, k3⟩ := ha1 rfl
  obtain ⟨V3, hV3, hb3, hs3, ho3⟩ := btbox w3 a
  have hb23 := belows b3 hb3
  have ht3 := H2.out.2.2.2.past hb23 H2.out.2.2.2.inside
  have H3 := Lib.hid (And.intro (belows H2.out.1 hb23) (And.intro ((H2.out.2.1.past hb23 (Nat.le_refl _)).wide hb23.size) (And.intro (H2.out.2.2.1.keep hb23) (And.intro ht3 (And.intro (ia.keep hb3) (And.intro oa ho3))))))
  have HK := Lib.hid (show BatchOk a.f a.l ∧ ((f = [] ∨ beyond f t = true) → atL l t = atL a.l t ∧ atE l t = atE a.l t) from ⟨by rw [k2]; exact batch_ok k1 (built_ok HE1.out).2 k3, fun h => at_batch k1.right h (built_ok HE1.out).2 k3⟩)
  obtain ⟨d0, d1⟩ := own2 ho3
  obtain ⟨c0, c1, c2⟩ := own3 ht3
  unfold Bt.val
  clear ha1 ha2 ia oa b3 hb3 hs3 ho3 hb23 ht3 z1 k1 k2 k3
  go_upto_region 6 with fail
  rw [← hV3]
  clear hV3
  by_cases hp : 0 < f.length
  case neg =>
    have hz : f.length = 0 := by omega
    have hcs : f = [] ∨ beyond f t = true := .inl (List.length_eq_zero_iff.1 hz)
    have HC := Lib.hid (HK.out.2 hcs)
    obtain ⟨V5, hV5⟩ : ∃ V5, V5 = V3 := ⟨_, rfl⟩
    have H5 := Lib.hid (show Below w.heap.size w V5 ∧ Ups V5 V5.heap.size A' l ∧ Own V5 w.heap.size 58 t.cells ∧ BtIn V5 V5.heap.size a ∧ Own V5 w3.heap.size 26 a.cells from by subst hV5; exact ⟨H3.out.1, H3.out.2.2.1, H3.out.2.2.2.1, H3.out.2.2.2.2.1, H3.out.2.2.2.2.2.2⟩)
    subst hV5
    clear hcs hp
    go_upto_region 8 with fail
    clear hz
    obtain ⟨E2, hE2⟩ : ∃ E2, atE l t = E2 := ⟨_, rfl⟩
    have z4 := Lib.hid (there_at A' c' l t V5 H5.out.2.1 HL.out.2.2.2.ok HL.out.2.2.2.n)
    rw [hE2] at z4
    have HE2 := Lib.hid hE2
    clear hE2
    go_wp2_with fail
    refine z4.out.mono ?_
    rintro _ w6 ⟨A6, k6, X, rfl, hpX, hcX, hoX, hnX, b6⟩
    have ht6 := H5.out.2.2.1.past b6 H5.out.2.2.1.inside
    have ha6 := H5.out.2.2.2.2.past b6 H5.out.2.2.2.2.inside
    have H6 := Lib.hid (And.intro (belows H5.out.1 b6) (And.intro (H5.out.2.2.2.1.keep b6) (And.intro ht6 (And.intro ha6 (And.intro hpX (And.intro hcX (And.intro hoX hnX)))))))
    have z5 := Lib.hid (there_at a.uA a.uc a.l t w6 H6.out.2.1.ups H3.out.2.2.2.2.2.1.l.ok H3.out.2.2.2.2.2.1.l.n)
    rw [← HC.out.1, ← HC.out.2, HE2.out] at z5
    clear d0 d1 c0 c1 c2
    obtain ⟨d0, d1⟩ := own2 ha6
    obtain ⟨c0, c1, c2⟩ := own3 ht6
    clear hpX hcX hoX hnX b6 ht6 ha6 z4
    go_wp2_with fail
    refine z5.out.mono ?_
    rintro _ w7 ⟨A7, k7, Y, rfl, hpY, hcY, hoY, hnY, b7⟩
    have z6 := Lib.hid (same_yes A6 A7 k6 k7 X Y w7 (H6.out.2.2.2.2.2.1.keep b7) hcY H6.out.2.2.2.2.2.2.1 hoY H6.out.2.2.2.2.2.2.2 hnY (by rw [hpY]; exact H6.out.2.2.2.2.1))
    have ha7 := H6.out.2.2.2.1.past b7 H6.out.2.2.2.1.inside
    have H7 := Lib.hid (And.intro (belows H6.out.1 b7) (And.intro (H6.out.2.1.keep b7) ha7))
    clear hpY hcY hoY hnY b7 ha7 z5 d0 d1 c0 c1 c2
    go_wp2_with fail
    refine z6.out.mono ?_
    rintro _ w8 ⟨rfl, b8⟩
    have ha8 := H7.out.2.2.past b8 H7.out.2.2.inside
    have z7 := Lib.hid (check_yes a w8 (H7.out.2.1.keep b8) H3.out.2.2.2.2.2.1 HK.out.1)
    unfold Bt.val at z7
    have H8 := Lib.hid (belows H7.out.1 b8)
    obtain ⟨d0, d1⟩ := own2 ha8
    clear b8 ha8 z6
    go_wp2_with fail
    refine z7.out.mono ?_
    rintro _ w9 ⟨rfl, b9⟩
    have H9 := Lib.hid (belows H8.out b9)
    clear d0 d1 z7 b9
    go_wp2_with fail
    go_ret
    exact ⟨rfl, H9.out⟩
  obtain ⟨bb, hbb⟩ : ∃ bb, beyond f t = bb := ⟨_, rfl⟩
  have z2 := Lib.hid (beyond_is A c f t V3 H3.out.2.1 HM.out hbb)
  have hp' : (0 : Int) < (f.length : Int) := by omega
  go_wp2_with fail
  refine z2.out.mono ?_
  rintro _ w5 ⟨rfl, b5⟩
  have ht5 := H3.out.2.2.2.1.past b5 H3.out.2.2.2.1.inside
  have ha5 := H3.out.2.2.2.2.2.2.past b5 H3.out.2.2.2.2.2.2.inside
  have H5 := Lib.hid (And.intro (belows H3.out.1 b5) (And.intro (H3.out.2.2.1.keep b5) (And.intro ht5 (And.intro (H3.out.2.2.2.2.1.keep b5) ha5))))
  clear d0 d1 c0 c1 c2
  obtain ⟨d0, d1⟩ := own2 ha5
  obtain ⟨c0, c1, c2⟩ := own3 ht5
  clear b5 ht5 ha5 z2 hp hp'
  cases bb with
  | false =>
    have z3 := Lib.hid (check_yes a w5 H5.out.2.2.2.1 H3.out.2.2.2.2.2.1 HK.out.1)
    unfold Bt.val at z3
    clear hbb
    go_wp2_with fail
    refine z3.out.mono ?_
    rintro _ w6 ⟨rfl, b6⟩
    have H6 := Lib.hid (belows H5.out.1 b6)
    clear d0 d1 c0 c1 c2 z3 b6
    go_wp2_with fail
    go_ret
    exact ⟨rfl, H6.out⟩
  | true =>
    have HC := Lib.hid (HK.out.2 (.inr hbb))
    clear hbb
    obtain ⟨V5, hV5⟩ : ∃ V5, V5 = w5 := ⟨_, rfl⟩
    subst hV5
    go_upto_region 8 with fail
    obtain ⟨E2, hE2⟩ : ∃ E2, atE l t = E2 := ⟨_, rfl⟩
    have z4 := Lib.hid (there_at A' c' l t V5 H5.out.2.1 HL.out.2.2.2.ok HL.out.2.2.2.n)
    rw [hE2] at z4
    have HE2 := Lib.hid hE2
    clear hE2
    go_wp2_with fail
    refine z4.out.mono ?_
    rintro _ w6 ⟨A6, k6, X, rfl, hpX, hcX, hoX, hnX, b6⟩
    have ht6 := H5.out.2.2.1.past b6 H5.out.2.2.1.inside
    have ha6 := H5.out.2.2.2.2.past b6 H5.out.2.2.2.2.inside
    have H6 := Lib.hid (And.intro (belows H5.out.1 b6) (And.intro (H5.out.2.2.2.1.keep b6) (And.intro ht6 (And.intro ha6 (And.intro hpX (And.intro hcX (And.intro hoX hnX)))))))
    have z5 := Lib.hid (there_at a.uA a.uc a.l t w6 H6.out.2.1.ups H3.out.2.2.2.2.2.1.l.ok H3.out.2.2.2.2.2.1.l.n)
    rw [← HC.out.1, ← HC.out.2, HE2.out] at z5
    clear d0 d1 c0 c1 c2
    obtain ⟨d0, d1⟩ := own2 ha6
    obtain ⟨c0, c1, c2⟩ := own3 ht6
    clear hpX hcX hoX hnX b6 ht6 ha6 z4
    go_wp2_with fail
    refine z5.out.mono ?_
    rintro _ w7 ⟨A7, k7, Y, rfl, hpY, hcY, hoY, hnY, b7⟩
    have z6 := Lib.hid (same_yes A6 A7 k6 k7 X Y w7 (H6.out.2.2.2.2.2.1.keep b7) hcY H6.out.2.2.2.2.2.2.1 hoY H6.out.2.2.2.2.2.2.2 hnY (by rw [hpY]; exact H6.out.2.2.2.2.1))
    have ha7 := H6.out.2.2.2.1.past b7 H6.out.2.2.2.1.inside
    have H7 := Lib.hid (And.intro (belows H6.out.1 b7) (And.intro (H6.out.2.1.keep b7) ha7))
    clear hpY hcY hoY hnY b7 ha7 z5 d0 d1 c0 c1 c2
    go_wp2_with fail
    refine z6.out.mono ?_
    rintro _ w8 ⟨rfl, b8⟩
    have ha8 := H7.out.2.2.past b8 H7.out.2.2.inside
    have z7 := Lib.hid (check_yes a w8 (H7.out.2.1.keep b8) H3.out.2.2.2.2.2.1 HK.out.1)
    unfold Bt.val at z7
    have H8 := Lib.hid (belows H7.out.1 b8)
    obtain ⟨d0, d1⟩ := own2 ha8
    clear b8 ha8 z6
    go_wp2_with fail
    refine z7.out.mono ?_
    rintro _ w9 ⟨rfl, b9⟩
    have H9 := Lib.hid (belows H8.out b9)
    clear d0 d1 z7 b9
    go_wp2_with fail
    go_ret
    exact ⟨rfl, H9.out⟩
end Go.Proofs.YteiacpfnfolkkaaGreat
namespace Go.Proofs.YteiacpfnfolkkaaGreat
open Go Go.RowKit

def cellI (n : Int) : Value := .int .i64 n
theorem cellI_flat (l : List Int) : l.flatMap (fun n => [cellI n]) = l.map cellI := by
  induction l with
  | nil => rfl
  | cons x l ih => simp [ih]
theorem ints_of_own {w : World} {base : Nat} {e : TypeId} {v : Value} {l : List Int} {n : Nat} (hn : n = l.length) (h : w.ownsRow base e 1 v n (l.map cellI)) :
    ∃ A c, v = .slice A l.length c ∧ l.length ≤ c ∧ c ≤ maxLen ∧ Ints w w.heap.size A l := by
  rw [← cellI_flat] at h
  obtain ⟨A, c, h1, h2, h3, h4⟩ := lies_of_own (size := 1) (cells := fun n => [cellI n]) (by decide) (fun _ => rfl) hn h
  refine ⟨A, c, h1, h2, h3, fun hp => ?_⟩
  obtain ⟨b, o, e, hb, hc⟩ := h4 hp
  refine ⟨b, o, e, hb, fun i n hi => ?_⟩
  have := hc i n hi 0 _ rfl
  rwa [Nat.mul_one, Nat.add_zero] at this
theorem own_snoc {w : World} {base n : Nat} {e : TypeId} {v : Value} {F : List Value} {l : List Int} {k : Int} (h : w.ownsRow base e 1 v (n + 1) (F ++ [.int .i64 k])) (hF : l.map cellI = F) (hn : l.length = n) : w.ownsRow base e 1 v (l ++ [k]).length ((l ++ [k]).map cellI) := by
  subst hF hn
  simpa [cellI] using h
theorem own_app {w : World} {base n : Nat} {e : TypeId} {v : Value} {F : List Value} {l m : List Int} (h : w.ownsRow base e 1 v (n + m.length) (F ++ m.flatMap fun n => [cellI n])) (hF : l.map cellI = F) (hn : l.length = n) : w.ownsRow base e 1 v (l ++ m).length ((l ++ m).map cellI) := by
  subst hF hn
  rw [cellI_flat] at h
  simpa using h
/-- two rows lie in two blocks -/
def Sep (v y : Value) : Prop := ∀ b, v.ownBlock = some b → y.ownBlock ≠ some b
theorem Sep.symm {v y : Value} (h : Sep v y) : Sep y v := fun b hb hv => h b hv hb
theorem Sep.nil_ (y : Value) : Sep (.slice none 0 0) y := fun b hb => by simp [Value.ownBlock] at hb
theorem Sep.pushed {v v' y : Value} {N : Nat} (h : Sep v y) (hy : ∀ b, y.ownBlock = some b → b < N) (hv : v'.ownBlock = v.ownBlock ∨ v'.ownBlock = some (N + 1)) : Sep v' y := fun b hb hyb => by
  rcases hv with hv | hv
  · exact h b (hv ▸ hb) hyb
  · have := hy b hyb
    rw [hv] at hb
    simp only [Option.some.injEq] at hb
    omega
theorem Sep.kept {v y : Value} (h : Sep v y) : y.ownBlock = none ∨ y.ownBlock ≠ v.ownBlock := by
  cases hy : y.ownBlock with
  | none => exact .inl rfl
  | some b => exact .inr fun e => h b e.symm hy
end Go.Proofs.YteiacpfnfolkkaaGreat
namespace Go.Proofs.YteiacpfnfolkkaaGreat
open Go Go.RowKit

/-- a right merger of two batches' updates, on its way -/
structure OfM (f : List Tm) (a b : List Up) (m : Mg) (i j : Nat) : Prop where
  way : OnWay m i j
  f_ : m.f = f
  a_ : m.a.map Up.p = a.map Up.p
  b_ : m.b.map Up.p = b.map Up.p
theorem OfM.front {f : List Tm} {a b : List Up} {m : Mg} {i j : Nat} (h : OfM f a b m i j) : FrontOk f := h.f_ ▸ h.way.front
theorem OfM.la {f : List Tm} {a b : List Up} {m : Mg} {i j : Nat} (h : OfM f a b m i j) : m.a.length = a.length := len_p h.a_
theorem OfM.lb {f : List Tm} {a b : List Up} {m : Mg} {i j : Nat} (h : OfM f a b m i j) : m.b.length = b.length := len_p h.b_
theorem OfM.lo {f : List Tm} {a b : List Up} {m : Mg} {i j : Nat} (h : OfM f a b m i j) : m.o.length ≤ a.length + b.length := by
  have h1 := congrArg List.length h.way.fine.2.2.inv.out_
  have h2 := nz_len (cmp := Uk.cmp) ((advL m.f ((startM m.a i m.b j (m.o.map Up.p)).ta ++ (startM m.a i m.b j (m.o.map Up.p)).tb)).map Up.p)
  have e1 : (startM m.a i m.b j (m.o.map Up.p)).ta = m.a.take i := rfl
  have e2 : (startM m.a i m.b j (m.o.map Up.p)).tb = m.b.take j := rfl
  have e3 : (startM m.a i m.b j (m.o.map Up.p)).out = m.o.map Up.p := rfl
  rw [e1, e2] at h1 h2
  rw [e3] at h1
  rw [← h1] at h2
  have h3 : ((advL m.f (m.a.take i ++ m.b.take j)).map Up.p).length = (m.a.take i).length + (m.b.take j).length := by
    unfold advL
    simp only [List.length_map, List.length_append]
  rw [h3, List.length_map, List.length_take, List.length_take] at h2
  have := h.la
  have := h.lb
  omega
theorem OfM.ij {f : List Tm} {a b : List Up} {m : Mg} {i j : Nat} (h : OfM f a b m i j) : i ≤ a.length ∧ j ≤ b.length := ⟨h.la ▸ h.way.fine.1, h.lb ▸ h.way.fine.2.1⟩
theorem OfM.cons {f : List Tm} {a b : List Up} {m : Mg} {i j : Nat} (h : OfM f a b m i j) : consL [advL m.f (m.a ++ m.b)] = consL [advL f (a ++ b)] ∧ consE [advL m.f (m.a ++ m.b)] = consE [advL f (a ++ b)] := by
  rw [h.f_]
  exact consL_p (advL_p f (app_p h.a_ h.b_))
theorem OfM.bld {f : List Tm} {a b : List Up} {m : Mg} {i j : Nat} (h : OfM f a b m i j) : bldE f (a ++ b) = consE [advL m.f (m.a ++ m.b)] := by
  rw [h.cons.2]
  exact if_pos h.front
theorem OfM.done {f : List Tm} {a b : List Up} {m : Mg} {i j : Nat} (h : OfM f a b m i j) (hl : leftN m i j = 0) : bldE f (a ++ b) = 0 ∧ m.o.map Up.p = consL [advL f (a ++ b)] := by
  have hs : (startM m.a i m.b j (m.o.map Up.p)).left = 0 := by rw [start_left]; exact hl
  obtain ⟨h1, h2⟩ := fine_end h.way.fine.2.2 h.way.front.right (even_two h.way.a h.way.b) hs
  exact ⟨h.bld.trans h1, (h2.symm).trans h.cons.1⟩
def StartedS (f : List Tm) (a b : Bt) (w : World) (x : Ending) (w' : World) : Prop :=
  ∃ (m : Mg) (E : Int), x = .returned (.tuple #[m.val, .int .i64 E]) ∧ (E = 0 → OfM f a.l b.l m 0 0) ∧ (E ≠ 0 → m = Mg.nil) ∧ MgIn w' w'.heap.size m ∧ MgOk m ∧ MgLo w.heap.size m ∧ Below w.heap.size w w'
theorem start_st (A : Option Addr) (c : Nat) (f : List Tm) (a b : Bt) (w : World) (hf : Times w w.heap.size A f) (hfo : TsOk f c) (ha : BtIn w w.heap.size a) (oa : BtOk a) (na : a.l.length ≤ 1048576) (hb : BtIn w w.heap.size b) (ob : BtOk b) (nb : b.l.length ≤ 1048576) :
    Calls Tryz.prog 30 #[.slice A f.length c, a.val, b.val] w (StartedS f a b w) := by
  refine (start_any A c f a b w hf hfo ha oa (by omega) hb ob (by omega)).mono fun x w' ⟨m, E, h1, h2, h3, h4, h5, h6⟩ => ⟨m, E, h1, ?_, ?_, h3, h4, h5, h6⟩
  · intro hE
    rcases h2 with ⟨_, hs, k1, k2, k3, k4, k5, k6⟩ | ⟨hn, _⟩
    · exact ⟨start_way (by rw [k5]; exact hs.2.2.1) (even_p k1.symm hs.1.2.1) (even_p k2.symm hs.2.1.2.1) k3 k4 k6, k5, k1, k2⟩
    · exact absurd hE hn
  · intro hE
    rcases h2 with ⟨h0, _⟩ | ⟨_, hm, _⟩
    · exact absurd h0 hE
    · exact hm
def WorkedS (f : List Tm) (a b : List Up) (m : Mg) (i j : Nat) (fuel : Int) (w : World) (x : Ending) (w' : World) : Prop :=
  ∃ (m' : Mg) (i' j' k : Nat) (E : Int), x = .returned (.tuple #[m'.val, .int .i64 (k : Int), .int .i64 E]) ∧ OfM f a b m' i' j' ∧ k + leftN m' i' j' = leftN m i j ∧ (E = 0 → (leftN m' i' j' = 0 ∨ fuel ≤ k) ∧ ((0 < fuel ∧ 0 < leftN m i j) ↔ 0 < k)) ∧ (E ≠ 0 → bldE f (a ++ b) = E) ∧ MgIn w' w'.heap.size m' ∧ MgOk m' ∧ MgLo w.heap.size m' ∧ Below w.heap.size w w'
theorem work_st {f : List Tm} {a b : List Up} (m : Mg) {i j : Nat} (fuel : Int) (w : World) (h : OfM f a b m i j) (hm : MgIn w w.heap.size m) (ok : MgOk m) (hn : a.length + b.length ≤ 1048576) :
    Calls Tryz.prog 26 #[m.val, .int .i64 fuel] w (WorkedS f a b m i j fuel w) := by
  have := h.la
  have := h.lb
  have := h.lo
  refine (work_any m fuel w hm ok (by omega) (by omega) (by omega)).mono fun x w' ⟨m', c, E, h1, h2, h3, h4, h5, h6⟩ => ?_
  rcases h2 with ⟨hn, _⟩ | ⟨_, hw⟩
  · exact absurd h.way.ok hn
  · obtain ⟨i', j', k, q1, q2, q3, q4, q5⟩ := workok_fine hw h.way
    refine ⟨m', i', j', k, E, by rw [h1, q1], ⟨q2, hw.f.trans h.f_, hw.a.trans h.a_, hw.b.trans h.b_⟩, q3, ?_, ?_, h3, h4, h5, h6⟩
    · intro hE
      rcases q4 with ⟨_, r1, r2⟩ | ⟨r, _⟩
      · refine ⟨r1, fun hh => r2 hh.1 hh.2, fun hk => ?_⟩
        refine ⟨?_, ?_⟩
        · apply Decidable.byContradiction
          intro hq
          have := q5 (.inr (by omega))
          omega
        · omega
      · omega
    · intro hE
      rcases q4 with ⟨r, _⟩ | ⟨r, r'⟩
      · exact absurd r hE
      · rw [h.bld, r', r]
theorem end_st {f : List Tm} {a b : List Up} (m : Mg) {i j : Nat} (w : World) (h : OfM f a b m i j) (hm : MgIn w w.heap.size m) (ok : MgOk m) (hn : a.length + b.length ≤ 1048576) (hl : leftN m i j = 0) :
    Calls Tryz.prog 28 #[m.val] w fun x w' => ∃ e : Bt, x = .returned (.tuple #[e.val, .int .i64 0]) ∧ e.f = f ∧ e.l.map Up.p = consL [advL f (a ++ b)] ∧ BtIn w' w'.heap.size e ∧ BtOk e ∧ Below w.heap.size w w' := by
  have h1 := h.la
  have h2 := h.lb
  have h3 := h.lo
  have h4 := h.ij
  refine (end_any m w hm ok (by omega)).mono fun x w' ⟨e, E, k1, k2, k3, k4, _, k6⟩ => ?_
  rcases k2 with ⟨rfl, _, r1, r2⟩ | ⟨_, hn, _⟩
  · exact ⟨e, k1, r1.trans h.f_, r2.trans (h.done hl).2, k3, k4, k6⟩
  · unfold leftN at hl
    have e1 := h.way.i_
    have e2 := h.way.j_
    exact absurd ⟨h.way.ok, by omega, by omega⟩ hn
/-- Build of two lists -/
theorem build_two (A : Option Addr) (c : Nat) (f : List Tm) (A1 A' A2 : Option Addr) (c' c2 : Nat) (l m : List Up) (w : World) (hf : Times w w.heap.size A f) (hfo : TsOk f c) (hl : ULs w w.heap.size A1 [⟨A', c', l⟩, ⟨A2, c2, m⟩]) (ol : UsOk l) (om : UsOk m) (hn : l.length + m.length ≤ 1099511627776) :
    Calls Tryz.prog 12 #[.slice A f.length c, .slice A1 2 2] w (Built f (l ++ m) w) := by
  have he : flatR [(⟨A', c', l⟩ : Rw Up), ⟨A2, c2, m⟩] = l ++ m := by simp [flatR]
  have := build_any A c f A1 2 [⟨A', c', l⟩, ⟨A2, c2, m⟩] w hf hfo hl (fun s hs u hu => by
    rcases List.mem_cons.1 hs with rfl | hs
    · exact ol.ok u hu
    · obtain rfl : s = ⟨A2, c2, m⟩ := by simpa using hs
      exact om.ok u hu) (by rw [he, List.length_append]; exact hn) (by simp)
  rw [he] at this
  exact this
theorem checkM_yes {f : List Tm} {a b : List Up} (m : Mg) {i j : Nat} (w : World) (h : OfM f a b m i j) (hm : MgIn w w.heap.size m) (ok : MgOk m) :
    Calls Tryz.prog 33 #[m.val] w fun x w' => x = .returned (.int .i64 0) ∧ Below w.heap.size w w' :=
  (checkM_any m w hm ok).mono fun x w' h' => codes_is (.inl ⟨h.way.ok, rfl⟩) h'
theorem lies_ints {w : World} {B : Nat} {A : Option Addr} {l : List Int} (h : Ints w B A l) : Lies 1 (fun n => [cellI n]) w B A l := fun hp => by
  obtain ⟨b, o, e, hb, hc⟩ := h hp
  refine ⟨b, o, e, hb, fun i n hi j u hj => ?_⟩
  match j, hj with
  | 0, hj => rw [← hj, Nat.mul_one, Nat.add_zero]; exact hc i n hi
theorem infoI : (Tryz.prog.info? 3).map (fun i => (i.zero, i.size, i.bytes)) = some (some (.int .i64 0), 1, 8) := by kernel_rfl
theorem cellI_len (n : Int) : ([cellI n] : List Value).length = 1 := rfl
theorem cellI_one (n : Int) : ∀ v ∈ ([cellI n] : List Value), v.oneCell' = true := fun v hv => by
  obtain rfl : v = cellI n := by simpa using hv
  rfl
theorem empty_ints (w : World) : (w.alloc (.cells #[] 3)).ownsRow w.heap.size 3 1 (.slice (some ⟨w.heap.size, 0, none⟩) 0 0) 0 [] :=
  World.ownsRow_made w #[] 0 (Nat.le_refl _) (Nat.zero_le _) rfl
/-- one number in a block of its own -/
theorem one_int (w : World) (n : Int) : ∃ V, V = w.alloc (.cells #[.int .i64 n] 3) ∧ Below w.heap.size w V ∧ Lies 1 (fun n => [cellI n]) V V.heap.size (some ⟨w.heap.size, 0, none⟩) [n] := by
  obtain ⟨W, e1, s1, b1, o1⟩ := boxd w [.int .i64 n] 3
  exact ⟨W, e1, b1, lies_owned (t := 3) cellI_len o1⟩
end Go.Proofs.YteiacpfnfolkkaaGreat
namespace Go.Proofs.YteiacpfnfolkkaaGreat
open Go Go.RowKit

theorem own_ints_row {w : World} {base n : Nat} {v : Value} {l : List Int} (hp : 0 < l.length) (hn : n = l.length) (h : w.ownsRow base 3 1 v n (l.flatMap fun n => [cellI n])) :
    ∃ g c, v = .slice (some ⟨g, 0, none⟩) l.length c ∧ base ≤ g ∧ g < w.heap.size ∧ ∀ (k : Nat) (x : Int), l[k]? = some x → w.cell? ⟨g, k, none⟩ = some (.int .i64 x) := by
  subst hn
  obtain ⟨A, c, e, _, _, hl⟩ := lies_of_own (size := 1) (cells := fun n => [cellI n]) (by decide) cellI_len rfl h
  rcases h.2 with ⟨rfl, h0⟩ | ⟨g, cap, cur, rfl, hb, hg, h1, h2, h3, h4⟩
  · omega
  · refine ⟨g, cap, rfl, hb, (Array.getElem?_eq_some_iff.1 hg).1, fun k x hk => ?_⟩
    obtain ⟨b', o', e', _, hc⟩ := hl hp
    subst e'
    injection e with e1
    injection e1 with e1
    injection e1 with e1 e2
    subst e1; subst e2
    have := hc k x hk 0 _ rfl
    rwa [Nat.mul_one, Nat.add_zero, Nat.zero_add] at this
/-- what stands at the loop's head: the merger's block, the wanted batch's, the list of fuels -/
structure SSt (w wr : World) (P Q g : Nat) (gl : List Int) (mm : Mg) (q : Bt) : Prop where
  below : Below w.heap.size w wr
  in_ : MgIn wr wr.heap.size mm
  ok : MgOk mm
  own : Own wr P 43 mm.cells
  qin : BtIn wr wr.heap.size q
  qown : Own wr Q 26 q.cells
  gin : g < wr.heap.size
  gl_ : ∀ (k : Nat) (x : Int), gl[k]? = some x → wr.cell? ⟨g, k, none⟩ = some (.int .i64 x)
set_option maxRecDepth 100000 in
set_option maxHeartbeats 25600000 in
theorem bsteps_walk (A : Option Addr) (c : Nat) (f : List Tm) (a b : Bt) (A' : Option Addr) (c' : Nat) (fu : List Int) (w : World) (hf : Times w w.heap.size A f) (hfc : f.length ≤ c) (hfn : f.length ≤ 1048576) (hcm : c ≤ maxLen) (ia : BtIn w w.heap.size a) (oa : BtOk a) (ib : BtIn w w.heap.size b) (ob : BtOk b) (hi : Ints w w.heap.size A' fu) (_ : fu.length ≤ c') (_ : fu.length ≤ 1048576) (_ : c' ≤ maxLen) (_ : Fit64 fu) (hn : f.length + a.l.length + b.l.length + fu.length ≤ 1048576) :
    Calls Tryz.prog 6 #[.slice A f.length c, a.val, b.val, .slice A' fu.length c'] w fun e w' => e = .returned (.bool true) ∧ Below w.heap.size w w' := by
  obtain ⟨i0, hi0, hz0, hz1, hz2⟩ := info_parts infoI
  have HI := Lib.hid (And.intro Tryz.underlying53 (And.intro hi0 (And.intro hz0 (And.intro hz1 hz2))))
  have y0 := fun W => Lib.hid (blives_true W)
  have hfo : TsOk f c := ⟨by omega, hfc, hcm⟩
  obtain ⟨V, hV, hvb, hv1, hv2⟩ := two_bt w a b
  have HL := Lib.hid (And.intro hf (And.intro hfo (And.intro ia (And.intro oa (And.intro ib (And.intro ob hi))))))
  have HN := Lib.hid hn
  have HV := Lib.hid (And.intro hvb (And.intro hv1 hv2))
  rw [show a.val = .agg #[.slice a.sA a.f.length a.sc, .slice a.uA a.l.length a.uc] from rfl, show b.val = .agg #[.slice b.sA b.f.length b.sc, .slice b.uA b.l.length b.uc] from rfl]
  clear hf hfo hfc hfn hcm ia oa ib ob hi hn hvb hv1 hv2 hi0 hz0 hz1 hz2
  go_enter Tryz.func6, Tryz.ntmps6
  go_upto_region 1 with fail
  rw [← hV]
  clear hV
  go_wp2_with fail
  refine (y0 _).out.mono ?_
  rintro e w1 ⟨rfl, b1⟩
  have hb1 := belows HV.out.1 b1
  have ha1 := HV.out.2.1.past b1 HV.out.2.1.inside
  have hbb1 := HV.out.2.2.past b1 HV.out.2.2.inside
  have hf1 := (HL.out.1.past hb1 (Nat.le_refl _)).wide hb1.size
  have z1 := Lib.hid (start_st A c f a b w1 hf1 HL.out.2.1 (HL.out.2.2.1.keep hb1) HL.out.2.2.2.1 (by have := HN.out; omega) (HL.out.2.2.2.2.1.keep hb1) HL.out.2.2.2.2.2.1 (by have := HN.out; omega))
  unfold StartedS at z1
  have H1 := Lib.hid (And.intro hb1 (And.intro hf1 (And.intro ha1 hbb1)))
  obtain ⟨d0, d1⟩ := own2 ha1
  obtain ⟨e0, e1⟩ := own2 hbb1
  rw [show a.val = .agg #[.slice a.sA a.f.length a.sc, .slice a.uA a.l.length a.uc] from rfl, show b.val = .agg #[.slice b.sA b.f.length b.sc, .slice b.uA b.l.length b.uc] from rfl] at z1
  clear b1 hb1 ha1 hbb1 hf1
  go_wp2_with fail
  refine z1.out.mono ?_
  rintro _ w3 ⟨m, E, rfl, h0, hne, im, om, lm, b3⟩
  by_cases hE : E = 0
  case neg =>
    have t1 : (E != 0) = true := bne_iff_ne.2 hE
    obtain rfl := hne hE
    obtain ⟨V3, hV3', hb3, hs3, ho3⟩ := mgbox w3 Mg.nil
    have hV3 : V3 = w3.alloc (.cells #[.slice none 0 0, .slice none 0 0, .int .i64 0, .int .i64 0, .slice none 0 0, .slice none 0 0] 43) := hV3'
    have ho3 : Own V3 w3.heap.size 43 [.slice none 0 0, .slice none 0 0, .int .i64 0, .int .i64 0, .slice none 0 0, .slice none 0 0] := ho3
    have H3 := Lib.hid (belows H1.out.1 (belows b3 hb3))
    clear d0 d1 e0 e1
    obtain ⟨c0, c1, c2, c3, c4, c5⟩ := own6 ho3
    rw [show Mg.nil.val = .agg #[.slice none 0 0, .slice none 0 0, .int .i64 0, .int .i64 0, .slice none 0 0, .slice none 0 0] from rfl]
    clear h0 hne im om lm b3 hb3 hs3 ho3 hV3' z1 hE
    go_upto_region 4 with fail
    rw [← hV3]
    clear hV3
    go_wp2_with fail
    first | go_quiet (fail) | skip
    go_wp2_with fail
    go_ret
    exact ⟨rfl, by first | exact H3.out | exact below_draws H3.out _⟩
  subst hE
  have hM := h0 rfl
  obtain ⟨V3, hV3, hb3, hs3, ho3⟩ := mgbox w3 m
  have hb13 := belows b3 hb3
  have ha3 := H1.out.2.2.1.past hb13 H1.out.2.2.1.inside
  have hbb3 := H1.out.2.2.2.past hb13 H1.out.2.2.2.inside
  have hbw := belows H1.out.1 hb13
  have H3 := Lib.hid (And.intro hbw (And.intro ((H1.out.2.1.past hb13 (Nat.le_refl _)).wide hb13.size) (And.intro (im.keep hb3) (And.intro om (And.intro ho3 (And.intro lm hM))))))
  obtain ⟨V4, hV4, hb4, hu4⟩ := two_lists V3 a.uA b.uA a.uc b.uc a.l b.l (HL.out.2.2.1.keep hbw).ups (HL.out.2.2.2.2.1.keep hbw).ups
  have z2 := Lib.hid (build_two A c f (some ⟨V3.heap.size, 0, none⟩) a.uA b.uA a.uc b.uc a.l b.l V4 ((H3.out.2.1.past hb4 (Nat.le_refl _)).wide hb4.size) HL.out.2.1 hu4 HL.out.2.2.2.1.l HL.out.2.2.2.2.2.1.l (by have := HN.out; omega))
  have H4 := Lib.hid (And.intro (belows hbw hb4) (And.intro (im.keep (belows hb3 hb4)) (ho3.past hb4 ho3.inside)))
  unfold Built at z2
  obtain ⟨EB, hEB⟩ : ∃ EB, bldE f (a.l ++ b.l) = EB := ⟨_, rfl⟩
  rw [hEB] at z2
  have HEB := Lib.hid hEB
  clear d0 d1 e0 e1
  obtain ⟨d0, d1⟩ := own2 ha3
  obtain ⟨e0, e1⟩ := own2 hbb3
  have HZ := Lib.hid (show w.heap.size ≤ w3.heap.size from Nat.le_trans H1.out.1.size b3.size)
  unfold Mg.val
  clear h0 hne im om lm b3 hb3 hs3 ho3 hb13 ha3 hbb3 hbw hM hb4 hu4 z1 hEB
  go_upto_region 6 with fail
  rw [← hV3]
  clear hV3
  go_wp2_with fail
  rw [← hV4]
  clear hV4
  refine z2.out.mono ?_
  rintro _ w5 ⟨q, rfl, hq1, _, iq, oq, lq, b5⟩
  obtain ⟨V5, hV5, hb5, hs5, ho5⟩ := btbox w5 q
  have hb45 := belows b5 hb5
  have hP : w3.heap.size < V4.heap.size := H4.out.2.2.inside
  have H5 := Lib.hid (And.intro (belows H4.out.1 hb45) (And.intro (H4.out.2.1.keep hb45) (And.intro (H4.out.2.2.past hb45 hP) (And.intro (iq.keep hb5) (And.intro oq (And.intro ho5 (And.intro hq1 (lq.mono (show w3.heap.size + 1 ≤ V4.heap.size from hP)))))))))
  have HP := Lib.hid (And.intro HZ.out (Nat.lt_of_lt_of_le hP b5.size))
  unfold Bt.val
  clear hq1 iq oq lq b5 hb5 hs5 ho5 hb45 hP d0 d1 e0 e1 z2
  go_upto_region 7 with fail
  rw [← hV5]
  clear hV5
  obtain ⟨N5, hN5⟩ : ∃ N5, V5.heap.size = N5 := ⟨_, rfl⟩
  have hr0 := Lib.hid (empty_ints V5)
  have hL0 := Lib.hid ((lies_ints HL.out.2.2.2.2.2.2).past (H5.out.1.alloc H5.out.1.size (.cells #[] 3)) (Nat.le_refl _))
  have hnn := HN.out
  clear hN5
  go_wp2_with (at_builtin; refine wpList_append_lies _ rfl (.tmp 50) (.tmp 51) 53 3 rfl i0 _ 8 HI.out.1 HI.out.2.1 HI.out.2.2.1 HI.out.2.2.2.1 HI.out.2.2.2.2 rfl (by decide) cellI_len cellI_one V5.heap.size _ _ _ rfl hr0.out c' rfl hL0.out ?m1 ?m2 ?m3 ?m4)
  case m1 => unfold maxLen; omega
  case m2 => omega
  case m3 => simp
  intro v6 w6 ho6 hb6
  have hs6 : V5.heap.size ≤ w6.heap.size := by have := hb6.size; simp at this; omega
  have hb6' : Below V5.heap.size V5 w6 := ((Below.refl _ _).alloc (Nat.le_refl _) _).trans hb6
  have hr6 := Lib.hid (ho6.alloc (.cells #[.int .i64 4611686018427387904] 3))
  obtain ⟨V6, hV6, hbv6, hl6⟩ := one_int w6 4611686018427387904
  subst hV6
  have hl6 := Lib.hid hl6
  have H6 := Lib.hid (hb6'.trans (hbv6.mono hs6))
  clear ho6 hb6 hb6' hbv6 hr0 hL0
  go_wp2_with (at_builtin; refine wpList_append_lies (l := [4611686018427387904]) _ rfl (.tmp 52) (.tmp 53) 53 3 rfl i0 _ 8 HI.out.1 HI.out.2.1 HI.out.2.2.1 HI.out.2.2.2.1 HI.out.2.2.2.2 rfl (by decide) cellI_len cellI_one V5.heap.size _ _ _ rfl hr6.out 1 rfl hl6.out ?k1 ?k2 ?k3 ?k4)
  case k1 => unfold maxLen; simp only [List.length_cons, List.length_nil]; omega
  case k2 => simp only [List.length_cons, List.length_nil]; omega
  case k3 => rw [World.size_alloc]; omega
  intro v7 w7 ho7 hb7
  obtain ⟨gl, hgl⟩ : ∃ gl, fu ++ [(4611686018427387904 : Int)] = gl := ⟨_, rfl⟩
  have hng : gl.length = fu.length + 1 := by rw [← hgl]; simp
  obtain ⟨g, c7, rfl, hg1, hg2, hg3⟩ := own_ints_row (l := gl) (by omega) (by rw [hng]) (by rw [← hgl, List.flatMap_append]; simpa using ho7)
  have hb57 : Below V5.heap.size V5 w7 := H6.out.trans hb7
  have HG := Lib.hid (And.intro (show ∀ x, gl[gl.length - 1]? = some x → x = 4611686018427387904 from fun x hx => by rw [hng, ← hgl] at hx; simpa using hx.symm) (And.intro (Nat.lt_of_lt_of_le (Nat.lt_trans HP.out.2 H5.out.2.2.2.2.2.1.inside) hg1) (show gl.length ≤ 1048577 ∧ 0 < gl.length by omega)))
  have H7 := Lib.hid (And.intro (belows H5.out.1 hb57) (And.intro (H5.out.2.1.keep hb57) (And.intro (H5.out.2.2.1.past hb57 H5.out.2.2.1.inside) (And.intro (H5.out.2.2.2.1.keep hb57) (And.intro (H5.out.2.2.2.2.2.1.past hb57 H5.out.2.2.2.2.2.1.inside) (And.intro hg2 hg3))))))
  clear ho7 hb7 hb57 hr6 hl6 H6 hs6 hg1 hg2 hg3 hgl hng hnn
  go_upto_region 8 with fail
  go_loopw [56] (fun v wr => ∃ (k i j : Nat) (mm : Mg), v = .int .i64 (k : Int) ∧ k ≤ gl.length ∧ k ≤ 40 ∧ OfM f a.l b.l mm i j ∧ (k = gl.length → leftN mm i j = 0) ∧ SSt w wr w3.heap.size w5.heap.size g gl mm q)
    (fun v _ => gl.length - (intOf v).toNat)
  case atStart => exact ⟨0, 0, 0, m, rfl, by omega, by omega, H3.out.2.2.2.2.2.2, fun h => absurd h (by have := HG.out.2.2.2; omega), H7.out.1, H7.out.2.1, H3.out.2.2.2.1, H7.out.2.2.1, H7.out.2.2.2.1, H7.out.2.2.2.2.1, H7.out.2.2.2.2.2.1, H7.out.2.2.2.2.2.2⟩
  case round =>
    obtain ⟨k, i, j, mm, rfl, hk, hk40, hM, hend, hS⟩ := hrel
    by_cases hlt : k < gl.length
    · have hx : gl[k]? = some gl[k] := List.getElem?_eq_getElem hlt
      obtain ⟨x, hxe⟩ : ∃ x, gl[k] = x := ⟨_, rfl⟩
      rw [hxe] at hx
      have hcx := hS.gl_ k x hx
      have hown := hS.own
      unfold Mg.cells at hown
      rw [hM.way.i_, hM.way.j_] at hown
      obtain ⟨c0, c1, c2, c3, c4, c5⟩ := own6 hown
      have nn := HN.out
      have n1 : mm.a.length ≤ 1048576 := by rw [hM.la]; omega
      have n2 : mm.b.length ≤ 1048576 := by rw [hM.lb]; omega
      have n3 : i ≤ mm.a.length := by rw [hM.la]; exact hM.ij.1
      have n4 : j ≤ mm.b.length := by rw [hM.lb]; exact hM.ij.2
      obtain ⟨L, hL⟩ : ∃ L, leftN mm i j = L := ⟨_, rfl⟩
      have hLi : (mm.a.length : Int) - (i : Int) + (mm.b.length : Int) - (j : Int) = (L : Int) := by unfold leftN at hL; omega
      have q1 : (k : Int) < (gl.length : Int) := by omega
      have n5 : L ≤ 2097152 := by unfold leftN at hL; omega
      have HR := Lib.hid (And.intro hM (And.intro hS (And.intro hL (And.intro hx hlt))))
      have HK := Lib.hid (And.intro hk hk40)
      clear hM hS hL hx hxe hown hend hlt hk hk40 nn
      by_cases h40 : k = 40
      · have t40 : ((k : Int) == 40) = true := by rw [beq_iff_eq]; omega
        have z1 := Lib.hid (work_st mm 4611686018427387904 wr HR.out.1 HR.out.2.1.in_ HR.out.2.1.ok (by have := HN.out; omega))
        rw [show mm.val = .agg #[.slice mm.aA mm.a.length mm.ac, .slice mm.bA mm.b.length mm.bc, .int .i64 (i : Int), .int .i64 (j : Int), .slice mm.sA mm.f.length mm.sc, .slice mm.oA mm.o.length mm.oc] by unfold Mg.val; rw [HR.out.1.way.i_, HR.out.1.way.j_]] at z1
        unfold WorkedS at z1
        rw [HR.out.2.2.1] at z1
        clear h40
        go_wp2_with fail
        refine z1.out.mono ?_
        rintro _ w9 ⟨m', i', j', K, E, rfl, hM', hK, hE0, hE1, im', om', lm', b9⟩
        obtain ⟨V9, hV9, hb9, hs9, ho9⟩ := mgbox w9 m'
        have hS := HR.out.2.1
        have hPw : w3.heap.size < wr.heap.size := hS.own.inside
        have hb99 := belows b9 hb9
        have H9 := Lib.hid (And.intro (belows hS.below hb99) (And.intro (hS.own.past hb99 hS.own.inside) (And.intro (hS.qin.keep hb99) (And.intro (hS.qown.past hb99 hS.qown.inside) (And.intro (im'.keep hb9) (And.intro om' (And.intro (lm'.mono (show w3.heap.size + 1 ≤ wr.heap.size from hPw)) (And.intro ho9 (And.intro (Nat.lt_of_lt_of_le hS.gin hb99.size) fun (kk : Nat) (xx : Int) hh => (hb99.cell (p := ⟨g, kk, none⟩) hS.gin).trans (hS.gl_ kk xx hh))))))))))
        rw [show m'.val = .agg #[.slice m'.aA m'.a.length m'.ac, .slice m'.bA m'.b.length m'.bc, .int .i64 (i' : Int), .int .i64 (j' : Int), .slice m'.sA m'.f.length m'.sc, .slice m'.oA m'.o.length m'.oc] by unfold Mg.val; rw [hM'.way.i_, hM'.way.j_]]
        rw [hM'.way.i_, hM'.way.j_] at hV9
        have ho9' : Own V9 w9.heap.size 43 [.slice m'.aA m'.a.length m'.ac, .slice m'.bA m'.b.length m'.bc, .int .i64 (i' : Int), .int .i64 (j' : Int), .slice m'.sA m'.f.length m'.sc, .slice m'.oA m'.o.length m'.oc] := by
          have := ho9
          unfold Mg.cells at this
          rwa [hM'.way.i_, hM'.way.j_] at this
        clear c0 c1 c2 c3 c4 c5
        obtain ⟨c0, c1, c2, c3, c4, c5⟩ := own6 ho9'
        by_cases hE : E = 0
        case neg =>
          have t2 : (E != 0) = true := bne_iff_ne.2 hE
          have t3 : (E == EB) = true := by rw [← hE1 hE, HEB.out]; simp
          clear hM' hK hE0 hE1 im' om' lm' b9 hb9 hs9 ho9 hS hPw hb99 hE z1 ho9'
          go_upto_region 14 with fail
          rw [← hV9]
          clear hV9
          go_wp2_with fail
          go_ret
          exact ⟨rfl, H9.out.1⟩
        subst hE
        have hS2 := hE0 rfl
        obtain ⟨r1, r2⟩ := hS2
        obtain ⟨L', hL'⟩ : ∃ L', leftN m' i' j' = L' := ⟨_, rfl⟩
        have p1 : m'.a.length ≤ 1048576 := by rw [hM'.la]; have := HN.out; omega
        have p2 : m'.b.length ≤ 1048576 := by rw [hM'.lb]; have := HN.out; omega
        have p3 : i' ≤ m'.a.length := by rw [hM'.la]; exact hM'.ij.1
        have p4 : j' ≤ m'.b.length := by rw [hM'.lb]; exact hM'.ij.2
        have hLi' : (m'.a.length : Int) - (i' : Int) + (m'.b.length : Int) - (j' : Int) = (L' : Int) := by unfold leftN at hL'; omega
        rw [hL'] at hK r1
        have hne : ((L' : Int) != (L : Int) - (K : Int)) = false := by rw [bne_eq_false_iff_eq]; omega
        obtain ⟨bL, hbL⟩ : ∃ x, decide (0 < L) = x := ⟨_, rfl⟩
        have hbL' : decide ((0 : Int) < (L : Int)) = bL := by rw [← hbL]; exact decide_eq_decide.2 (by omega)
        have hbK : decide (0 < K) = bL := by rw [← hbL]; exact decide_eq_decide.2 ⟨fun h => (r2.2 h).2, fun h => r2.1 ⟨by decide, h⟩⟩
        have hbK' : decide ((0 : Int) < (K : Int)) = bL := by rw [← hbK]; exact decide_eq_decide.2 (by omega)
        have p5 : K ≤ L := by omega
        have z2 := Lib.hid (checkM_yes m' V9 hM' H9.out.2.2.2.2.1 om')
        rw [show m'.val = .agg #[.slice m'.aA m'.a.length m'.ac, .slice m'.bA m'.b.length m'.bc, .int .i64 (i' : Int), .int .i64 (j' : Int), .slice m'.sA m'.f.length m'.sc, .slice m'.oA m'.o.length m'.oc] by unfold Mg.val; rw [hM'.way.i_, hM'.way.j_]] at z2
        have HM := Lib.hid (And.intro hM' (And.intro hL' (And.intro r1 hK)))
        have HO := Lib.hid ho9'
        clear hM' hK hE0 hE1 im' om' lm' b9 hb9 hs9 ho9 hS hPw hb99 z1 ho9' r1 r2 hL'
        go_upto_region 14 with fail
        rw [← hV9]
        clear hV9
        go_wp2_with fail
        refine z2.out.mono ?_
        rintro _ w10 ⟨rfl, b10⟩
        have hPin := H9.out.2.1.inside
        have hxo := HO.out.past b10 HO.out.inside
        have hpo := H9.out.2.1.past b10 H9.out.2.1.inside
        clear c0 c1 c2 c3 c4 c5
        obtain ⟨c0, c1, c2, c3, c4, c5⟩ := own6 hxo
        obtain ⟨f0, f1, f2, f3, f4, f5⟩ := own_frozen6 hpo
        obtain ⟨g0, g1, g2, g3, g4, g5⟩ := own6 hpo
        obtain ⟨X, hX', hXo, hXb, hXs, hXh⟩ := own_six hpo (.slice m'.aA m'.a.length m'.ac) (.slice m'.bA m'.b.length m'.bc) (.int .i64 (i' : Int)) (.int .i64 (j' : Int)) (.slice m'.sA m'.f.length m'.sc) (.slice m'.oA m'.o.length m'.oc)
        have hq10 := H9.out.2.2.1.keep b10
        have hlq := H5.out.2.2.2.2.2.2.2
        have hSX : SSt w X w3.heap.size w5.heap.size g gl m' q := ⟨hXb w.heap.size w (belows H9.out.1 b10) HP.out.1, mg_other (H9.out.2.2.2.2.1.keep b10) H9.out.2.2.2.2.2.2.1 hXs hXh, H9.out.2.2.2.2.2.1, by unfold Mg.cells; rw [HM.out.1.way.i_, HM.out.1.way.j_]; exact hXo, ⟨times_other hq10.since hlq.f hXs hXh, ups_other hq10.ups hlq.l hXs hXh⟩, (hXh w5.heap.size (Nat.ne_of_gt HP.out.2)).trans (H9.out.2.2.2.1.past b10 H9.out.2.2.2.1.inside), by rw [hXs]; exact Nat.lt_of_lt_of_le H9.out.2.2.2.2.2.2.2.2.1 b10.size, fun kk xx hh => by
          have h1 := (b10.cell (p := ⟨g, kk, none⟩) H9.out.2.2.2.2.2.2.2.2.1).trans (H9.out.2.2.2.2.2.2.2.2.2 kk xx hh)
          rw [← h1]
          unfold World.cell?
          rw [hXh g (Nat.ne_of_gt HG.out.2.1)]⟩
        have HX := Lib.hid (And.intro hSX hXo)
        have HR2 := Lib.hid hX'
        clear hX' hXo hXb hXs hXh hq10 hlq hSX hxo hpo b10 hPin z2
        go_upto_region 19 with fail
        rw [← HR2.out]
        clear c0 c1 c2 c3 c4 c5 f0 f1 f2 f3 f4 f5 g0 g1 g2 g3 g4 g5 HR2
        obtain ⟨WT, hWT⟩ : ∃ W, W = X := ⟨_, rfl⟩
        subst hWT
        obtain ⟨MT, hMT⟩ : ∃ m, m = m' := ⟨_, rfl⟩
        subst hMT
        obtain ⟨iT, hiT⟩ : ∃ i, i = i' := ⟨_, rfl⟩
        subst hiT
        obtain ⟨jT, hjT⟩ : ∃ j, j = j' := ⟨_, rfl⟩
        subst hjT
        have HT := Lib.hid (show OfM f a.l b.l MT iT jT ∧ leftN MT iT jT = 0 ∧ SSt w WT w3.heap.size w5.heap.size g gl MT q from ⟨HM.out.1, by rw [HM.out.2.1]; rcases HM.out.2.2.1 with h | h; exact h; omega, HX.out.1⟩)
        clear hLi hLi' hne hbL hbL' hbK hbK' p1 p2 p3 p4 p5 n1 n2 n3 n4 n5
        go_upto_region 21 with fail
        have TM := HT.out.1
        have TS := HT.out.2.2
        have z5 := Lib.hid (end_st MT WT TM TS.in_ TS.ok (by have := HN.out; omega) HT.out.2.1)
        rw [show MT.val = .agg #[.slice MT.aA MT.a.length MT.ac, .slice MT.bA MT.b.length MT.bc, .int .i64 (iT : Int), .int .i64 (jT : Int), .slice MT.sA MT.f.length MT.sc, .slice MT.oA MT.o.length MT.oc] by unfold Mg.val; rw [TM.way.i_, TM.way.j_]] at z5
        have hd := TM.done HT.out.2.1
        rw [HEB.out] at hd
        have tEB : (EB == 0) = true := by rw [hd.1]; rfl
        have hq := H5.out.2.2.2.2.2.2.1 hd.1
        have hcE : consE [advL f (a.l ++ b.l)] = 0 := (built_ok (HEB.out.trans hd.1)).2
        have HQ := Lib.hid (And.intro hq hcE)
        have hto := TS.own
        unfold Mg.cells at hto
        rw [TM.way.i_, TM.way.j_] at hto
        obtain ⟨c0, c1, c2, c3, c4, c5⟩ := own6 hto
        clear TM TS hd hq hcE hto
        go_wp2_with fail
        refine z5.out.mono ?_
        rintro _ w11 ⟨e, rfl, fe, pe, ie, oe, b11⟩
        obtain ⟨V11, hV11, hb11, hs11, ho11⟩ := btbox w11 e
        have TS := HT.out.2.2
        have hbb := belows b11 hb11
        have hqo := TS.qown.past hbb TS.qown.inside
        have z6 := Lib.hid (samebatch_yes e q V11 (ie.keep hb11) oe (TS.qin.keep hbb) H5.out.2.2.2.2.1 ⟨fe.trans HQ.out.1.2.1.symm, pe.trans HQ.out.1.2.2.symm⟩)
        have hbo : BatchOk e.f e.l := by rw [fe]; exact batch_ok HQ.out.1.1 HQ.out.2 pe
        have H11 := Lib.hid (And.intro (belows TS.below hbb) (And.intro (ie.keep hb11) (And.intro oe (And.intro ho11 hbo))))
        clear c0 c1 c2 c3 c4 c5
        obtain ⟨d0, d1⟩ := own2 ho11
        obtain ⟨e0, e1⟩ := own2 hqo
        unfold Bt.val at z6 ⊢
        clear fe pe ie oe b11 hb11 hs11 ho11 TS hbb hqo hbo z5
        go_upto_region 22 with fail
        rw [← hV11]
        clear hV11
        go_wp2_with fail
        refine z6.out.mono ?_
        rintro _ w12 ⟨rfl, b12⟩
        have ho12 := H11.out.2.2.2.1.past b12 H11.out.2.2.2.1.inside
        have z7 := Lib.hid (check_yes e w12 (H11.out.2.1.keep b12) H11.out.2.2.1 H11.out.2.2.2.2)
        have H12 := Lib.hid (belows H11.out.1 b12)
        clear d0 d1 e0 e1
        obtain ⟨d0, d1⟩ := own2 ho12
        unfold Bt.val at z7
        clear b12 ho12 z6
        go_wp2_with fail
        refine z7.out.mono ?_
        rintro _ w13 ⟨rfl, b13⟩
        have H13 := Lib.hid (belows H12.out b13)
        clear d0 d1 b13 z7
        go_wp2_with fail
        go_ret
        exact ⟨rfl, H13.out⟩
      · skip
        have t40 : ((k : Int) == 40) = false := by rw [beq_eq_false_iff_ne]; omega
        have H40 := Lib.hid h40
        obtain ⟨bF, hbF⟩ : ∃ b, decide ((0 : Int) < x) = b := ⟨_, rfl⟩
        have z1 := Lib.hid (work_st mm x wr HR.out.1 HR.out.2.1.in_ HR.out.2.1.ok (by have := HN.out; omega))
        rw [show mm.val = .agg #[.slice mm.aA mm.a.length mm.ac, .slice mm.bA mm.b.length mm.bc, .int .i64 (i : Int), .int .i64 (j : Int), .slice mm.sA mm.f.length mm.sc, .slice mm.oA mm.o.length mm.oc] by unfold Mg.val; rw [HR.out.1.way.i_, HR.out.1.way.j_]] at z1
        unfold WorkedS at z1
        rw [HR.out.2.2.1] at z1
        clear h40
        go_wp2_with fail
        refine z1.out.mono ?_
        rintro _ w9 ⟨m', i', j', K, E, rfl, hM', hK, hE0, hE1, im', om', lm', b9⟩
        obtain ⟨V9, hV9, hb9, hs9, ho9⟩ := mgbox w9 m'
        have hS := HR.out.2.1
        have hPw : w3.heap.size < wr.heap.size := hS.own.inside
        have hb99 := belows b9 hb9
        have H9 := Lib.hid (And.intro (belows hS.below hb99) (And.intro (hS.own.past hb99 hS.own.inside) (And.intro (hS.qin.keep hb99) (And.intro (hS.qown.past hb99 hS.qown.inside) (And.intro (im'.keep hb9) (And.intro om' (And.intro (lm'.mono (show w3.heap.size + 1 ≤ wr.heap.size from hPw)) (And.intro ho9 (And.intro (Nat.lt_of_lt_of_le hS.gin hb99.size) fun (kk : Nat) (xx : Int) hh => (hb99.cell (p := ⟨g, kk, none⟩) hS.gin).trans (hS.gl_ kk xx hh))))))))))
        rw [show m'.val = .agg #[.slice m'.aA m'.a.length m'.ac, .slice m'.bA m'.b.length m'.bc, .int .i64 (i' : Int), .int .i64 (j' : Int), .slice m'.sA m'.f.length m'.sc, .slice m'.oA m'.o.length m'.oc] by unfold Mg.val; rw [hM'.way.i_, hM'.way.j_]]
        rw [hM'.way.i_, hM'.way.j_] at hV9
        have ho9' : Own V9 w9.heap.size 43 [.slice m'.aA m'.a.length m'.ac, .slice m'.bA m'.b.length m'.bc, .int .i64 (i' : Int), .int .i64 (j' : Int), .slice m'.sA m'.f.length m'.sc, .slice m'.oA m'.o.length m'.oc] := by
          have := ho9
          unfold Mg.cells at this
          rwa [hM'.way.i_, hM'.way.j_] at this
        clear c0 c1 c2 c3 c4 c5
        obtain ⟨c0, c1, c2, c3, c4, c5⟩ := own6 ho9'
        by_cases hE : E = 0
        case neg =>
          have t2 : (E != 0) = true := bne_iff_ne.2 hE
          have t3 : (E == EB) = true := by rw [← hE1 hE, HEB.out]; simp
          clear hM' hK hE0 hE1 im' om' lm' b9 hb9 hs9 ho9 hS hPw hb99 hE z1 ho9'
          go_upto_region 14 with fail
          rw [← hV9]
          clear hV9
          go_wp2_with fail
          go_ret
          exact ⟨rfl, H9.out.1⟩
        subst hE
        have hS2 := hE0 rfl
        obtain ⟨r1, r2⟩ := hS2
        obtain ⟨L', hL'⟩ : ∃ L', leftN m' i' j' = L' := ⟨_, rfl⟩
        have p1 : m'.a.length ≤ 1048576 := by rw [hM'.la]; have := HN.out; omega
        have p2 : m'.b.length ≤ 1048576 := by rw [hM'.lb]; have := HN.out; omega
        have p3 : i' ≤ m'.a.length := by rw [hM'.la]; exact hM'.ij.1
        have p4 : j' ≤ m'.b.length := by rw [hM'.lb]; exact hM'.ij.2
        have hLi' : (m'.a.length : Int) - (i' : Int) + (m'.b.length : Int) - (j' : Int) = (L' : Int) := by unfold leftN at hL'; omega
        rw [hL'] at hK r1
        have hne : ((L' : Int) != (L : Int) - (K : Int)) = false := by rw [bne_eq_false_iff_eq]; omega
        obtain ⟨bL, hbL⟩ : ∃ x, decide (0 < L) = x := ⟨_, rfl⟩
        have hbL' : decide ((0 : Int) < (L : Int)) = bL := by rw [← hbL]; exact decide_eq_decide.2 (by omega)
        have hbK : decide (0 < K) = (bF && bL) := by rw [← hbL, ← hbF, ← Bool.decide_and]; exact decide_eq_decide.2 r2.symm
        have hbK' : decide ((0 : Int) < (K : Int)) = (bF && bL) := by rw [← hbK]; exact decide_eq_decide.2 (by omega)
        have p5 : K ≤ L := by omega
        have z2 := Lib.hid (checkM_yes m' V9 hM' H9.out.2.2.2.2.1 om')
        rw [show m'.val = .agg #[.slice m'.aA m'.a.length m'.ac, .slice m'.bA m'.b.length m'.bc, .int .i64 (i' : Int), .int .i64 (j' : Int), .slice m'.sA m'.f.length m'.sc, .slice m'.oA m'.o.length m'.oc] by unfold Mg.val; rw [hM'.way.i_, hM'.way.j_]] at z2
        have HM := Lib.hid (And.intro hM' (And.intro hL' (And.intro r1 hK)))
        have HO := Lib.hid ho9'
        clear hM' hK hE0 hE1 im' om' lm' b9 hb9 hs9 ho9 hS hPw hb99 z1 ho9' r1 r2 hL'
        go_upto_region 14 with fail
        rw [← hV9]
        clear hV9
        go_wp2_with fail
        refine z2.out.mono ?_
        rintro _ w10 ⟨rfl, b10⟩
        have hPin := H9.out.2.1.inside
        have hxo := HO.out.past b10 HO.out.inside
        have hpo := H9.out.2.1.past b10 H9.out.2.1.inside
        clear c0 c1 c2 c3 c4 c5
        obtain ⟨c0, c1, c2, c3, c4, c5⟩ := own6 hxo
        obtain ⟨f0, f1, f2, f3, f4, f5⟩ := own_frozen6 hpo
        obtain ⟨g0, g1, g2, g3, g4, g5⟩ := own6 hpo
        obtain ⟨X, hX', hXo, hXb, hXs, hXh⟩ := own_six hpo (.slice m'.aA m'.a.length m'.ac) (.slice m'.bA m'.b.length m'.bc) (.int .i64 (i' : Int)) (.int .i64 (j' : Int)) (.slice m'.sA m'.f.length m'.sc) (.slice m'.oA m'.o.length m'.oc)
        have hq10 := H9.out.2.2.1.keep b10
        have hlq := H5.out.2.2.2.2.2.2.2
        have hSX : SSt w X w3.heap.size w5.heap.size g gl m' q := ⟨hXb w.heap.size w (belows H9.out.1 b10) HP.out.1, mg_other (H9.out.2.2.2.2.1.keep b10) H9.out.2.2.2.2.2.2.1 hXs hXh, H9.out.2.2.2.2.2.1, by unfold Mg.cells; rw [HM.out.1.way.i_, HM.out.1.way.j_]; exact hXo, ⟨times_other hq10.since hlq.f hXs hXh, ups_other hq10.ups hlq.l hXs hXh⟩, (hXh w5.heap.size (Nat.ne_of_gt HP.out.2)).trans (H9.out.2.2.2.1.past b10 H9.out.2.2.2.1.inside), by rw [hXs]; exact Nat.lt_of_lt_of_le H9.out.2.2.2.2.2.2.2.2.1 b10.size, fun kk xx hh => by
          have h1 := (b10.cell (p := ⟨g, kk, none⟩) H9.out.2.2.2.2.2.2.2.2.1).trans (H9.out.2.2.2.2.2.2.2.2.2 kk xx hh)
          rw [← h1]
          unfold World.cell?
          rw [hXh g (Nat.ne_of_gt HG.out.2.1)]⟩
        have HX := Lib.hid (And.intro hSX hXo)
        have HR2 := Lib.hid hX'
        clear hX' hXo hXb hXs hXh hq10 hlq hSX hxo hpo b10 hPin z2
        cases bF with
        | true =>
          simp only [Bool.true_and] at hbK hbK'
          go_upto_region 19 with fail
          rw [← HR2.out]
          clear c0 c1 c2 c3 c4 c5 f0 f1 f2 f3 f4 f5 g0 g1 g2 g3 g4 g5 HR2
          have hgn := HG.out.2.2.1
          have hk4 := HK.out.2
          go_wp2_with fail
          go_roundw
          case rel => exact ⟨k + 1, i', j', m', by go_num, by have := HR.out.2.2.2.2; omega, by have := HK.out.2; have := H40.out; omega, HM.out.1, fun h => by
            have hx := HR.out.2.2.2.1
            have hkk : k = gl.length - 1 := by omega
            rw [hkk] at hx
            have hx2 := HG.out.1 x hx
            rw [HM.out.2.1]
            rcases HM.out.2.2.1 with h1 | h1
            · exact h1
            · omega, HX.out.1⟩
          case measure => simp [intOf]; have := HR.out.2.2.2.2; omega
        | false =>
          simp only [Bool.false_and] at hbK hbK'
          go_upto_region 19 with fail
          rw [← HR2.out]
          clear c0 c1 c2 c3 c4 c5 f0 f1 f2 f3 f4 f5 g0 g1 g2 g3 g4 g5 HR2
          have hgn := HG.out.2.2.1
          have hk4 := HK.out.2
          go_wp2_with fail
          go_roundw
          case rel => exact ⟨k + 1, i', j', m', by go_num, by have := HR.out.2.2.2.2; omega, by have := HK.out.2; have := H40.out; omega, HM.out.1, fun h => by
            have hx := HR.out.2.2.2.1
            have hkk : k = gl.length - 1 := by omega
            rw [hkk] at hx
            have hx2 := HG.out.1 x hx
            rw [HM.out.2.1]
            rcases HM.out.2.2.1 with h1 | h1
            · exact h1
            · omega, HX.out.1⟩
          case measure => simp [intOf]; have := HR.out.2.2.2.2; omega
    · skip
      have hkl : k = gl.length := by omega
      have hkf : ¬ (k : Int) < (gl.length : Int) := by omega
      obtain ⟨WT, hWT⟩ : ∃ W, W = wr := ⟨_, rfl⟩
      subst hWT
      obtain ⟨MT, hMT⟩ : ∃ m, m = mm := ⟨_, rfl⟩
      subst hMT
      obtain ⟨iT, hiT⟩ : ∃ x, x = i := ⟨_, rfl⟩
      subst hiT
      obtain ⟨jT, hjT⟩ : ∃ x, x = j := ⟨_, rfl⟩
      subst hjT
      have HT := Lib.hid (show OfM f a.l b.l MT iT jT ∧ leftN MT iT jT = 0 ∧ SSt w WT w3.heap.size w5.heap.size g gl MT q from ⟨hM, hend hkl, hS⟩)
      clear hM hend hS hkl hlt hk hk40
      go_upto_region 21 with fail
      have TM := HT.out.1
      have TS := HT.out.2.2
      have z5 := Lib.hid (end_st MT WT TM TS.in_ TS.ok (by have := HN.out; omega) HT.out.2.1)
      rw [show MT.val = .agg #[.slice MT.aA MT.a.length MT.ac, .slice MT.bA MT.b.length MT.bc, .int .i64 (iT : Int), .int .i64 (jT : Int), .slice MT.sA MT.f.length MT.sc, .slice MT.oA MT.o.length MT.oc] by unfold Mg.val; rw [TM.way.i_, TM.way.j_]] at z5
      have hd := TM.done HT.out.2.1
      rw [HEB.out] at hd
      have tEB : (EB == 0) = true := by rw [hd.1]; rfl
      have hq := H5.out.2.2.2.2.2.2.1 hd.1
      have hcE : consE [advL f (a.l ++ b.l)] = 0 := (built_ok (HEB.out.trans hd.1)).2
      have HQ := Lib.hid (And.intro hq hcE)
      have hto := TS.own
      unfold Mg.cells at hto
      rw [TM.way.i_, TM.way.j_] at hto
      obtain ⟨c0, c1, c2, c3, c4, c5⟩ := own6 hto
      clear TM TS hd hq hcE hto
      go_wp2_with fail
      refine z5.out.mono ?_
      rintro _ w11 ⟨e, rfl, fe, pe, ie, oe, b11⟩
      obtain ⟨V11, hV11, hb11, hs11, ho11⟩ := btbox w11 e
      have TS := HT.out.2.2
      have hbb := belows b11 hb11
      have hqo := TS.qown.past hbb TS.qown.inside
      have z6 := Lib.hid (samebatch_yes e q V11 (ie.keep hb11) oe (TS.qin.keep hbb) H5.out.2.2.2.2.1 ⟨fe.trans HQ.out.1.2.1.symm, pe.trans HQ.out.1.2.2.symm⟩)
      have hbo : BatchOk e.f e.l := by rw [fe]; exact batch_ok HQ.out.1.1 HQ.out.2 pe
      have H11 := Lib.hid (And.intro (belows TS.below hbb) (And.intro (ie.keep hb11) (And.intro oe (And.intro ho11 hbo))))
      clear c0 c1 c2 c3 c4 c5
      obtain ⟨d0, d1⟩ := own2 ho11
      obtain ⟨e0, e1⟩ := own2 hqo
      unfold Bt.val at z6 ⊢
      clear fe pe ie oe b11 hb11 hs11 ho11 TS hbb hqo hbo z5
      go_upto_region 22 with fail
      rw [← hV11]
      clear hV11
      go_wp2_with fail
      refine z6.out.mono ?_
      rintro _ w12 ⟨rfl, b12⟩
      have ho12 := H11.out.2.2.2.1.past b12 H11.out.2.2.2.1.inside
      have z7 := Lib.hid (check_yes e w12 (H11.out.2.1.keep b12) H11.out.2.2.1 H11.out.2.2.2.2)
      have H12 := Lib.hid (belows H11.out.1 b12)
      clear d0 d1 e0 e1
      obtain ⟨d0, d1⟩ := own2 ho12
      unfold Bt.val at z7
      clear b12 ho12 z6
      go_wp2_with fail
      refine z7.out.mono ?_
      rintro _ w13 ⟨rfl, b13⟩
      have H13 := Lib.hid (belows H12.out b13)
      clear d0 d1 b13 z7
      go_wp2_with fail
      go_ret
      exact ⟨rfl, H13.out⟩
end Go.Proofs.YteiacpfnfolkkaaGreat
namespace Go.Proofs.YteiacpfnfolkkaaGreat
open Go Go.RowKit Go.ChangeShapes Go.WideShapes Go.ChangeAt Go.Deep

set_option maxRecDepth 100000
section
variable {H : Type} {enc : TypeId × Value → H} {w : World} {base : Nat} {spare : Nat → Bool} {held : Bool}
theorem open_timesC {fuel : Nat} {cs : List Value} {x : DataW H × List MemPlace} (h : DataW.trod enc Tryz.prog w base spare held fuel 22 cs = some x) :
    ∃ (A : Option Addr) (c : Nat) (l : List Tm), cs = [.slice A l.length c] ∧ l.length ≤ c ∧ c ≤ maxLen ∧ Times w w.heap.size A l ∧ l.length ≤ Rows.uptoBulk x.1 := by
  obtain ⟨A, c, l, bs, e, h1, h2, h3, h4, h5, h6, h7⟩ := open_list_bulk (size := 3) (cells := Tm.cells) (OK := fun _ _ => True) Tryz.underlying22 (by kernel_rfl) (fun _ => by simp [Tm.cells]) (fun {n cs x} _ ht => (trod_time ht).elim fun t e => ⟨t, e, trivial⟩) h
  have := len_le_sum h6
  exact ⟨A, c, l, e, h1, h2, times_lies h3, by omega⟩
set_option maxRecDepth 100000 in
theorem trod_batch {fuel : Nat} {cs : List Value} {x : DataW H × List MemPlace} (h : DataW.trod enc Tryz.prog w base spare held fuel 26 cs = some x) : ∃ b : Bt, cs = b.cells ∧ BtIn w w.heap.size b ∧ (Rows.uptoBulk x.1 ≤ 1048576 → BtOk b) ∧ b.l.length ≤ Rows.uptoBulk x.1 := by
  obtain ⟨xs, n, _, hx, hlen, hxs, hf⟩ := DataW.trod_struct Tryz.underlying26 h
  have hc : Tryz.prog.cellsOf 26 = 2 := by kernel_rfl
  have hc0 : Tryz.prog.cellsOf 22 = 1 := by kernel_rfl
  have hc1 : Tryz.prog.cellsOf 24 = 1 := by kernel_rfl
  rw [hc] at hlen
  match cs, hlen with
  | [c0, c1], _ =>
    have h0 := hf 0 _ rfl
    have h1 := hf 1 _ rfl
    match xs, hxs with
    | [y0, y1], _ =>
      simp only [hc0, hc1, List.drop_zero, List.take_succ_cons, List.take_zero, List.drop_succ_cons, List.getElem?_cons_zero, List.getElem?_cons_succ] at h0 h1
      obtain ⟨A0, k0, l0, e0, g0, m0, i0, n0⟩ := open_timesC h0
      obtain ⟨⟨A1, k1, l1⟩, e1, g1, m1, i1, o1, n1⟩ := open_upsC h1
      obtain rfl := (List.cons.inj e0).1
      obtain rfl := (List.cons.inj e1).1
      have hM : Rows.uptoBulk x.1 = Rows.uptoBulk y0.1 + (Rows.uptoBulk y1.1 + 0) + 1 := by
        rw [hx]
        simp only [List.map_cons, List.map_nil, Rows.uptoBulk, Rows.uptoBulkAll]
      have n1 : l1.length + 1 ≤ Rows.uptoBulk y1.1 := n1
      exact ⟨⟨A0, k0, l0, A1, k1, l1⟩, rfl, ⟨i0, i1⟩, fun hb => ⟨⟨by show l0.length ≤ _; omega, g0, m0⟩, ⟨by show l1.length ≤ _; omega, o1 (by omega)⟩⟩, by show l1.length ≤ _; omega⟩
theorem open_batch {v : Value} {d : DataW H} {p : List MemPlace} {r : Reach} {b0 : Nat} (hv : Value.okWide Tryz.prog w r b0 26 v) (h : DataW.Trod enc Tryz.prog w base spare held 26 v d p) : ∃ b : Bt, v = b.val ∧ BtIn w w.heap.size b ∧ (Rows.uptoBulk d ≤ 1048576 → BtOk b) ∧ b.l.length ≤ Rows.uptoBulk d := by
  obtain ⟨cs, rfl, hsz⟩ := okWide_struct Tryz.underlying26 hv
  obtain ⟨fuel, hf⟩ := h
  obtain ⟨e, he, hok⟩ := trod_batch hf
  refine ⟨e, ?_, hok⟩
  obtain ⟨l⟩ := cs
  simp only [Value.cells] at he
  unfold Bt.val
  rw [show l = e.cells from by simpa using he]
  rfl
set_option maxRecDepth 100000 in
theorem trod_merger {fuel : Nat} {cs : List Value} {x : DataW H × List MemPlace} (h : DataW.trod enc Tryz.prog w base spare held fuel 43 cs = some x) : ∃ m : Mg, cs = m.cells ∧ MgIn w w.heap.size m ∧ (Rows.uptoBulk x.1 ≤ 1048576 → MgOk m) ∧ m.a.length + m.b.length + m.o.length ≤ Rows.uptoBulk x.1 := by
  obtain ⟨xs, n, _, hx, hlen, hxs, hf⟩ := DataW.trod_struct Tryz.underlying43 h
  have hc : Tryz.prog.cellsOf 43 = 6 := by kernel_rfl
  have hc0 : Tryz.prog.cellsOf 22 = 1 := by kernel_rfl
  have hc1 : Tryz.prog.cellsOf 24 = 1 := by kernel_rfl
  have hc2 : Tryz.prog.cellsOf 3 = 1 := by kernel_rfl
  rw [hc] at hlen
  match cs, hlen with
  | [c0, c1, c2, c3, c4, c5], _ =>
    have h0 := hf 0 _ rfl
    have h1 := hf 1 _ rfl
    have h2 := hf 2 _ rfl
    have h3 := hf 3 _ rfl
    have h4 := hf 4 _ rfl
    have h5 := hf 5 _ rfl
    match xs, hxs with
    | [y0, y1, y2, y3, y4, y5], _ =>
      simp only [hc0, hc1, hc2, List.drop_zero, List.take_succ_cons, List.take_zero, List.drop_succ_cons, List.getElem?_cons_zero, List.getElem?_cons_succ] at h0 h1 h2 h3 h4 h5
      obtain ⟨⟨A0, k0, l0⟩, e0, g0, m0, i0, o0, n0⟩ := open_upsC h0
      obtain ⟨⟨A1, k1, l1⟩, e1, g1, m1, i1, o1, n1⟩ := open_upsC h1
      obtain ⟨n2, e2, _, w2⟩ := DataW.trod_int Tryz.underlying3 h2
      obtain ⟨n3, e3, _, w3⟩ := DataW.trod_int Tryz.underlying3 h3
      obtain ⟨A4, k4, l4, e4, g4, m4, i4, n4⟩ := open_timesC h4
      obtain ⟨⟨A5, k5, l5⟩, e5, g5, m5, i5, o5, n5⟩ := open_upsC h5
      obtain rfl := (List.cons.inj e0).1
      obtain rfl := (List.cons.inj e1).1
      obtain rfl := (List.cons.inj e2).1
      obtain rfl := (List.cons.inj e3).1
      obtain rfl := (List.cons.inj e4).1
      obtain rfl := (List.cons.inj e5).1
      have hM : Rows.uptoBulk x.1 = Rows.uptoBulk y0.1 + (Rows.uptoBulk y1.1 + (Rows.uptoBulk y2.1 + (Rows.uptoBulk y3.1 + (Rows.uptoBulk y4.1 + (Rows.uptoBulk y5.1 + 0))))) + 1 := by
        rw [hx]
        simp only [List.map_cons, List.map_nil, Rows.uptoBulk, Rows.uptoBulkAll]
      have n0 : l0.length + 1 ≤ Rows.uptoBulk y0.1 := n0
      have n1 : l1.length + 1 ≤ Rows.uptoBulk y1.1 := n1
      have n5 : l5.length + 1 ≤ Rows.uptoBulk y5.1 := n5
      refine ⟨⟨A0, k0, l0, A1, k1, l1, n2, n3, A4, k4, l4, A5, k5, l5⟩, rfl, ⟨i0, i1, i4, i5⟩, fun hb => ⟨⟨?_, o0 (by omega)⟩, ⟨?_, o1 (by omega)⟩, ⟨?_, g4, m4⟩, ⟨?_, o5 (by omega)⟩, wf_i64 w2, wf_i64 w3⟩, ?_⟩
      · show l0.length ≤ _; omega
      · show l1.length ≤ _; omega
      · show l4.length ≤ _; omega
      · show l5.length ≤ _; omega
      · show l0.length + l1.length + l5.length ≤ _; omega
theorem open_merger {v : Value} {d : DataW H} {p : List MemPlace} {r : Reach} {b0 : Nat} (hv : Value.okWide Tryz.prog w r b0 43 v) (h : DataW.Trod enc Tryz.prog w base spare held 43 v d p) : ∃ m : Mg, v = m.val ∧ MgIn w w.heap.size m ∧ (Rows.uptoBulk d ≤ 1048576 → MgOk m) ∧ m.a.length + m.b.length + m.o.length ≤ Rows.uptoBulk d := by
  obtain ⟨cs, rfl, hsz⟩ := okWide_struct Tryz.underlying43 hv
  obtain ⟨fuel, hf⟩ := h
  obtain ⟨e, he, hok⟩ := trod_merger hf
  refine ⟨e, ?_, hok⟩
  obtain ⟨l⟩ := cs
  simp only [Value.cells] at he
  unfold Mg.val
  rw [show l = e.cells from by simpa using he]
  rfl
end
end Go.Proofs.YteiacpfnfolkkaaGreat
