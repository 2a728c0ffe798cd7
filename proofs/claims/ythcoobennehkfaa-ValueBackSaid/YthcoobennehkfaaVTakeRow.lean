/- Taking a row, by the program. -/
import Derived.Test.YthcoobennehkfaaVTake
import Derived.Test.YthcoobennehkfaaTakeCount
import Derived.Test.YthcoobennehkfaaVCols
namespace Go.Proofs.Ythcoobennehkfaa
open Go Go.RowKit

def rowOf (o : Option (List Vl × List UInt8)) : List Vl := match o with | none => [] | some x => x.1
def restOf (o : Option (List Vl × List UInt8)) : List UInt8 := match o with | none => [] | some x => x.2
def whyOf (o : Option (List Vl × List UInt8)) : Int := match o with | none => 4 | some _ => 0
def TakePost (o : Option (List Vl × List UInt8)) (w : World) (e : Ending) (w' : World) : Prop :=
  ∃ v, e = .returned (.tuple #[v, .string ⟨(restOf o).toArray⟩, .int .i64 (whyOf o)]) ∧ w'.ownsRow w.heap.size 23 3 v (rowOf o).length ((rowOf o).flatMap Vl.cells) ∧ Below w.heap.size w w'
theorem take_none {o : Option (List Vl × List UInt8)} {w w' : World} (ho : o = none) (hb : Below w.heap.size w w') : TakePost o w (.returned (.tuple #[.slice none 0 0, .string ⟨#[]⟩, .int .i64 4])) w' := by
  subst ho
  exact ⟨_, rfl, World.ownsRow_nil _ _ _ _, hb⟩
/-- the values' loop: what is left of the bytes -/
theorem takeS_size {s : List UInt8} : ∀ {n : Nat} {l : List Vl} {r : List UInt8}, takeS n s = some (l, r) → s.length ≤ maxLen → r.length ≤ s.length
  | 0, l, r, h, _ => by
    simp [takeS] at h
    rw [h.2]; exact Nat.le_refl _
  | n + 1, l, r, h, hs => by
    unfold takeS at h
    cases h1 : takeS n s with
    | none => rw [h1] at h; cases h
    | some x =>
      obtain ⟨l1, r1⟩ := x
      rw [h1] at h
      simp only at h
      have hr := takeS_size h1 hs
      cases h2 : oneS r1 with
      | none => rw [h2] at h; cases h
      | some y =>
        obtain ⟨v, r2⟩ := y
        rw [h2] at h
        simp only [Option.some.injEq, Prod.mk.injEq] at h
        rw [← h.2]
        exact Nat.le_trans (oneS_ok h2 (Nat.le_trans hr hs)).2 hr
theorem takeS_fine {s : List UInt8} : ∀ {n : Nat} {l : List Vl} {r : List UInt8}, takeS n s = some (l, r) → s.length ≤ maxLen → ∀ v ∈ l, VOk v
  | 0, l, r, h, _ => by
    simp [takeS] at h
    rw [h.1]; intro v hv; cases hv
  | n + 1, l, r, h, hs => by
    unfold takeS at h
    cases h1 : takeS n s with
    | none => rw [h1] at h; cases h
    | some x =>
      obtain ⟨l1, r1⟩ := x
      rw [h1] at h
      simp only at h
      have hr := takeS_size h1 hs
      cases h2 : oneS r1 with
      | none => rw [h2] at h; cases h
      | some y =>
        obtain ⟨v, r2⟩ := y
        rw [h2] at h
        simp only [Option.some.injEq, Prod.mk.injEq] at h
        rw [← h.1]
        intro u hu
        rcases List.mem_append.1 hu with hu | hu
        · exact takeS_fine h1 hs u hu
        · rw [List.mem_singleton.1 hu]
          exact (oneS_ok h2 (Nat.le_trans hr hs)).1
theorem takeR_no {s R : List UInt8} {n : Nat} {y : Int} (hq : tc 0 0 s = (n, R, y)) (h : ¬ (y = 0 ∧ n ≤ 8)) : takeR s = none := by
  unfold takeR; rw [hq]; exact if_neg h
theorem takeR_fell {s R : List UInt8} {n : Nat} {y : Int} (hq : tc 0 0 s = (n, R, y)) (h : takeS n R = none) : takeR s = none := by
  unfold takeR; rw [hq]
  simp only [h]
  split <;> rfl
theorem takeR_is {s R : List UInt8} {n : Nat} {l : List Vl} {r : List UInt8} (hq : tc 0 0 s = (n, R, 0)) (h8 : n ≤ 8) (h : takeS n R = some (l, r)) : takeR s = if l.all Vl.right then some (l, r) else none := by
  unfold takeR; rw [hq]
  simp only [h]
  exact if_pos ⟨trivial, h8⟩
theorem takeS_next {R : List UInt8} {k : Nat} {l : List Vl} {r r' : List UInt8} {x : Vl} (h : takeS k R = some (l, r)) (h1 : oneS r = some (x, r')) : takeS (k + 1) R = some (l ++ [x], r') := by
  unfold takeS; rw [h]; simp only [h1]
theorem takeS_stop {R : List UInt8} {k : Nat} {l : List Vl} {r : List UInt8} (h : takeS k R = some (l, r)) (h1 : oneS r = none) : takeS (k + 1) R = none := by
  unfold takeS; rw [h]; simp only [h1]
def zv : Vl := ⟨false, 0, ⟨#[]⟩⟩
set_option maxRecDepth 100000 in
set_option maxHeartbeats 3200000 in
theorem take_any (s : ByteArray) (w : World) (hs : s.size ≤ maxLen) :
    Calls Try.prog 21 #[.string s] w (TakePost (takeR s.data.toList) w) := by
  have hn := Lib.hid (takeCount_any s w hs)
  have hlen := rest_len (s := s.data.toList)
  obtain ⟨⟨n, R, y⟩, hq⟩ : ∃ q, tc 0 0 s.data.toList = q := ⟨_, rfl⟩
  rw [hq] at hn hlen
  rw [len_of] at hlen
  unfold triple at hn
  dsimp only at hn hlen
  have HT := Lib.hid (And.intro hq (Nat.le_trans hlen hs))
  clear hlen hq hs
  by_cases h1 : y = 0 ∧ n ≤ 8
  · obtain ⟨rfl, h8⟩ := h1
    have t2 : decide ((8 : Int) < (n : Int)) = false := by simp; omega
    have hmk := Lib.hid (made_cells n h8)
    go_enter Try.func21, Try.ntmps21
    go_wp2_with fail
    refine hn.out.mono ?_
    rintro e w1 ⟨rfl, b1⟩
    have hsz := b1.size
    have H1 := Lib.hid b1
    clear b1 hn
    obtain ⟨i0, hi, hz0, hz1, hz2⟩ := info_parts infoVl'
    go_wp2_with (refine wpList_make_full _ rfl (.tmp 23) (.tmp 23) 24 rfl w.heap.size 23 i0 _ 3 Try.underlying24 hi hz0 hz1 .u64 .u64 _ _ n rfl rfl rfl rfl ?c1 ?c2 ?c3 ?_)
    case c1 => rw [hz2]; omega
    case c2 => unfold maxLen; omega
    case c3 => exact hsz
    intro w2 o2 g2
    have o2' : w2.ownsRow w.heap.size 23 3 (.slice (some ⟨w1.heap.size, 0, none⟩) n n) n (madeCells #[Value.bool false, Value.int IntKind.i64 0, Value.string ⟨#[]⟩] (n * 3)).toList := o2
    have ho2 := own_made o2'
    have hb2 : Below w.heap.size w w2 := H1.out.grown g2 H1.out.size (fun k hk => by simp at hk)
    have H2 := Lib.hid (And.intro (own_of ho2 hmk.out) hb2)
    have H8 := Lib.hid h8
    clear o2 o2' g2 ho2 hb2 hi hz0 hz1 hz2 hmk h8
    go_wp2_with fail
    go_loopw [6, 27] (fun rs i wr => ∃ k : Nat, i = .int .i64 (k : Int) ∧ k ≤ n ∧ ∃ (l : List Vl) (r : List UInt8), rs = .string ⟨r.toArray⟩ ∧ takeS k R = some (l, r) ∧ Own wr w1.heap.size 23 ((l ++ List.replicate (n - k) zv).flatMap Vl.cells) ∧ Below w.heap.size w wr)
      (fun _ i _ => n - (intOf i).toNat)
    case atStart => exact ⟨0, rfl, by omega, [], R, rfl, rfl, H2.out.1, H2.out.2⟩
    case round =>
      obtain ⟨k, rfl, hk, l, r, rfl, ht, ho, hb⟩ := hrel
      by_cases hlt : k < n
      · have hsr : (⟨r.toArray⟩ : ByteArray).size ≤ maxLen := by rw [sizeL]; exact Nat.le_trans (takeS_size ht HT.out.2) HT.out.2
        have hv := takeValue_any ⟨r.toArray⟩ wr hsr
        unfold TvPost Vl.val at hv
        rw [show (⟨r.toArray⟩ : ByteArray).data.toList = r from rfl] at hv
        have HV := Lib.hid hv
        have HH := Lib.hid (And.intro ht (And.intro ho hb))
        clear hv hsr ht ho hb
        go_wp2_with fail
        refine HV.out.mono ?_
        rintro e w3 ⟨⟨x, r', y, rfl, hor⟩, b3⟩
        obtain ⟨ht, ho, hb⟩ := HH.out
        have ho3 := ho.past b3 ho.inside
        have hb3 := hb.trans (b3.mono hb.size)
        have hrp : List.replicate (n - k) zv = zv :: List.replicate (n - (k + 1)) zv := by
          rw [show n - k = (n - (k + 1)) + 1 by omega]; rfl
        have hlen := takeS_len ht
        rw [hrp] at ho3
        have s0 := ho3.open_ (k * 3)
        have s1 := ho3.open_ (k * 3 + 1)
        have s2 := ho3.open_ (k * 3 + 2)
        have hg := ho3.inside
        obtain ⟨v0, z0⟩ : ∃ v, w3.cell? ⟨w1.heap.size, k * 3, none⟩ = some v := ⟨_, (ho3.at_ _).trans (List.getElem?_eq_getElem (by rw [flat_size (size := 3) (fun _ => rfl)]; simp; omega))⟩
        obtain ⟨v1, z1⟩ : ∃ v, w3.cell? ⟨w1.heap.size, k * 3 + 1, none⟩ = some v := ⟨_, (ho3.at_ _).trans (List.getElem?_eq_getElem (by rw [flat_size (size := 3) (fun _ => rfl)]; simp; omega))⟩
        obtain ⟨v2, z2⟩ : ∃ v, w3.cell? ⟨w1.heap.size, k * 3 + 2, none⟩ = some v := ⟨_, (ho3.at_ _).trans (List.getElem?_eq_getElem (by rw [flat_size (size := 3) (fun _ => rfl)]; simp; omega))⟩
        have H3 := Lib.hid (And.intro ho3 (And.intro hb3 (And.intro hlen ht)))
        clear ho3 hb3 hlen ht ho hb hrp HV b3
        rcases hor with ⟨hO, rfl⟩ | ⟨hO, hy⟩
        · have HO := Lib.hid hO
          have h8 := H8.out
          clear hO
          go_wp2_with fail
          go_roundw
          case rel =>
            obtain ⟨ho, hb, hlen, ht⟩ := H3.out
            refine ⟨k + 1, by go_num, by omega, l ++ [x], r', rfl, takeS_next ht HO.out, own_of (((ho.set_ (k * 3) _).set_ (k * 3 + 1) _).set_ (k * 3 + 2) _) ?_, ((hb.setCell hsz _).setCell hsz _).setCell hsz _⟩
            rw [set_cells _ _ _ _ k hlen, List.append_assoc]
            rfl
          case measure => simp [intOf]; omega
        · have HO := Lib.hid (And.intro hO hy)
          have ty : (y == 0) = false := by simpa using hy
          have ty' : (y != 0) = true := by simpa using hy
          clear hO hy
          go_wp2_with fail
          go_ret3
          obtain ⟨ho, hb, hlen, ht⟩ := H3.out
          exact take_none (takeR_fell HT.out.1 (takeS_fell hlt (takeS_stop ht HO.out.1))) (((hb.setCell hsz _).setCell hsz _).setCell hsz _)
      · have hk3 : k = n := by omega
        subst hk3
        rw [Nat.sub_self, List.replicate_zero, List.append_nil] at ho
        have hlen := takeS_len ht
        have h8 := H8.out
        have hrow := own_row ho hsz hlen (by unfold maxLen; omega)
        have hvals : Vals wr wr.heap.size (some ⟨w1.heap.size, 0, none⟩) l := by
          obtain ⟨A, c, e, _, _, hv⟩ := vals_of_own hlen.symm hrow
          simp only [Value.slice.injEq] at e
          rw [e.1]; exact hv
        have hchk := vcheck_any _ k l wr hvals (by unfold maxLen; omega) (fun v hv => (takeS_fine ht HT.out.2 v hv).1)
        rw [hlen] at hchk
        have HC := Lib.hid hchk
        have hco := chk_cases l
        have H3 := Lib.hid (And.intro ho (And.intro hb (And.intro hlen ht)))
        clear hchk hvals hrow hlen ho hb ht h8
        rcases hco with hz | hz
        · rw [hz] at HC
          have HZ := Lib.hid hz
          clear hz
          go_wp2_with fail
          refine HC.out.mono ?_
          rintro e w3 ⟨rfl, b3⟩
          have B3 := Lib.hid b3
          clear b3
          go_wp2_with fail
          go_ret3
          obtain ⟨ho, hb, hlen, ht⟩ := H3.out
          have hR : takeR s.data.toList = some (l, r) := by
            rw [takeR_is HT.out.1 H8.out ht]
            have := HZ.out
            unfold chkRow at this
            split at this
            · rename_i hc
              simp only [Bool.and_eq_true] at hc
              rw [if_pos hc.1]
            · cases this
          rw [hR]
          refine ⟨_, rfl, ?_, hb.trans (B3.out.mono hb.size)⟩
          unfold rowOf
          dsimp only
          rw [hlen]
          exact own_row (ho.past B3.out ho.inside) hsz hlen (by have := H8.out; unfold maxLen; omega)
        · rw [hz] at HC
          have HZ := Lib.hid hz
          clear hz
          go_wp2_with fail
          refine HC.out.mono ?_
          rintro e w3 ⟨rfl, b3⟩
          have B3 := Lib.hid b3
          clear b3
          go_wp2_with fail
          go_ret3
          obtain ⟨ho, hb, hlen, ht⟩ := H3.out
          refine take_none ?_ (hb.trans (B3.out.mono hb.size))
          rw [takeR_is HT.out.1 H8.out ht]
          have := HZ.out
          have h8 := H8.out
          unfold chkRow at this
          split at this
          · cases this
          · rename_i hc
            rw [if_neg]
            intro ha
            exact hc (by rw [ha, hlen]; simpa using h8)
  · have hno := takeR_no HT.out.1 h1
    have HN := Lib.hid hno
    by_cases hy : y = 0
    · subst hy
      have t2 : decide ((8 : Int) < (n : Int)) = true := by simp; omega
      clear h1 hno
      go_enter Try.func21, Try.ntmps21
      go_wp2_with fail
      refine hn.out.mono ?_
      rintro e w1 ⟨rfl, b1⟩
      have H1 := Lib.hid b1
      clear b1 hn
      go_wp2_with fail
      go_ret3
      exact take_none HN.out H1.out
    · have ty : (y == 0) = false := by simpa using hy
      have ty' : (y != 0) = true := by simpa using hy
      clear h1 hno
      go_enter Try.func21, Try.ntmps21
      go_wp2_with fail
      refine hn.out.mono ?_
      rintro e w1 ⟨rfl, b1⟩
      have H1 := Lib.hid b1
      clear b1 hn
      go_wp2_with fail
      go_ret3
      exact take_none HN.out H1.out
end Go.Proofs.Ythcoobennehkfaa
