/- Encode, by the reference. -/
import Derived.Test.YthcoobennehkfaaVEnc
namespace Go.Proofs.Ythcoobennehkfaa
open Go Go.RowKit

set_option maxRecDepth 100000 in
set_option maxHeartbeats 3200000 in
theorem refBytes_any (A : Option Addr) (c : Nat) (l : List Vl) (w : World) (hl : Vals w w.heap.size A l) (h8 : l.length ≤ 8) (hr : l.all Vl.right = true) (hok : ∀ v ∈ l, VOk v) :
    Calls Try.prog 48 #[.slice A l.length c] w fun e w' => e = .returned (.string ⟨(rowB l).toArray⟩) ∧ Below w.heap.size w w' := by
  have Hl := Lib.hid (And.intro hl hok)
  have hlen := rows_len hr hok
  have hle := enc_len10 (n := l.length) (by omega)
  have HE := Lib.hid hr
  have hcount := fun W => Lib.hid (refCount_any (l.length : Int) W (by omega) (by omega))
  have hnum := fun n W h0 h1 => Lib.hid (refNumber_any n W h0 h1)
  have htxt := fun s W h => Lib.hid (refText_any s W h)
  rw [Int.toNat_natCast] at hcount
  clear hl hok hr
  go_enter Try.func48, Try.ntmps48
  go_wp2_with fail
  refine (hcount _).out.mono ?_
  rintro e w1 ⟨rfl, b1⟩
  have B1 := Lib.hid b1
  clear b1 hcount
  go_wp2_with fail
  go_loopw [3, 12] (fun s i wr => ∃ k : Nat, i = .int .i64 (k : Int) ∧ k ≤ l.length ∧ s = .string ⟨(enc l.length ++ (l.take k).flatMap vB).toArray⟩ ∧ Below w.heap.size w wr)
    (fun _ i _ => l.length - (intOf i).toNat)
  case atStart => exact ⟨0, rfl, by omega, by simp, B1.out⟩
  case round =>
    obtain ⟨k, rfl, hk, rfl, hb⟩ := hrel
    by_cases hlt : k < l.length
    · have hx : l[k]? = some l[k] := List.getElem?_eq_getElem hlt
      obtain ⟨b, o, rfl, hB, hl⟩ := Hl.out.1 (by omega)
      obtain ⟨c0, c1, c2⟩ := (hl k _ hx).past hb hB
      obtain ⟨o1, o2, o3⟩ := Hl.out.2 _ (List.mem_of_getElem? hx)
      have hsn := flatB_snoc hx
      have hrv : l[k].right = true := List.all_eq_true.1 HE.out _ (List.mem_of_getElem? hx)
      have htl : ((l.take k).flatMap vB).length ≤ 80 * k := by
        have h1 : (l.take k).all Vl.right = true := List.all_eq_true.2 fun v hv => List.all_eq_true.1 HE.out v (List.mem_of_mem_take hv)
        have h2 := rows_len h1 fun v hv => Hl.out.2 v (List.mem_of_mem_take hv)
        rw [List.length_take, Nat.min_eq_left (by omega)] at h2
        exact h2
      generalize l[k] = v at *
      obtain ⟨pre, hpre⟩ : ∃ p, enc l.length ++ (l.take k).flatMap vB = p := ⟨_, rfl⟩
      have hpl : pre.length ≤ 1000 := by rw [← hpre, List.length_append]; omega
      have hps := sizeL pre
      rw [hpre]
      have HH := Lib.hid (And.intro hb (And.intro hsn hpre))
      clear hb hx hl hsn hpre
      obtain ⟨t, n, s⟩ := v
      unfold Vl.right at hrv
      cases t
      · clear hrv
        have hle' := enc_len10 (zig_lt o2 o3)
        have hes := sizeL (enc (zig n))
        go_wp2_with fail
        clear c0 c1 c2
        refine (hnum n _ o2 o3).out.mono ?_
        rintro e w5 ⟨rfl, b5⟩
        have H5 := Lib.hid b5
        clear b5
        go_wp2_with fail
        go_roundw
        case rel =>
          obtain ⟨hb, hsn, hpre⟩ := HH.out
          refine ⟨k + 1, by go_num, by omega, ?_, (hb.alloc hb.size _).trans (H5.out.mono (by have := hb.size; simp; omega))⟩
          rw [hsn, ← List.append_assoc, hpre, show (⟨#[0]⟩ : ByteArray) = ⟨[(0 : UInt8)].toArray⟩ from rfl, str_app, str_app]
          rfl
        case measure => simp [intOf]; omega
      · simp only [if_true, Bool.and_eq_true, decide_eq_true_eq] at hrv
        obtain ⟨_, hs64⟩ := hrv
        have hss : s.data.toList.length = s.size := len_of s
        have hle' := txt_len (l := s.data.toList) (by omega)
        have hes := sizeL (txt s.data.toList)
        go_wp2_with fail
        clear c0 c1 c2
        refine (htxt s _ (by omega)).out.mono ?_
        rintro e w5 ⟨rfl, b5⟩
        have H5 := Lib.hid b5
        clear b5
        go_wp2_with fail
        go_roundw
        case rel =>
          obtain ⟨hb, hsn, hpre⟩ := HH.out
          refine ⟨k + 1, by go_num, by omega, ?_, (hb.alloc hb.size _).trans (H5.out.mono (by have := hb.size; simp; omega))⟩
          rw [hsn, ← List.append_assoc, hpre, show (⟨#[1]⟩ : ByteArray) = ⟨[(1 : UInt8)].toArray⟩ from rfl, str_app, str_app]
          rfl
        case measure => simp [intOf]; omega
    · have hk2 : k = l.length := by omega
      subst hk2
      rw [List.take_length]
      have HH := Lib.hid hb
      clear hb
      go_wp2_with fail
      go_ret
      exact ⟨rfl, HH.out⟩
set_option maxRecDepth 100000 in
set_option maxHeartbeats 3200000 in
theorem refEncode_any (A : Option Addr) (c : Nat) (l : List Vl) (w : World) (hl : Vals w w.heap.size A l) (hn : l.length ≤ maxLen) (hok : ∀ v ∈ l, VOk v) :
    Calls Try.prog 20 #[.slice A l.length c] w fun e w' => e = .returned (.tuple #[.string ⟨(encS l).toArray⟩, .int .i64 (chkRow l)]) ∧ Below w.heap.size w w' := by
  have hchk := Lib.hid (vrefCheck_any A c l w hl hn (fun v hv => (hok v hv).1))
  rcases chk_case' l with ⟨hz, hr, h8⟩ | hz
  · have hE : encS l = rowB l := by unfold encS; rw [if_pos hz]
    rw [hz] at hchk ⊢
    rw [hE]
    have hby := fun W h => Lib.hid (refBytes_any A c l W h h8 hr hok)
    have Hl := Lib.hid hl
    clear hl hok hz hr hE
    generalize rowB l = r at *
    go_enter Try.func20, Try.ntmps20
    go_wp2_with fail
    refine hchk.out.mono ?_
    rintro e w1 ⟨rfl, b1⟩
    have B1 := Lib.hid b1
    clear b1
    go_wp2_with fail
    refine (hby _ (vals_keep Hl.out B1.out)).out.mono ?_
    rintro e w2 ⟨rfl, b2⟩
    go_wp2_with fail
    go_ret2
    exact ⟨rfl, belows B1.out b2⟩
  · have hE : encS l = [] := by unfold encS; rw [if_neg (by omega)]
    rw [hz] at hchk ⊢
    rw [hE]
    clear hl hok hz hE
    go_enter Try.func20, Try.ntmps20
    go_wp2_with fail
    refine hchk.out.mono ?_
    rintro e w1 ⟨rfl, b1⟩
    go_wp2_with fail
    go_ret2
    exact ⟨rfl, b1⟩
end Go.Proofs.Ythcoobennehkfaa
