/- Taking a row, by the reference. -/
import Derived.Test.YthcoobennehkfaaVRefOne
namespace Go.Proofs.Ythcoobennehkfaa
open Go Go.RowKit

def takeQ : Nat → List UInt8 → Option (List Vl × List UInt8)
  | 0, s => some ([], s)
  | n + 1, s => match takeQ n s with
    | none => none
    | some (l, r) => match oneR r with
      | none => none
      | some (v, r') => some (l ++ [v], r')
theorem takeQ_is : ∀ (n : Nat) (s : List UInt8), takeQ n s = (takeS n s).bind fun x => if x.1.all Vl.right then some x else none
  | 0, s => rfl
  | n + 1, s => by
    unfold takeQ takeS
    rw [takeQ_is n s]
    cases h1 : takeS n s with
    | none => rfl
    | some x =>
      obtain ⟨l, r⟩ := x
      simp only [Option.bind_some]
      cases h2 : oneS r with
      | none =>
        have ho : oneR r = none := by unfold oneR; rw [h2]
        by_cases ha : l.all Vl.right = true
        · rw [if_pos ha]; simp only [ho]; rfl
        · rw [if_neg ha]; rfl
      | some y =>
        obtain ⟨v, r'⟩ := y
        simp only [Option.bind_some, List.all_append, List.all_cons, List.all_nil, Bool.and_true]
        by_cases ha : l.all Vl.right = true
        · rw [if_pos ha]
          by_cases hv : v.right = true
          · have ho : oneR r = some (v, r') := by unfold oneR; rw [h2]; simp only [hv, if_true]
            simp only [ho, ha, hv, Bool.and_self, if_true]
          · have ho : oneR r = none := by unfold oneR; rw [h2]; simp [hv]
            simp [ho, ha, hv]
        · simp [ha]
theorem takeQ_len {n : Nat} {s : List UInt8} {l : List Vl} {r : List UInt8} (h : takeQ n s = some (l, r)) : takeS n s = some (l, r) ∧ l.all Vl.right = true := by
  rw [takeQ_is] at h
  cases h1 : takeS n s with
  | none => rw [h1] at h; cases h
  | some x =>
    rw [h1] at h
    simp only [Option.bind_some] at h
    split at h
    · rename_i ha
      simp only [Option.some.injEq] at h
      subst h
      exact ⟨rfl, ha⟩
    · cases h
theorem takeQ_fell {s : List UInt8} : ∀ {k n : Nat}, k ≤ n → takeQ k s = none → takeQ n s = none
  | k, 0, h, e => by obtain rfl : k = 0 := by omega
                     exact e
  | k, n + 1, h, e => by
    by_cases hk : k = n + 1
    · subst hk; exact e
    · unfold takeQ
      rw [takeQ_fell (show k ≤ n by omega) e]
theorem takeQ_next {R : List UInt8} {k : Nat} {l : List Vl} {r r' : List UInt8} {x : Vl} (h : takeQ k R = some (l, r)) (h1 : oneR r = some (x, r')) : takeQ (k + 1) R = some (l ++ [x], r') := by
  unfold takeQ; rw [h]; simp only [h1]
theorem takeQ_stop {R : List UInt8} {k : Nat} {l : List Vl} {r : List UInt8} (h : takeQ k R = some (l, r)) (h1 : oneR r = none) : takeQ (k + 1) R = none := by
  unfold takeQ; rw [h]; simp only [h1]
theorem takeR_q {s R : List UInt8} {n : Nat} (hq : tc 0 0 s = (n, R, 0)) (h8 : n ≤ 8) : takeR s = takeQ n R := by
  rw [takeQ_is]
  cases h : takeS n R with
  | none => rw [takeR_fell hq h]; rfl
  | some x => rw [takeR_is hq h8 h]; rfl
set_option maxRecDepth 100000 in
set_option maxHeartbeats 3200000 in
theorem refTake_any (s : ByteArray) (w : World) (hs : s.size ≤ maxLen) :
    Calls Try.prog 22 #[.string s] w (TakePost (takeR s.data.toList) w) := by
  have hn := Lib.hid (refTakeCount_any s w hs)
  have hlen := rest_len (s := s.data.toList)
  obtain ⟨⟨n, R, y⟩, hq⟩ : ∃ q, tc 0 0 s.data.toList = q := ⟨_, rfl⟩
  rw [hq] at hn hlen
  rw [len_of] at hlen
  unfold triple at hn
  dsimp only at hn hlen
  have HT := Lib.hid (And.intro hq (Nat.le_trans hlen hs))
  clear hlen hq hs
  obtain ⟨i0, hi, hz0, hz1, hz2⟩ := info_parts infoVl'
  have hU := Try.underlying24
  by_cases h1 : y = 0 ∧ n ≤ 8
  · obtain ⟨rfl, h8⟩ := h1
    have t2 : decide ((8 : Int) < (n : Int)) = false := by simp; omega
    have hR := takeR_q HT.out.1 h8
    have HR := Lib.hid hR
    clear hR
    go_enter Try.func22, Try.ntmps22
    go_wp2_with fail
    refine hn.out.mono ?_
    rintro e w1 ⟨rfl, b1⟩
    have hsz := b1.size
    have H1 := Lib.hid b1
    clear b1 hn
    go_wp2_with fail
    go_loopw [6, 8, 9] (fun rs v i wr => ∃ k : Nat, i = .int .u64 (k : Int) ∧ k ≤ n ∧ ∃ (l : List Vl) (r : List UInt8), rs = .string ⟨r.toArray⟩ ∧ takeQ k R = some (l, r) ∧ wr.ownsRow w.heap.size 23 3 v k (l.flatMap Vl.cells) ∧ Below w.heap.size w wr)
      (fun _ _ i _ => n - (intOf i).toNat)
    case atStart => exact ⟨0, rfl, by omega, [], R, rfl, rfl, World.ownsRow_nil _ _ _ _, H1.out⟩
    case round =>
      obtain ⟨k, rfl, hk, l, r, rfl, ht, ho, hb⟩ := hrel
      by_cases hlt : k < n
      · have hsr : (⟨r.toArray⟩ : ByteArray).size ≤ maxLen := by rw [sizeL]; exact Nat.le_trans (takeS_size (takeQ_len ht).1 HT.out.2) HT.out.2
        have hv := refOne_any ⟨r.toArray⟩ wr hsr
        unfold OnePost at hv
        rw [show (⟨r.toArray⟩ : ByteArray).data.toList = r from rfl] at hv
        have HV := Lib.hid hv
        have HH := Lib.hid (And.intro ht (And.intro ho hb))
        clear hv hsr ht ho hb
        go_wp2_with fail
        refine HV.out.mono ?_
        rintro e w3 ⟨⟨x, r', b, rfl, hor⟩, b3⟩
        obtain ⟨ht, ho, hb⟩ := HH.out
        have hb3 := hb.trans (b3.mono hb.size)
        have hown := own_below ho b3
        have H3 := Lib.hid (And.intro hown (And.intro hb3 ht))
        have hs3 := hb3.size
        clear hown hb3 ht ho hb HV b3
        rcases hor with ⟨hO, rfl⟩ | ⟨hO, rfl⟩
        · have HO := Lib.hid hO
          clear hO
          go_wp2_with (at_builtin; go_loud (refine wpList_push _ rfl _ _ 24 rfl w.heap.size 23 i0 _ 3 32 hU hi hz0 hz1 hz2 rfl (by decide) _ _ _ rfl (H3.out.1.alloc (.cells #[.bool x.t, .int .i64 x.n, .string x.s] 23)) #[.bool x.t, .int .i64 x.n, .string x.s] ?cx rfl ?c1 ?c2 ?c3 ?c4 ?_))
          case cx => exact congrArg (fun k => Value.slice (some ⟨k, 0, none⟩) 1 1) (show w3.heap.size + 1 = (w3.alloc _).heap.size by simp)
          case c1 => exact ⟨rfl, rfl, rfl⟩
          case c2 => unfold maxLen; omega
          case c3 => omega
          case c4 => exact Nat.le_trans hs3 (by simp)
          intro v' w' ho' hb' _ _
          have H4 := Lib.hid (And.intro ho' hb')
          clear ho' hb'
          go_wp2_with fail
          go_roundw
          case rel =>
            refine ⟨k + 1, by go_num, by omega, l ++ [x], r', rfl, takeQ_next H3.out.2.2 HO.out, ?_, (H3.out.2.1.alloc hs3 _).trans H4.out.2⟩
            rw [List.flatMap_append]
            exact H4.out.1
          case measure => simp [intOf]; omega
        · have HO := Lib.hid hO
          clear hO
          go_wp2_with fail
          go_ret3
          exact take_none (by rw [HR.out]; exact takeQ_fell hlt (takeQ_stop H3.out.2.2 HO.out)) (H3.out.2.1.alloc hs3 _)
      · have hk3 : k = n := by omega
        subst hk3
        have H3 := Lib.hid (And.intro ho (And.intro hb ht))
        clear ho hb ht
        go_wp2_with fail
        go_ret3
        obtain ⟨ho, hb, ht⟩ := H3.out
        rw [HR.out, ht]
        refine ⟨_, rfl, ?_, hb⟩
        unfold rowOf
        dsimp only
        rw [takeS_len (takeQ_len ht).1]
        exact ho
  · have hno := takeR_no HT.out.1 h1
    have HN := Lib.hid hno
    by_cases hy : y = 0
    · subst hy
      have t2 : decide ((8 : Int) < (n : Int)) = true := by simp; omega
      clear h1 hno
      go_enter Try.func22, Try.ntmps22
      go_wp2_with fail
      refine hn.out.mono ?_
      rintro e w1 ⟨rfl, b1⟩
      have H1 := Lib.hid b1
      clear b1 hn
      go_wp2_with fail
      go_ret3
      exact take_none HN.out H1.out
    · have ty : (y == 0) = false := by simpa using hy
      have ty' : (y != 0) = true := by simpa using hy
      clear h1 hno
      go_enter Try.func22, Try.ntmps22
      go_wp2_with fail
      refine hn.out.mono ?_
      rintro e w1 ⟨rfl, b1⟩
      have H1 := Lib.hid b1
      clear b1 hn
      go_wp2_with fail
      go_ret3
      exact take_none HN.out H1.out
end Go.Proofs.Ythcoobennehkfaa
