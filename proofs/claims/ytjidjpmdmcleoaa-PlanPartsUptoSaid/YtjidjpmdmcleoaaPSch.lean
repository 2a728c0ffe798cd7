/- Whether schemas are valid; a copy of types. -/
import Derived.Test.YtjidjpmdmcleoaaPChk
import Derived.Laws.CopyOwn
namespace Go.Proofs.Ytjidjpmdmcleoaa
open Go Go.RowKit

set_option maxRecDepth 100000 in
set_option maxHeartbeats 1600000 in
theorem unknown_any (t : Int) (w : World) : Calls Try.prog 35 #[.int .u8 t] w fun x w' => x = .returned (.bool (badT t)) ∧ w = w' := by
  by_cases h1 : t = 1
  · have hb : badT t = false := by subst h1; rfl
    have t1 : (t != 1) = false := by simpa using h1
    rw [hb]
    clear h1 hb
    go_enter Try.func35, Try.ntmps35
    go_wp2_with fail
    go_ret
    exact ⟨rfl, rfl⟩
  · have t1 : (t != 1) = true := by simpa using h1
    by_cases h2 : t = 2
    · have hb : badT t = false := by subst h2; rfl
      have t2 : (t != 2) = false := by simpa using h2
      rw [hb]
      clear h1 h2 hb
      go_enter Try.func35, Try.ntmps35
      go_wp2_with fail
      go_ret
      exact ⟨rfl, rfl⟩
    · have t2 : (t != 2) = true := by simpa using h2
      have hb : badT t = true := by unfold badT; rw [t1, t2]; rfl
      rw [hb]
      clear h1 h2 hb
      go_enter Try.func35, Try.ntmps35
      go_wp2_with fail
      go_ret
      exact ⟨rfl, rfl⟩
theorem any_next {l : List Int} {k : Nat} {t : Int} (h : l[k]? = some t) : (l.take (k + 1)).any badT = ((l.take k).any badT || badT t) := by
  rw [List.take_add_one, h]; simp
theorem any_hit {l : List Int} {k : Nat} {t : Int} (h : l[k]? = some t) (hb : badT t = true) : l.any badT = true := List.any_eq_true.2 ⟨t, List.mem_of_getElem? h, hb⟩
set_option maxRecDepth 100000 in
set_option maxHeartbeats 3200000 in
theorem index_any (A : Option Addr) (c : Nat) (l : List Int) (w : World) (hl : Tys w w.heap.size A l) (hn : l.length ≤ maxLen) :
    Calls Try.prog 53 #[.slice A l.length c, .func (.func 35) #[] #[]] w fun x w' => ∃ r : Int, x = .returned (.int .i64 r) ∧ decide (0 ≤ r) = l.any badT ∧ Below w.heap.size w w' := by
  unfold maxLen at hn
  have Hl := Lib.hid hl
  have hu := fun t W => Lib.hid (unknown_any t W)
  clear hl
  go_enter Try.func53, Try.ntmps53
  go_wp2_with fail
  go_loopw [8] (fun i wr => ∃ k : Nat, i = .int .i64 (k : Int) ∧ k ≤ l.length ∧ Below w.heap.size w wr ∧ (l.take k).any badT = false)
    (fun i _ => l.length - (intOf i).toNat)
  case atStart => exact ⟨0, rfl, by omega, Below.refl _ _, rfl⟩
  case round =>
    obtain ⟨k, rfl, hk, hb, he⟩ := hrel
    by_cases hlt : k < l.length
    · have hx : l[k]? = some l[k] := List.getElem?_eq_getElem hlt
      obtain ⟨b, o, rfl, hB, hc⟩ := Hl.out (by omega)
      have c0 := (hb.cell (p := ⟨b, o + k, none⟩) hB).trans (hc k _ hx)
      have hnx := any_next hx
      have hit := any_hit hx
      generalize l[k] = t at *
      have hut := hu t
      have HH := Lib.hid (And.intro hb (And.intro he (And.intro hnx hit)))
      have q0 : (0 : Int) ≤ (k : Int) := by omega
      have q1 : (k : Int) < (l.length : Int) := by omega
      clear hb he hx hc hnx hit hu
      cases hbt : badT t with
      | true =>
        rw [hbt] at hut
        have HT := Lib.hid hbt
        clear hbt
        go_wp2_with fail
        refine (hut _).out.mono ?_
        rintro _ w2 ⟨rfl, rfl⟩
        go_wp2_with fail
        go_ret
        exact ⟨_, rfl, by rw [HH.out.2.2.2 HT.out]; simp, HH.out.1⟩
      | false =>
        rw [hbt] at hut
        have HT := Lib.hid hbt
        clear hbt
        go_wp2_with fail
        refine (hut _).out.mono ?_
        rintro _ w2 ⟨rfl, rfl⟩
        go_wp2_with fail
        go_roundw
        case rel => exact ⟨k + 1, by go_num, by omega, HH.out.1, by rw [HH.out.2.2.1, HH.out.2.1, HT.out]; rfl⟩
        case measure => simp [intOf]; omega
    · have hk2 : k = l.length := by omega
      subst hk2
      rw [List.take_length] at he
      have HH := Lib.hid (And.intro hb he)
      clear hb he
      go_wp2_with fail
      go_ret
      exact ⟨_, rfl, by rw [HH.out.2]; decide, HH.out.1⟩
set_option maxRecDepth 100000 in
set_option maxHeartbeats 1600000 in
theorem contains_any (A : Option Addr) (c : Nat) (l : List Int) (w : World) (hl : Tys w w.heap.size A l) (hn : l.length ≤ maxLen) :
    Calls Try.prog 34 #[.slice A l.length c, .func (.func 35) #[] #[]] w fun x w' => x = .returned (.bool (l.any badT)) ∧ Below w.heap.size w w' := by
  have hi := Lib.hid (index_any A c l w hl hn)
  clear hl hn
  generalize l.any badT = B at *
  go_enter Try.func34, Try.ntmps34
  go_wp2_with fail
  refine hi.out.mono ?_
  rintro _ w2 ⟨r, rfl, hr, b2⟩
  have H2 := Lib.hid b2
  clear b2
  go_wp2_with fail
  go_ret
  exact ⟨rfl, H2.out⟩
theorem chkS1_bad {s : List Int} : chkS1 s = (decide (s.length > 8) || s.any badT) := rfl
theorem anyS_next {L : List (Sl Int)} {k : Nat} {s : Sl Int} (h : L[k]? = some s) : ((L.take (k + 1)).map Sl.l).any chkS1 = (((L.take k).map Sl.l).any chkS1 || chkS1 s.l) := by
  rw [List.take_add_one, h]; simp
theorem anyS_hit {L : List (Sl Int)} {k : Nat} {s : Sl Int} (h : L[k]? = some s) (hb : chkS1 s.l = true) : (L.map Sl.l).any chkS1 = true := List.any_eq_true.2 ⟨s.l, List.mem_map_of_mem (List.mem_of_getElem? h), hb⟩
set_option maxRecDepth 100000 in
set_option maxHeartbeats 3200000 in
theorem chkS_any (A : Option Addr) (c : Nat) (L : List (Sl Int)) (w : World) (hl : LL 1 tcell w w.heap.size A L) (hn : ∀ s ∈ L, s.l.length ≤ maxLen) (hn2 : L.length ≤ maxLen) :
    Calls Try.prog 21 #[.slice A L.length c] w fun x w' => x = .returned (.int .i64 (chkS (L.map Sl.l))) ∧ Below w.heap.size w w' := by
  unfold maxLen at hn2
  have hC := Lib.hid (show chkS (L.map Sl.l) = if L.length > 8 then 4 else if (L.map Sl.l).any chkS1 = true then 4 else 0 by unfold chkS; rw [List.length_map])
  have Hl := Lib.hid (And.intro hl hn)
  have hcf := fun A c l W h1 h2 => Lib.hid (contains_any A c l W h1 h2)
  clear hl hn
  by_cases h8 : L.length > 8
  · have t1 : decide ((8 : Int) < (L.length : Int)) = true := by simp; omega
    have HR := Lib.hid (hC.out.trans (if_pos h8))
    clear h8 hC
    go_enter Try.func21, Try.ntmps21
    go_wp2_with fail
    go_ret
    exact ⟨ret_i64 HR.out.symm, Below.refl _ _⟩
  · have t1 : decide ((8 : Int) < (L.length : Int)) = false := by simp; omega
    have HR := Lib.hid (hC.out.trans (if_neg h8))
    clear h8 hC
    go_enter Try.func21, Try.ntmps21
    go_wp2_with fail
    go_loopw [10] (fun i wr => ∃ k : Nat, i = .int .i64 (k : Int) ∧ k ≤ L.length ∧ Below w.heap.size w wr ∧ ((L.take k).map Sl.l).any chkS1 = false)
      (fun i _ => L.length - (intOf i).toNat)
    case atStart => exact ⟨0, rfl, by omega, Below.refl _ _, rfl⟩
    case round =>
      obtain ⟨k, rfl, hk, hb, he⟩ := hrel
      by_cases hlt : k < L.length
      · have hx : L[k]? = some L[k] := List.getElem?_eq_getElem hlt
        obtain ⟨b, o, rfl, hB, hc, hs⟩ := Hl.out.1.at_ hx
        have c0 := (hb.cell (p := ⟨b, o + k, none⟩) hB).trans hc
        have hnx := anyS_next hx
        have hit := anyS_hit hx
        have hlen := Hl.out.2 _ (List.mem_of_getElem? hx)
        have hcall := hcf L[k].A L[k].c L[k].l wr (tys_lies.2 ((hs.past hb (Nat.le_refl _)).wide hb.size)) hlen
        generalize L[k] = s at *
        unfold maxLen at hlen
        have hsc : chkS1 s.l = (decide (s.l.length > 8) || s.l.any badT) := rfl
        have HH := Lib.hid (And.intro hb (And.intro he (And.intro hnx (And.intro hit hsc))))
        have q0 : (0 : Int) ≤ (k : Int) := by omega
        have q1 : (k : Int) < (L.length : Int) := by omega
        clear hb he hx hc hnx hit hcf hs hsc
        by_cases h8 : s.l.length > 8
        · have t2 : decide ((8 : Int) < (s.l.length : Int)) = true := by simp; omega
          have H8 := Lib.hid h8
          clear h8
          go_wp2_with fail
          go_ret
          have hbad : chkS1 s.l = true := by rw [HH.out.2.2.2.2]; simp [H8.out]
          exact ⟨ret_i64 (by rw [HR.out, HH.out.2.2.2.1 hbad]; rfl), HH.out.1⟩
        · have t2 : decide ((8 : Int) < (s.l.length : Int)) = false := by simp; omega
          have H8 := Lib.hid h8
          clear h8
          cases hB2 : s.l.any badT with
          | true =>
            rw [hB2] at hcall
            have HB2 := Lib.hid hB2
            clear hB2
            go_wp2_with fail
            refine hcall.out.mono ?_
            rintro _ w2 ⟨rfl, b2⟩
            have H2 := Lib.hid (HH.out.1.trans (b2.mono HH.out.1.size))
            clear b2
            go_wp2_with fail
            go_ret
            have hbad : chkS1 s.l = true := by rw [HH.out.2.2.2.2, HB2.out]; simp
            exact ⟨ret_i64 (by rw [HR.out, HH.out.2.2.2.1 hbad]; rfl), H2.out⟩
          | false =>
            rw [hB2] at hcall
            have HB2 := Lib.hid hB2
            clear hB2
            go_wp2_with fail
            refine hcall.out.mono ?_
            rintro _ w2 ⟨rfl, b2⟩
            have H2 := Lib.hid (HH.out.1.trans (b2.mono HH.out.1.size))
            clear b2
            go_wp2_with fail
            go_roundw
            case rel =>
              have hbad : chkS1 s.l = false := by rw [HH.out.2.2.2.2, HB2.out]; simp; have := H8.out; omega
              exact ⟨k + 1, by go_num, by omega, H2.out, by rw [HH.out.2.2.1, HH.out.2.1, hbad]; rfl⟩
            case measure => simp [intOf]; omega
      · have hk2 : k = L.length := by omega
        subst hk2
        rw [List.take_length] at he
        have HH := Lib.hid (And.intro hb he)
        clear hb he
        go_wp2_with fail
        go_ret
        exact ⟨ret_i64 (by rw [HR.out, HH.out.2]; rfl), HH.out.1⟩
end Go.Proofs.Ytjidjpmdmcleoaa
