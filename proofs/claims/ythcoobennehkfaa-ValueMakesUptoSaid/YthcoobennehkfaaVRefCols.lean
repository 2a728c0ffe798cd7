/- Cols, by the reference. -/
import Derived.Test.YthcoobennehkfaaVCols
namespace Go.Proofs.Ythcoobennehkfaa
open Go Go.RowKit

/-- where the reference's loop stands behind k columns: it goes on, or has found one that is not there -/
def ColsAt (l : List Vl) (cs : List Int) (base k : Nat) (y v : Value) (w : World) : Prop :=
  (y = .int .i64 0 ∧ (cs.take k).all (inR l.length) = true ∧ w.ownsRow base 23 3 v k (((cs.take k).map (pick l)).flatMap Vl.cells)) ∨ (y = .int .i64 1 ∧ cs.all (inR l.length) = false)
set_option maxRecDepth 100000 in
set_option maxHeartbeats 3200000 in
theorem refCols_any (A : Option Addr) (c : Nat) (l : List Vl) (A' : Option Addr) (c' : Nat) (cs : List Int) (w : World) (hl : Vals w w.heap.size A l) (hn : l.length ≤ maxLen) (hok : ∀ v ∈ l, VOk v) (hcs : Ints w w.heap.size A' cs) (hn' : cs.length ≤ 1048576) :
    Calls Try.prog 26 #[.slice A l.length c, .slice A' cs.length c'] w (ColsPost l cs w) := by
  have hchk := Lib.hid (vrefCheck_any A c l w hl hn (fun v hv => (hok v hv).1))
  have hco := chk_cases l
  unfold maxLen at hn
  have Hl := Lib.hid (And.intro hl hcs)
  clear hl hcs hok
  obtain ⟨i0, hi, hz0, hz1, hz2⟩ := info_parts infoVl'
  have hU := Try.underlying24
  rcases hco with hz | hz
  · rw [hz] at hchk
    have HZ := Lib.hid hz
    clear hz
    go_enter Try.func26, Try.ntmps26
    go_wp2_with fail
    refine hchk.out.mono ?_
    rintro e w1 ⟨rfl, b1⟩
    have H1 := Lib.hid b1
    clear b1 hchk
    go_wp2_with fail
    go_loopw [6, 7, 14] (fun y v i wr => ∃ k : Nat, i = .int .i64 (k : Int) ∧ k ≤ cs.length ∧ ColsAt l cs w.heap.size k y v wr ∧ Below w.heap.size w wr)
      (fun _ _ i _ => cs.length - (intOf i).toNat)
    case atStart => exact ⟨0, rfl, by omega, .inl ⟨rfl, rfl, World.ownsRow_nil _ _ _ _⟩, H1.out⟩
    case round =>
      obtain ⟨k, rfl, hk, hat, hb⟩ := hrel
      by_cases hlt : k < cs.length
      · have hx : cs[k]? = some cs[k] := List.getElem?_eq_getElem hlt
        obtain ⟨b, o, rfl, hB, hc⟩ := Hl.out.2 (by omega)
        have c0 := (hb.cell (p := ⟨b, o + k, none⟩) hB).trans (hc k _ hx)
        have hsn := fun n => inR_snoc (n := n) hx
        have hbad := fun n => inR_bad (n := n) hx
        have hmp : (cs.take (k + 1)).map (pick l) = (cs.take k).map (pick l) ++ [pick l cs[k]] := by rw [List.take_add_one, hx, List.map_append]; rfl
        rcases hat with ⟨rfl, ha, hown⟩ | ⟨rfl, ha⟩
        · by_cases hr : inR l.length cs[k] = true
          · obtain ⟨m, hm, hml⟩ : ∃ m : Nat, cs[k] = (m : Int) ∧ m < l.length := by
              unfold inR at hr
              simp only [Bool.and_eq_true, decide_eq_true_eq] at hr
              exact ⟨cs[k].toNat, by omega, by omega⟩
            have hpk : pick l cs[k] = l[m] := by unfold pick; rw [hm]; simp [hml]
            have hy : l[m]? = some l[m] := List.getElem?_eq_getElem hml
            obtain ⟨b', o', rfl, hB', hc'⟩ := Hl.out.1 (by omega)
            obtain ⟨d0, d1, d2⟩ := (hc' m _ hy).past hb hB'
            rw [hpk] at hmp
            rw [hm] at c0
            have t2 : decide ((l.length : Int) ≤ (m : Int)) = false := by simp; omega
            have t3 : decide (l.length ≤ m) = false := by simp; omega
            generalize l[m] = x at *
            have HH := Lib.hid (And.intro hb (And.intro hown (And.intro hmp (And.intro ha (And.intro hsn hr)))))
            clear hb hown hmp ha hsn hbad hr hpk hy hx hc hc' hm
            go_wp2_with (at_builtin; refine wpList_push _ rfl _ _ 24 rfl w.heap.size 23 i0 _ 3 32 hU hi hz0 hz1 hz2 rfl (by decide) _ _ _ rfl HH.out.2.1 #[.bool x.t, .int .i64 x.n, .string x.s] rfl rfl ?c1 ?c2 ?c3 ?c4 ?_)
            case c1 => exact ⟨rfl, rfl, rfl⟩
            case c2 => unfold maxLen; omega
            case c3 => omega
            case c4 => exact HH.out.1.size
            intro v' w' ho' hb' _ _
            have H2 := Lib.hid (And.intro ho' hb')
            clear ho' hb'
            go_wp2_with fail
            go_roundw
            case rel =>
              obtain ⟨hb, hown, hmp, ha, hsn, hr⟩ := HH.out
              refine ⟨k + 1, by go_num, by omega, .inl ⟨rfl, by rw [hsn, ha, hr]; rfl, ?_⟩, hb.trans H2.out.2⟩
              rw [hmp, List.flatMap_append, List.map_take]
              exact H2.out.1
            case measure => simp [intOf]; omega
          · have hr : inR l.length cs[k] = false := by simpa using hr
            have hall := hbad _ hr
            generalize cs[k] = x at *
            have HH := Lib.hid (And.intro hb (And.intro hall hr))
            have hrr := hr
            clear hb hown hmp ha hsn hbad hr hall hx hc
            by_cases h0 : x < 0
            · have t1 : decide (x < 0) = true := by simpa using h0
              clear h0 hrr
              go_wp2_with fail
              go_roundw
              case rel => exact ⟨k + 1, by go_num, by omega, .inr ⟨rfl, HH.out.2.1⟩, HH.out.1⟩
              case measure => simp [intOf]; omega
            · have t1 : decide (x < 0) = false := by simpa using h0
              have t2 : decide ((l.length : Int) ≤ x) = true := by unfold inR at hrr; simp at hrr; simp; omega
              clear h0 hrr
              go_wp2_with fail
              go_roundw
              case rel => exact ⟨k + 1, by go_num, by omega, .inr ⟨rfl, HH.out.2.1⟩, HH.out.1⟩
              case measure => simp [intOf]; omega
        · generalize cs[k] = x at *
          have HH := Lib.hid (And.intro hb ha)
          clear hb hmp ha hsn hbad hx hc
          go_wp2_with fail
          go_roundw
          case rel => exact ⟨k + 1, by go_num, by omega, .inr ⟨rfl, HH.out.2⟩, HH.out.1⟩
          case measure => simp [intOf]; omega
      · have hk2 : k = cs.length := by omega
        subst hk2
        rcases hat with ⟨rfl, ha, hown⟩ | ⟨rfl, ha⟩
        · rw [List.take_length] at ha hown
          have HH := Lib.hid (And.intro hb (And.intro ha hown))
          clear hb ha hown
          by_cases h8 : 8 < cs.length
          · have t1 : decide ((8 : Int) < (cs.length : Int)) = true := by simp; omega
            have H8 := Lib.hid h8
            clear h8
            go_wp2_with fail
            go_ret2
            exact cols_none (by have := H8.out; unfold colsE; rw [if_pos HZ.out, if_pos HH.out.2.1, if_neg (by omega)]) (by decide) HH.out.1
          · have t1 : decide ((8 : Int) < (cs.length : Int)) = false := by simp; omega
            have hE : colsE l cs = 0 := by unfold colsE; rw [if_pos HZ.out, if_pos HH.out.2.1, if_pos (by omega)]
            have hL : colsL l cs = cs.map (pick l) := by unfold colsL; rw [if_pos hE]
            have HE := Lib.hid (And.intro hE hL)
            clear h8 hE hL
            go_wp2_with fail
            go_ret2
            obtain ⟨hE, hL⟩ := HE.out
            refine ⟨_, by rw [hE]; rfl, ?_, HH.out.1⟩
            rw [hL, List.length_map]
            exact HH.out.2.2
        · have HH := Lib.hid (And.intro hb ha)
          clear hb ha
          go_wp2_with fail
          go_ret2
          exact cols_none (by unfold colsE; rw [if_pos HZ.out, if_neg (by rw [HH.out.2]; decide)]) (by decide) HH.out.1
  · rw [hz] at hchk
    have HZ := Lib.hid hz
    clear hz
    go_enter Try.func26, Try.ntmps26
    go_wp2_with fail
    refine hchk.out.mono ?_
    rintro e w1 ⟨rfl, b1⟩
    have H1 := Lib.hid b1
    clear b1 hchk
    go_wp2_with fail
    go_loopw [6, 7, 14] (fun y v i wr => ∃ k : Nat, i = .int .i64 (k : Int) ∧ k ≤ cs.length ∧ y = .int .i64 4 ∧ v = .slice none 0 0 ∧ Below w.heap.size w wr)
      (fun _ _ i _ => cs.length - (intOf i).toNat)
    case atStart => exact ⟨0, rfl, by omega, rfl, rfl, H1.out⟩
    case round =>
      obtain ⟨k, rfl, hk, rfl, rfl, hb⟩ := hrel
      by_cases hlt : k < cs.length
      · have hx : cs[k]? = some cs[k] := List.getElem?_eq_getElem hlt
        obtain ⟨b, o, rfl, hB, hc⟩ := Hl.out.2 (by omega)
        have c0 := (hb.cell (p := ⟨b, o + k, none⟩) hB).trans (hc k _ hx)
        generalize cs[k] = x at *
        have HH := Lib.hid hb
        clear hb hx hc
        go_wp2_with fail
        go_roundw
        case rel => exact ⟨k + 1, by go_num, by omega, rfl, rfl, HH.out⟩
        case measure => simp [intOf]; omega
      · have hk2 : k = cs.length := by omega
        subst hk2
        have HH := Lib.hid hb
        clear hb
        go_wp2_with fail
        go_ret2
        exact cols_none (by unfold colsE; rw [if_neg (by rw [HZ.out]; decide)]) (by decide) HH.out
end Go.Proofs.Ythcoobennehkfaa
