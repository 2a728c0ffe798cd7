/- Cols, by the program. -/
import Derived.Test.YthcoobennehkfaaVGrow
import Derived.Test.YthcoobennehkfaaVCheck
import Derived.Test.YthcoobennehkfaaInts
namespace Go.Proofs.Ythcoobennehkfaa
open Go Go.RowKit

def inR (n : Nat) (c : Int) : Bool := decide (0 ≤ c) && decide (c < n)
def colsE (l : List Vl) (cs : List Int) : Int := if chkRow l = 0 then (if cs.all (inR l.length) then (if cs.length ≤ 8 then 0 else 2) else 1) else 4
def pick (l : List Vl) (c : Int) : Vl := l.getD c.toNat default
def colsL (l : List Vl) (cs : List Int) : List Vl := if colsE l cs = 0 then cs.map (pick l) else []
def ColsPost (l : List Vl) (cs : List Int) (w : World) (e : Ending) (w' : World) : Prop :=
  ∃ v, e = .returned (.tuple #[v, .int .i64 (colsE l cs)]) ∧ w'.ownsRow w.heap.size 23 3 v (colsL l cs).length ((colsL l cs).flatMap Vl.cells) ∧ Below w.heap.size w w'
theorem cols_none {l : List Vl} {cs : List Int} {w w' : World} {c : Int} (hE : colsE l cs = c) (hc : c ≠ 0) (hb : Below w.heap.size w w') : ColsPost l cs w (.returned (.tuple #[.slice none 0 0, .int .i64 c])) w' :=
  ⟨_, by rw [hE], by have : colsL l cs = [] := by unfold colsL; rw [if_neg (by rw [hE]; exact hc)]
                     rw [this]; exact World.ownsRow_nil _ _ _ _, hb⟩
theorem chk_cases (l : List Vl) : chkRow l = 0 ∨ chkRow l = 4 := by unfold chkRow; split <;> simp
theorem inR_snoc {cs : List Int} {n k : Nat} {c : Int} (h : cs[k]? = some c) : (cs.take (k + 1)).all (inR n) = ((cs.take k).all (inR n) && inR n c) := by
  rw [List.take_add_one, h]; simp
theorem inR_bad {cs : List Int} {n k : Nat} {c : Int} (h : cs[k]? = some c) (hc : inR n c = false) : cs.all (inR n) = false := by
  cases ho : cs.all (inR n) with
  | false => rfl
  | true => have := List.all_eq_true.1 ho c (List.mem_of_getElem? h); rw [hc] at this; cases this
theorem inR_at {cs : List Int} {n k : Nat} {c : Int} (ho : cs.all (inR n) = true) (h : cs[k]? = some c) : ∃ m : Nat, c = (m : Int) ∧ m < n := by
  have := List.all_eq_true.1 ho c (List.mem_of_getElem? h)
  unfold inR at this
  simp only [Bool.and_eq_true, decide_eq_true_eq] at this
  exact ⟨c.toNat, by omega, by omega⟩
theorem set_cells (pre rest : List Vl) (z x : Vl) (k : Nat) (hk : pre.length = k) :
    ((((pre ++ z :: rest).flatMap Vl.cells).set (k * 3) (.bool x.t)).set (k * 3 + 1) (.int .i64 x.n)).set (k * 3 + 2) (.string x.s) = (pre ++ x :: rest).flatMap Vl.cells := by
  have hl : (pre.flatMap Vl.cells).length = k * 3 := by rw [flat_size (size := 3) (fun _ => rfl), hk]
  rw [List.flatMap_append, List.flatMap_append, List.set_append_right _ _ (by omega), List.set_append_right _ _ (by omega), List.set_append_right _ _ (by omega), hl]
  rw [show k * 3 - k * 3 = 0 by omega, show k * 3 + 1 - k * 3 = 1 by omega, show k * 3 + 2 - k * 3 = 2 by omega]
  simp [Vl.cells]
theorem infoVl' : (Try.prog.info? 23).map (fun i => (i.zero, i.size, i.bytes)) = some (some (.agg #[.bool false, .int .i64 0, .string ⟨#[]⟩]), 3, 32) := infoVl
theorem made_cells (n : Nat) (h : n ≤ 8) : (madeCells #[Value.bool false, Value.int IntKind.i64 0, Value.string ⟨#[]⟩] (n * 3)).toList = (List.replicate n (⟨false, 0, ⟨#[]⟩⟩ : Vl)).flatMap Vl.cells := by
  rcases (show n = 0 ∨ n = 1 ∨ n = 2 ∨ n = 3 ∨ n = 4 ∨ n = 5 ∨ n = 6 ∨ n = 7 ∨ n = 8 by omega) with rfl | rfl | rfl | rfl | rfl | rfl | rfl | rfl | rfl <;> kernel_rfl
theorem own_made {w : World} {base g n : Nat} {e : TypeId} {xs : List Value} (h : w.ownsRow base e 3 (.slice (some ⟨g, 0, none⟩) n n) n xs) : Own w g e xs := by
  rcases h.2 with ⟨h0, _⟩ | ⟨g', cap, cur, hv, hb, hg, h1, h2, h3, h4⟩
  · cases h0
  · simp only [Value.slice.injEq, Option.some.injEq, Addr.mk.injEq, and_true] at hv
    obtain ⟨rfl, _, rfl⟩ := hv
    rw [List.take_of_length_le (by rw [Array.length_toList, h3]; exact Nat.le_refl _)] at h4
    subst h4
    unfold Own
    rw [hg]
theorem own_row {w : World} {base g n : Nat} {e : TypeId} {l : List Vl} (h : Own w g e (l.flatMap Vl.cells)) (hg : base ≤ g) (hn : l.length = n) (hm : n ≤ maxLen) : w.ownsRow base e 3 (.slice (some ⟨g, 0, none⟩) n n) n (l.flatMap Vl.cells) := by
  have hl : (l.flatMap Vl.cells).length = n * 3 := by rw [flat_size (size := 3) (fun _ => rfl), hn]
  exact ⟨hl, .inr ⟨g, n, _, rfl, hg, h, Nat.le_refl _, hm, by simpa using hl, by rw [List.toList_toArray, ← hl, List.take_length]⟩⟩

set_option maxRecDepth 100000 in
set_option maxHeartbeats 3200000 in
theorem cols_any (A : Option Addr) (c : Nat) (l : List Vl) (A' : Option Addr) (c' : Nat) (cs : List Int) (w : World) (hl : Vals w w.heap.size A l) (hn : l.length ≤ maxLen) (hok : ∀ v ∈ l, VOk v) (hcs : Ints w w.heap.size A' cs) (hn' : cs.length ≤ maxLen) :
    Calls Try.prog 25 #[.slice A l.length c, .slice A' cs.length c'] w (ColsPost l cs w) := by
  have hchk := Lib.hid (vcheck_any A c l w hl hn (fun v hv => (hok v hv).1))
  have hco := chk_cases l
  unfold maxLen at hn hn'
  have Hl := Lib.hid (And.intro hl hcs)
  clear hl hcs hok
  rcases hco with hz | hz
  · rw [hz] at hchk
    have HZ := Lib.hid hz
    clear hz
    go_enter Try.func25, Try.ntmps25
    go_wp2_with fail
    refine hchk.out.mono ?_
    rintro e w1 ⟨rfl, b1⟩
    have H1 := Lib.hid b1
    clear b1 hchk
    go_wp2_with fail
    go_loopw [19] (fun i wr => ∃ k : Nat, i = .int .i64 (k : Int) ∧ k ≤ cs.length ∧ (cs.take k).all (inR l.length) = true ∧ w1 = wr)
      (fun i _ => cs.length - (intOf i).toNat)
    case atStart => exact ⟨0, rfl, by omega, rfl, rfl⟩
    case round =>
      obtain ⟨k, rfl, hk, ha, rfl⟩ := hrel
      by_cases hlt : k < cs.length
      · have hx : cs[k]? = some cs[k] := List.getElem?_eq_getElem hlt
        obtain ⟨b, o, rfl, hB, hc⟩ := Hl.out.2 (by omega)
        have c0 := (H1.out.cell (p := ⟨b, o + k, none⟩) hB).trans (hc k _ hx)
        have hsn := fun n => inR_snoc (n := n) hx
        have hbad := fun n => inR_bad (n := n) hx
        generalize cs[k] = x at *
        have HH := Lib.hid (And.intro ha (And.intro hsn hbad))
        clear ha hsn hbad hx hc
        by_cases h0 : x < 0
        · have t1 : decide (x < 0) = true := by simpa using h0
          have hb : inR l.length x = false := by unfold inR; simp; omega
          have HB := Lib.hid hb
          clear hb
          go_wp2_with fail
          go_ret2
          exact cols_none (by unfold colsE; rw [if_pos HZ.out, if_neg (by rw [HH.out.2.2 _ HB.out]; decide)]) (by decide) H1.out
        · have t1 : decide (x < 0) = false := by simpa using h0
          by_cases h9 : x < (l.length : Int)
          · have t2 : decide ((l.length : Int) ≤ x) = false := by simp; omega
            have hb : inR l.length x = true := by unfold inR; simp; omega
            have HB := Lib.hid hb
            clear hb h0 h9
            go_wp2_with fail
            go_roundw
            case rel => exact ⟨k + 1, by go_num, by omega, by rw [HH.out.2.1, HH.out.1, HB.out]; rfl, by trivial⟩
            case measure => simp [intOf]; omega
          · have t2 : decide ((l.length : Int) ≤ x) = true := by simp; omega
            have hb : inR l.length x = false := by unfold inR; simp; omega
            have HB := Lib.hid hb
            clear hb h0 h9
            go_wp2_with fail
            go_ret2
            exact cols_none (by unfold colsE; rw [if_pos HZ.out, if_neg (by rw [HH.out.2.2 _ HB.out]; decide)]) (by decide) H1.out
      · have hk2 : k = cs.length := by omega
        subst hk2
        rw [List.take_length] at ha
        have HA := Lib.hid ha
        clear ha
        by_cases h8 : 8 < cs.length
        · have t1 : decide ((8 : Int) < (cs.length : Int)) = true := by simp; omega
          have H8 := Lib.hid h8
          clear h8
          go_wp2_with fail
          go_ret2
          exact cols_none (by have := H8.out; unfold colsE; rw [if_pos HZ.out, if_pos HA.out, if_neg (by omega)]) (by decide) H1.out
        · have t1 : decide ((8 : Int) < (cs.length : Int)) = false := by simp; omega
          have hle : cs.length ≤ 8 := by omega
          have hmk := made_cells cs.length hle
          have hE : colsE l cs = 0 := by unfold colsE; rw [if_pos HZ.out, if_pos HA.out, if_pos hle]
          have hL : colsL l cs = cs.map (pick l) := by unfold colsL; rw [if_pos hE]
          have HE := Lib.hid (And.intro hE (And.intro hL hmk))
          have hsz := H1.out.size
          clear h8 hE hL hmk
          obtain ⟨i0, hi, hz0, hz1, hz2⟩ := info_parts infoVl'
          go_wp2_with (refine wpList_make_full _ rfl (.tmp 36) (.tmp 36) 24 rfl w.heap.size 23 i0 _ 3 Try.underlying24 hi hz0 hz1 .i64 .i64 _ _ cs.length rfl rfl rfl rfl ?c1 ?c2 ?c3 ?_)
          case c1 => rw [hz2]; omega
          case c2 => unfold maxLen; omega
          case c3 => exact hsz
          intro w2 o2 g2
          have o2' : w2.ownsRow w.heap.size 23 3 (.slice (some ⟨w1.heap.size, 0, none⟩) cs.length cs.length) cs.length (madeCells #[Value.bool false, Value.int IntKind.i64 0, Value.string ⟨#[]⟩] (cs.length * 3)).toList := o2
          have ho2 := own_made o2'
          have hb2 : Below w.heap.size w w2 := H1.out.grown g2 H1.out.size (fun k hk => by simp at hk)
          have H2 := Lib.hid (And.intro (own_of ho2 HE.out.2.2) hb2)
          clear o2 o2' g2 ho2 hb2 hi hz0 hz1 hz2
          go_wp2_with fail
          go_loopw [40] (fun i wr => ∃ k : Nat, i = .int .i64 (k : Int) ∧ k ≤ cs.length ∧ Own wr w1.heap.size 23 (((cs.take k).map (pick l) ++ List.replicate (cs.length - k) (⟨false, 0, ⟨#[]⟩⟩ : Vl)).flatMap Vl.cells) ∧ Below w.heap.size w wr)
            (fun i _ => cs.length - (intOf i).toNat)
          case atStart => exact ⟨0, rfl, by omega, by simpa using H2.out.1, H2.out.2⟩
          case round =>
            obtain ⟨k, rfl, hk', ho, hb⟩ := hrel
            by_cases hlt' : k < cs.length
            · have hx : cs[k]? = some cs[k] := List.getElem?_eq_getElem hlt'
              obtain ⟨b, o, rfl, hB, hc⟩ := Hl.out.2 (by omega)
              have c0 := (hb.cell (p := ⟨b, o + k, none⟩) hB).trans (hc k _ hx)
              obtain ⟨m, hm, hml⟩ := inR_at HA.out hx
              have hmp : (cs.take (k + 1)).map (pick l) = (cs.take k).map (pick l) ++ [pick l cs[k]] := by rw [List.take_add_one, hx, List.map_append]; rfl
              have hrp : List.replicate (cs.length - k) (⟨false, 0, ⟨#[]⟩⟩ : Vl) = ⟨false, 0, ⟨#[]⟩⟩ :: List.replicate (cs.length - (k + 1)) ⟨false, 0, ⟨#[]⟩⟩ := by
                rw [show cs.length - k = (cs.length - (k + 1)) + 1 by omega]; rfl
              have hpk : pick l cs[k] = l[m] := by unfold pick; rw [hm]; simp [hml]
              have hy : l[m]? = some l[m] := List.getElem?_eq_getElem hml
              obtain ⟨b', o', rfl, hB', hc'⟩ := Hl.out.1 (by omega)
              obtain ⟨d0, d1, d2⟩ := (hc' m _ hy).past hb hB'
              rw [hm] at c0
              rw [hpk] at hmp
              generalize l[m] = x at *
              have hlen : ((cs.take k).map (pick l)).length = k := by simp; omega
              rw [hrp] at ho
              have s0 := ho.open_ (k * 3)
              have s1 := ho.open_ (k * 3 + 1)
              have s2 := ho.open_ (k * 3 + 2)
              have hg := ho.inside
              obtain ⟨v0, z0⟩ : ∃ v, wr.cell? ⟨w1.heap.size, k * 3, none⟩ = some v := ⟨_, (ho.at_ _).trans (List.getElem?_eq_getElem (by rw [flat_size (size := 3) (fun _ => rfl)]; simp; omega))⟩
              obtain ⟨v1, z1⟩ : ∃ v, wr.cell? ⟨w1.heap.size, k * 3 + 1, none⟩ = some v := ⟨_, (ho.at_ _).trans (List.getElem?_eq_getElem (by rw [flat_size (size := 3) (fun _ => rfl)]; simp; omega))⟩
              obtain ⟨v2, z2⟩ : ∃ v, wr.cell? ⟨w1.heap.size, k * 3 + 2, none⟩ = some v := ⟨_, (ho.at_ _).trans (List.getElem?_eq_getElem (by rw [flat_size (size := 3) (fun _ => rfl)]; simp; omega))⟩
              have HH := Lib.hid (And.intro hb (And.intro ho (And.intro hmp hlen)))
              clear hb ho hmp hlen hrp hpk hx hy hm hc hc'
              go_wp2_with fail
              go_roundw
              case rel =>
                obtain ⟨hb, ho, hmp, hlen⟩ := HH.out
                refine ⟨k + 1, by go_num, by omega, own_of (((ho.set_ (k * 3) _).set_ (k * 3 + 1) _).set_ (k * 3 + 2) _) ?_, ((hb.setCell hsz _).setCell hsz _).setCell hsz _⟩
                rw [set_cells _ _ _ _ k hlen, hmp, List.append_assoc]
                rfl
              case measure => simp [intOf]; omega
            · have hk3 : k = cs.length := by omega
              subst hk3
              rw [List.take_length, Nat.sub_self, List.replicate_zero, List.append_nil] at ho
              have H3 := Lib.hid (And.intro ho hb)
              clear ho hb
              go_wp2_with fail
              go_ret2
              obtain ⟨ho, hb⟩ := H3.out
              obtain ⟨hE, hL, _⟩ := HE.out
              refine ⟨_, by rw [hE]; rfl, ?_, hb⟩
              rw [hL]
              have hlm : (cs.map (pick l)).length = cs.length := by simp
              rw [hlm]
              exact own_row ho hsz hlm (by unfold maxLen; omega)
  · rw [hz] at hchk
    have HZ := Lib.hid hz
    clear hz
    go_enter Try.func25, Try.ntmps25
    go_wp2_with fail
    refine hchk.out.mono ?_
    rintro e w1 ⟨rfl, b1⟩
    go_wp2_with fail
    go_ret2
    exact cols_none (by unfold colsE; rw [if_neg (by rw [HZ.out]; decide)]) (by decide) b1
end Go.Proofs.Ythcoobennehkfaa
