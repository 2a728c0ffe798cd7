/- The types of a row's values; which failures a type may have; how type and value stand. -/
import Derived.Test.YticcaogceoahdaaETyFacts
import Derived.Test.YticcaogceoahdaaEInfC
namespace Go.Proofs.Yticcaogceoahdaa
open Go Go.RowKit

def Tell (x : Int) : Prop := x = 0 ∨ x = 1 ∨ x = 11
theorem tell_fl {x y : Int} (hx : Tell x) (hy : Tell y) : Tell (fl x y) := by unfold Tell fl at *; split <;> omega
theorem tell_same {u : Int} {l : List Int} (h : Tell u) : Tell (sameU u l) := by
  unfold sameU
  split
  · exact h
  · exact tell_fl h (.inr (.inr rfl))
theorem infK_tell {f : Lx → Int → Int × Int} (hf : ∀ k u, Tell u → Tell (f k u).2) (ks : List Lx) (u : Int) (h : Tell u) : Tell (infK f ks u).2 := by
  unfold infK
  suffices ∀ (ks : List Lx) (p : List Int × Int), Tell p.2 → Tell (ks.foldl (fun p k => (p.1 ++ [(f k p.2).1], (f k p.2).2)) p).2 from this ks ([], u) h
  intro ks
  induction ks with
  | nil => intro p h; exact h
  | cons k ks ih => intro p h; rw [List.foldl_cons]; exact ih _ (hf k _ h)
theorem inf_tell (sch : List Int) : ∀ n e u, Tell u → Tell (inf sch n e u).2
  | 0, _, _, h => h
  | n + 1, e, u, h => by
    have ih := inf_tell sch n
    unfold inf
    split
    · split
      · exact h
      · exact tell_fl h (.inr (.inl rfl))
    · split
      · exact h
      · split
        · exact tell_same (infK_tell ih _ _ h)
        · split
          · exact tell_same (tell_same (infK_tell ih _ _ h))
          · exact tell_same (infK_tell ih _ _ h)
theorem typed_key (row : List Vl) (e : Lx) :
    ((inferE (row.map tyV) e).2 ≠ 0 ∧ (evalE row e).2 ≠ 0) ∨ ((inferE (row.map tyV) e).2 ≠ 0 ∧ (evalE row e).2 = 0 ∧ (inferE (row.map tyV) e).2 ≠ 4 ∧ (inferE (row.map tyV) e).2 ≠ 2) ∨
    ((inferE (row.map tyV) e).2 = 0 ∧ (evalE row e).2 = 4) ∨ ((inferE (row.map tyV) e).2 = 0 ∧ (evalE row e).2 = 10 ∧ (evalE row e).1 = Vl.zero) ∨
    ((inferE (row.map tyV) e).2 = 0 ∧ (evalE row e).2 = 0 ∧ (evalE row e).1.t = ((inferE (row.map tyV) e).1 == 2)) := by
  have ht := inf_tell (row.map tyV) 16 e 0 (.inl rfl)
  have hty := fun hg hz => typed_ev row 16 e hg hz
  have hgood := fun h => ((checkE_ok e).1 h).1
  unfold inferE evalE
  by_cases h0 : checkE e = 0
  · rw [if_pos h0, if_pos h0]
    have hty := hty (hgood h0)
    generalize inf (row.map tyV) 16 e 0 = T at *
    generalize ev row 16 e 0 = R at *
    by_cases hT : T.2 = 0
    · rw [if_pos hT]
      have ho := hty hT
      rcases chkRow_cases row with hc | hc
      · rw [if_pos hc]
        rcases ho with ho | ⟨ho, hv⟩
        · rw [if_neg (by omega)]
          exact .inr (.inr (.inr (.inl ⟨rfl, ho, rfl⟩)))
        · rw [if_pos ho]
          exact .inr (.inr (.inr (.inr ⟨rfl, rfl, hv⟩)))
      · rw [if_neg (by omega)]
        exact .inr (.inr (.inl ⟨rfl, hc⟩))
    · rw [if_neg hT]
      by_cases hR : (if chkRow row = 0 then (if R.2 = 0 then (R.1, 0) else (Vl.zero, R.2)) else (Vl.zero, chkRow row)).2 = 0
      · refine .inr (.inl ⟨hT, hR, ?_, ?_⟩) <;> (show T.2 ≠ _; unfold Tell at ht; omega)
      · exact .inl ⟨hT, hR⟩
  · rw [if_neg h0, if_neg h0]
    exact .inl ⟨h0, h0⟩
set_option maxRecDepth 100000 in
set_option maxHeartbeats 3200000 in
theorem schema_any (A : Option Addr) (c : Nat) (row : List Vl) (w : World) (hl : Vals w w.heap.size A row) (hn : row.length * 32 ≤ 140737488351232) :
    Calls Try.prog 8 #[.slice A row.length c] w fun x w' => ∃ v, x = .returned v ∧ w'.ownsRow w.heap.size 30 1 v row.length ((row.map tyV).map cellT) ∧ Below w.heap.size w w' := by
  obtain ⟨i0, hi, hz0, hz1, hz2⟩ := info_parts infoTy
  have hUn := Try.underlying34
  have HI := Lib.hid (And.intro hUn (And.intro hi (And.intro hz0 (And.intro hz1 hz2))))
  have hty := fun v W => Lib.hid (typeOf_any v W)
  unfold Vl.val at hty
  have HL := Lib.hid hl
  have hn2 : row.length ≤ 4398046510976 := by omega
  clear hl hn hi hz0 hz1 hz2 hUn
  go_enter Try.func8, Try.ntmps8
  go_wp2_with fail
  go_loopw [3, 8] (fun v i wr => ∃ k : Nat, i = .int .i64 (k : Int) ∧ k ≤ row.length ∧ wr.ownsRow w.heap.size 30 1 v k (((row.take k).map tyV).map cellT) ∧ Below w.heap.size w wr)
    (fun _ i _ => row.length - (intOf i).toNat)
  case atStart => exact ⟨0, rfl, by omega, World.ownsRow_nil _ _ _ _, Below.refl _ _⟩
  case round =>
    obtain ⟨k, rfl, hk, hown, hb⟩ := hrel
    by_cases hlt : k < row.length
    · have hx : row[k]? = some row[k] := List.getElem?_eq_getElem hlt
      obtain ⟨b, o, rfl, hB, hc⟩ := HL.out (by omega)
      obtain ⟨d0, d1, d2⟩ := (hc k _ hx).past hb hB
      have hnx : ((row.take (k + 1)).map tyV).map cellT = ((row.take k).map tyV).map cellT ++ [cellT (tyV row[k])] := by
        rw [List.take_add_one, hx, List.map_append, List.map_append]; rfl
      generalize row[k] = x at *
      obtain ⟨F, hF⟩ : ∃ F, ((row.take k).map tyV).map cellT = F := ⟨_, rfl⟩
      rw [hF] at hown hnx
      clear hF
      have HH := Lib.hid (And.intro hown (And.intro hb hnx))
      have hsz := hb.size
      clear hown hb hnx hx hc
      go_wp2_with fail
      refine (hty x _).out.mono ?_
      rintro _ w2 ⟨rfl, b2⟩
      have hb2 := below_then ((Below.refl wr.heap.size wr).alloc (Nat.le_refl _) _) (by simp) b2
      have H2 := Lib.hid (And.intro (own_below HH.out.1 hb2) (HH.out.2.1.trans (hb2.mono hsz)))
      have hsz2 := hb2.size
      clear b2 hb2
      have hUn := HI.out.1
      have hi := HI.out.2.1
      have hz0 := HI.out.2.2.1
      have hz1 := HI.out.2.2.2.1
      have hz2 := HI.out.2.2.2.2
      go_wp2_with (at_builtin; refine wpList_push _ rfl _ _ 34 rfl w.heap.size 30 i0 _ 1 1 hUn hi hz0 hz1 hz2 rfl (by decide) _ _ _ rfl H2.out.1 #[.int .u8 (tyV x)] rfl rfl ?k1 ?k2 ?k3 ?k4 ?_)
      case k1 => rfl
      case k2 => unfold maxLen; omega
      case k3 => omega
      case k4 => omega
      intro v' w' ho' hb' _ _
      have H3 := Lib.hid (And.intro ho' hb')
      clear ho' hb' hUn hi hz0 hz1 hz2
      go_wp2_with fail
      go_roundw
      case rel => exact ⟨k + 1, by go_num, by omega, by rw [HH.out.2.2]; exact H3.out.1, H2.out.2.trans H3.out.2⟩
      case measure => simp [intOf]; omega
    · have hk2 : k = row.length := by omega
      subst hk2
      rw [List.take_length] at hown
      have HH := Lib.hid (And.intro hown hb)
      clear hown hb
      go_wp2_with fail
      go_ret
      exact ⟨_, rfl, HH.out.1, HH.out.2⟩
end Go.Proofs.Yticcaogceoahdaa
