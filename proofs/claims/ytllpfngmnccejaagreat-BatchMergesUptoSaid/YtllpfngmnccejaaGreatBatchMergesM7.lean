/- Part 7 of the texts on which BatchMerges rests: facts and contracts. -/
import Derived.Test.YtllpfngmnccejaaGreatBatchMergesM6
import Derived.Deep.RegionHeld3
import Derived.Deep.Onto
namespace Go.Proofs.YtllpfngmnccejaaGreat
open Go Go.RowKit

theorem lies_of_times {W : World} {B : Nat} {A : Option Addr} {l : List Tm} (h : Times W B A l) : Lies 3 Tm.cells W B A l := fun hp => by
  obtain ⟨b, o, e, hB, hc⟩ := h hp
  refine ⟨b, o, e, hB, fun i x hi j u hj => ?_⟩
  obtain ⟨h0, h1, h2⟩ := hc i x hi
  match j, hj with
  | 0, hj => obtain rfl : Value.int .u64 (x.e : Int) = u := by simpa [Tm.cells] using hj
             exact h0
  | 1, hj => obtain rfl : Value.int .u64 (x.a : Int) = u := by simpa [Tm.cells] using hj
             exact h1
  | 2, hj => obtain rfl : Value.int .u64 (x.b : Int) = u := by simpa [Tm.cells] using hj
             exact h2
theorem lies_takeF {W : World} {B : Nat} {A : Option Addr} {l : List Tm} (h : Lies 3 Tm.cells W B A l) (m : Nat) : Lies 3 Tm.cells W B A (l.take m) := fun hp => by
  obtain ⟨b, o, e, hB, hc⟩ := h (by rw [List.length_take] at hp; omega)
  refine ⟨b, o, e, hB, fun i x hi => hc i x ?_⟩
  rw [List.getElem?_take] at hi
  split at hi
  · exact hi
  · cases hi
theorem lies_drop {W : World} {B : Nat} {b o : Nat} {l : List Tm} (h : Lies 3 Tm.cells W B (some ⟨b, o, none⟩) l) (m : Nat) : Lies 3 Tm.cells W B (some ⟨b, o + m * 3, none⟩) (l.drop m) := fun hp => by
  obtain ⟨b', o', e, hB, hc⟩ := h (by rw [List.length_drop] at hp; omega)
  simp only [Option.some.injEq, Addr.mk.injEq, and_true] at e
  obtain ⟨rfl, rfl⟩ := e
  refine ⟨_, _, rfl, hB, fun i x hi j u hj => ?_⟩
  rw [List.getElem?_drop] at hi
  have := hc (m + i) x hi j u hj
  rw [show o + (m + i) * 3 + j = o + m * 3 + i * 3 + j by omega] at this
  exact this
theorem lies_t {W : World} {G : Nat} {t : Tm} (h : Own W G 46 t.cells) : Lies 3 Tm.cells W (G + 1) (some ⟨G, 0, none⟩) [t] := fun _ => by
  refine ⟨G, 0, rfl, by omega, fun i x hi j u hj => ?_⟩
  match i, hi with
  | 0, hi =>
    obtain rfl : t = x := by simpa using hi
    rw [show (0 : Nat) + 0 * 3 + j = j by omega, h.at_ j]
    exact hj
theorem own_new {w : World} {N : Nat} {t : TypeId} {l : List Value} (hN : w.heap.size = N) : Own (w.alloc (.cells l.toArray t)) N t l := by subst hN; exact Own.made w t l
theorem own_kept {w w' : World} {r : Option Nat} {g : Nat} {t : TypeId} {l : List Value} (h : Own w g t l) (hg : w.grownBy w' r) (hne : some g ≠ r) : Own w' g t l := (hg.block g h.inside hne).trans h
theorem empty_row {w : World} {N base : Nat} (hN : w.heap.size = N) (hb : base ≤ N) : (w.alloc (.cells #[] 46)).ownsRow base 46 3 (.slice (some ⟨N, 0, none⟩) 0 0) 0 [] := by
  subst hN
  exact World.ownsRow_made w #[] 0 hb (Nat.zero_le _) rfl
theorem tm_one (x : Tm) : ∀ u ∈ x.cells, u.oneCell' = true := by
  intro u hu
  simp [Tm.cells] at hu
  rcases hu with rfl | rfl | rfl <;> rfl
theorem step_tm (w : World) {ops : Array Oper} {o : Oper} {a : Act} {K : Act → World → Prop} {Q : Exit → Act → World → Prop} {E : Prop} (hgd : o.guard = none) (s x : Operand)
    (ho : o.op = .call { callee := .builtin .append, args := #[s, x], argTypes := #[23, 23] })
    (base : Nat) (v : Value) (n : Nat) (xs : List Value) (hs : a.eval s = v) (hown : w.ownsRow base 46 3 v n xs)
    (B : Nat) (A : Option Addr) (c : Nat) (l : List Tm) (k : Nat) (hk : l.length = k) (hx : a.eval x = .slice A k c) (hl : Lies 3 Tm.cells w B A l) (hn : (n + k) * 24 ≤ 140737488355328) (hbase : base ≤ w.heap.size)
    (h : ∀ v' w', w'.ownsRow base 46 3 v' (n + k) (xs ++ l.flatMap Tm.cells) → Below base w w' → w.grownBy w' v.ownBlock → K (a.put o.dst v') w') :
    if Region.wanted o (yielded ops a.tmps) = true then Oper.wp Tryz.prog o a w K Q else E := by
  obtain ⟨i0, hi, hz0, hz1, hz2⟩ := info_parts infoTm
  subst hk
  have hw : Region.wanted o (yielded ops a.tmps) = true := by simp [Region.wanted, hgd]
  rw [if_pos hw]
  obtain ⟨v', w', hrun, ho', hb, hg⟩ : ∃ v' w', (Builtin.append_ #[23, 23] o.type #[v, .slice A l.length c]).run Tryz.prog w = .ok v' w' ∧ w'.ownsRow base 46 3 v' (n + l.length) (xs ++ l.flatMap Tm.cells) ∧ Below base w w' ∧ w.grownBy w' v.ownBlock := by
    cases A with
    | none =>
      have h0 : l = [] := by
        cases l with
        | nil => rfl
        | cons x l => obtain ⟨_, _, e, _⟩ := hl (by simp); cases e
      subst h0
      exact ⟨v, w, run_append_none w base _ _ _ i0 3 Tryz.underlying23 hi v n xs hown c, by simpa using hown, Below.refl _ _, ⟨rfl, rfl, rfl, Nat.le_refl _, fun _ _ _ => rfl⟩⟩
    | some ad =>
      have hnews : ∀ j u, (l.flatMap Tm.cells)[j]? = some u → w.cell? (ad.add j) = some u := by
        intro j u hu
        obtain ⟨i, r, y, rfl, hi, hr⟩ := flat_back (size := 3) (cells := Tm.cells) (by decide) (fun _ => rfl) l j u hu
        have hp : 0 < l.length := by have := (List.getElem?_eq_some_iff.1 hi).1; omega
        obtain ⟨b, o, e, _, hc⟩ := hl hp
        obtain rfl : ad = ⟨b, o, none⟩ := by injection e
        have ea : (⟨b, o, none⟩ : Addr).add (i * 3 + r) = ⟨b, o + i * 3 + r, none⟩ := by unfold Addr.add; split <;> simp_all <;> omega
        rw [ea]
        exact hc i y hi r u hr
      obtain ⟨v', w', hr, h2, h3, _, _⟩ := run_append_own_at (P := Tryz.prog) w base 23 o.type 46 i0 _ 3 24 Tryz.underlying23 hi hz0 hz1 hz2 rfl (by decide) v n xs hown ad l.length c (l.flatMap Tm.cells) (flat_size (size := 3) (cells := Tm.cells) (fun _ => rfl) l) hnews
        (fun u hu => by obtain ⟨y, _, hy⟩ := List.mem_flatMap.1 hu; exact tm_one y u hy) (by unfold maxLen; omega) hn hbase
      exact ⟨v', w', hr, h2, (Below.refl base w).grown h3 hbase (fun k hk => (hown.lt k hk).1), h3⟩
  unfold Oper.wp execOp
  simp only [ho, resolve, invoke, builtin, Sem.run_bind, Sem.run_pure, Result.andThen_ok, List.map_toArray, List.map_cons, List.map_nil, hs, hx, hrun]
  exact h v' w' ho' hb hg
end Go.Proofs.YtllpfngmnccejaaGreat
namespace Go.Proofs.YtllpfngmnccejaaGreat
open Go Go.RowKit Go.Sort Go.Lib

theorem bsT0 (w' : World) : (Instr.buildSlice 23 0 #[]).run Tryz.prog w' = .ok (.slice (some ⟨w'.heap.size, 0, none⟩) 0 0) (w'.alloc (.cells #[] 46)) := by kernel_rfl
theorem bsT1 (t : Tm) (w' : World) : (Instr.buildSlice 23 1 #[(0, .agg t.cells.toArray)]).run Tryz.prog w' = .ok (.slice (some ⟨w'.heap.size, 0, none⟩) 1 1) (w'.alloc (.cells t.cells.toArray 46)) := by kernel_rfl
theorem tm_len3 (t : Tm) : t.cells.length = 3 := rfl
theorem row_form {w : World} {base n : Nat} {e : TypeId} {size : Nat} {v : Value} {xs : List Value} (h : w.ownsRow base e size v n xs) : ∃ A c, v = .slice A n c := by
  rcases h.2 with ⟨rfl, h0⟩ | ⟨g, cc, cur, rfl, _⟩
  · exact ⟨none, 0, by rw [h0]⟩
  · exact ⟨_, _, rfl⟩
theorem base_ok {B : Nat} {a b : World} (h : Below B a b) (hB : B ≤ a.heap.size) : B ≤ b.heap.size := Nat.le_trans hB h.size
theorem past_tm {V : World} {b o : Nat} {t : Tm} (h : TmAt V b o t) (hb : b < V.heap.size) :
    (∀ p : Past V, p.w.cell? ⟨b, o, none⟩ = some (.int .u64 (t.e : Int))) ∧ (∀ p : Past V, p.w.cell? ⟨b, o + 1, none⟩ = some (.int .u64 (t.a : Int))) ∧ (∀ p : Past V, p.w.cell? ⟨b, o + 2, none⟩ = some (.int .u64 (t.b : Int))) :=
  ⟨fun p => (h.past p.h hb).1, fun p => (h.past p.h hb).2.1, fun p => (h.past p.h hb).2.2⟩
set_option maxRecDepth 100000 in
set_option maxHeartbeats 6400000 in
theorem refFront_any (A : Option Addr) (c : Nat) (l : List Tm) (w : World) (hl : Times w w.heap.size A l) (hn : l.length * 24 ≤ 140737488351232) :
    Calls Tryz.prog 134 #[.slice A l.length c] w fun e w' => ∃ v, e = .returned v ∧ w'.ownsRow w.heap.size 46 3 v (frontL l).length ((frontL l).flatMap Tm.cells) ∧ Below w.heap.size w w' := by
  obtain ⟨i0, hi, hz0, hz1, hz2⟩ := info_parts infoTm
  have HI := Lib.hid (And.intro Tryz.underlying23 (And.intro hi (And.intro hz0 (And.intro hz1 hz2))))
  clear hi hz0 hz1 hz2
  have hrf := Lib.hid (refTo_front l)
  have Hl := Lib.hid hl
  have hahead := fun s t W => Lib.hid (refAhead_any s t W)
  have hcmp := fun s t W => Lib.hid (refCompare_any s t W)
  unfold Tm.val at hahead hcmp
  clear hl
  go_enter Tryz.func134, Tryz.ntmps134
  go_wp2_with fail
  go_loopw [3, 14] (fun v i wr => ∃ k : Nat, i = .int .i64 (k : Int) ∧ k ≤ l.length ∧ wr.ownsRow w.heap.size 46 3 v (refTo l k).length ((refTo l k).flatMap Tm.cells) ∧ Below w.heap.size w wr)
    (fun _ i _ => l.length - (intOf i).toNat)
  case atStart => exact ⟨0, rfl, by omega, World.ownsRow_nil _ _ _ _, Below.refl _ _⟩
  case round =>
    obtain ⟨k, rfl, hk, hown, hb⟩ := hrel
    have hrl := refTo_len l k hk
    by_cases hlt : k < l.length
    · have hx : l[k]? = some l[k] := List.getElem?_eq_getElem hlt
      obtain ⟨b, o, rfl, hB, hcell⟩ := Hl.out (by omega)
      obtain ⟨c0, c1, c2⟩ := (hcell k _ hx).past hb hB
      have hsn := refTo_snoc hx
      generalize l[k] = t at *
      obtain ⟨nf, hnf⟩ : ∃ n, (refTo l k).length = n := ⟨_, rfl⟩
      rw [hnf] at hown hrl
      obtain ⟨A3, cc3, rfl⟩ := row_form hown
      have HH := Lib.hid (And.intro hb (And.intro hown (And.intro hsn hnf)))
      have HC := Lib.hid hcell
      clear hb hown hsn hnf hx hcell
      obtain ⟨wo, rfl⟩ : ∃ wo : World, wo = wr := ⟨_, rfl⟩
      go_wp2_with fail
      go_loopw [6, 20] (fun y i w2 => ∃ m : Nat, i = .int .i64 (m : Int) ∧ m ≤ l.length ∧ y = .bool (!blocked (l.take m) t) ∧ Own w2 wo.heap.size 46 t.cells ∧ Below wo.heap.size wo w2)
        (fun _ i _ => l.length - (intOf i).toNat)
      case atStart => exact ⟨0, rfl, by omega, rfl, Own.made wo 46 t.cells, (Below.refl _ _).alloc (Nat.le_refl _) _⟩
      case round =>
        obtain ⟨m, rfl, hm, rfl, ht, hb2⟩ := hrel
        by_cases hltm : m < l.length
        · have hy : l[m]? = some l[m] := List.getElem?_eq_getElem hltm
          obtain ⟨d0, d1, d2⟩ := (HC.out m _ hy).past (HH.out.1.trans (hb2.mono HH.out.1.size)) hB
          have hbs := blocked_snoc (t := t) hy
          generalize l[m] = u at *
          have e0 := ht.at_ 0
          have e1 := ht.at_ 1
          have e2 := ht.at_ 2
          have hg := ht.inside
          simp only [Tm.cells, List.getElem?_cons_zero, List.getElem?_cons_succ] at e0 e1 e2
          have hne := neq_time u t
          have hgd := fun (x1 y1 : Operand) (xs ys : Array Value) (w : World) => grd_time .neq x1 y1 xs ys w
          unfold Tm.val at hne
          have hA := fun W => hahead u t W
          have HM := Lib.hid (And.intro hb2 (And.intro ht hbs))
          generalize blocked (l.take m) t = p at *
          clear hb2 ht hbs hy
          cases hq : eqT u t
          · cases hle : u.le t
            · rw [hle] at hA
              rw [hq] at hne
              have HQ := Lib.hid (And.intro hq hle)
              clear hq hle
              go_wp2_with fail
              refine (hA _).out.mono ?_
              rintro e w3 ⟨rfl, b3⟩
              have B3 := Lib.hid b3
              clear b3
              go_wp2_with fail
              go_roundw
              case rel =>
                obtain ⟨hb2, ht, hbs⟩ := HM.out
                refine ⟨m + 1, by go_num, by omega, by rw [hbs, HQ.out.1, HQ.out.2]; simp, (ht.more _).past B3.out (by simp; omega), (hb2.alloc hb2.size _).trans (B3.out.mono (by have := hb2.size; simp; omega))⟩
              case measure => simp [intOf]; omega
            · rw [hle] at hA
              rw [hq] at hne
              have HQ := Lib.hid (And.intro hq hle)
              clear hq hle
              go_wp2_with fail
              refine (hA _).out.mono ?_
              rintro e w3 ⟨rfl, b3⟩
              have B3 := Lib.hid b3
              clear b3
              go_wp2_with fail
              go_roundw
              case rel =>
                obtain ⟨hb2, ht, hbs⟩ := HM.out
                refine ⟨m + 1, by go_num, by omega, by rw [hbs, HQ.out.1, HQ.out.2]; simp, (ht.more _).past B3.out (by simp; omega), (hb2.alloc hb2.size _).trans (B3.out.mono (by have := hb2.size; simp; omega))⟩
              case measure => simp [intOf]; omega
          · rw [hq] at hne
            have HQ := Lib.hid hq
            clear hq hA
            go_wp2_with fail
            go_roundw
            case rel =>
              obtain ⟨hb2, ht, hbs⟩ := HM.out
              refine ⟨m + 1, by go_num, by omega, by rw [hbs, HQ.out]; simp, ht.more _, hb2.alloc hb2.size _⟩
            case measure => simp [intOf]; omega
        · have hm2 : m = l.length := by omega
          subst hm2
          rw [List.take_length]
          obtain ⟨hb, hown, hsn, hnf⟩ := HH.out
          obtain ⟨A4, c4, he4, -, -, hF⟩ := times_of_own hnf.symm hown
          simp only [Value.slice.injEq] at he4
          obtain ⟨rfl, -, -⟩ := he4
          have hrs : refStep l (refTo l k) t = if (blocked l t || holdsT (refTo l k) t) = true then refTo l k else putIn (refTo l k) t := rfl
          have HM := Lib.hid (And.intro hb2 (And.intro ht hrs))
          have HF := Lib.hid hF
          generalize blocked l t = p at *
          clear hb hown hsn hF ht hb2 hrs hnf
          go_wp2_with fail
          go_loopw [6, 35] (fun y i w3 => ∃ j : Nat, i = .int .i64 (j : Int) ∧ j ≤ nf ∧ y = .bool (!(p || holdsT ((refTo l k).take j) t)) ∧ Own w3 wo.heap.size 46 t.cells ∧ Below wo.heap.size wo w3)
            (fun _ i _ => nf - (intOf i).toNat)
          case atStart => exact ⟨0, rfl, by omega, by simp [holdsT], HM.out.2.1, HM.out.1⟩
          case round =>
            obtain ⟨j, rfl, hj, rfl, ht, hb2⟩ := hrel
            by_cases hltj : j < nf
            · have hnf := HH.out.2.2.2
              obtain ⟨u, hy⟩ : ∃ u, (refTo l k)[j]? = some u := ⟨_, List.getElem?_eq_getElem (by omega)⟩
              obtain ⟨b', o', rfl, hB', hcell'⟩ := HF.out (by omega)
              obtain ⟨d0, d1, d2⟩ := (hcell' j _ hy).past hb2 hB'
              have hbs := holdsT_snoc (t := t) hy
              have e0 := ht.at_ 0
              have e1 := ht.at_ 1
              have e2 := ht.at_ 2
              have hg := ht.inside
              simp only [Tm.cells, List.getElem?_cons_zero, List.getElem?_cons_succ] at e0 e1 e2
              have hne := eql_time u t
              have hgd := fun (x1 y1 : Operand) (xs ys : Array Value) (w : World) => grd_time .eql x1 y1 xs ys w
              unfold Tm.val at hne
              have HL := Lib.hid (And.intro hb2 (And.intro ht hbs))
              generalize holdsT ((refTo l k).take j) t = q at *
              clear hb2 ht hbs hy hnf hcell'
              cases hq : eqT u t
              · rw [hq] at hne
                have HQ := Lib.hid hq
                clear hq
                go_wp2_with fail
                go_roundw
                case rel =>
                  obtain ⟨hb2, ht, hbs⟩ := HL.out
                  refine ⟨j + 1, by go_num, by omega, by rw [hbs, HQ.out]; simp, ht.more _, hb2.alloc hb2.size _⟩
                case measure => simp [intOf]; omega
              · rw [hq] at hne
                have HQ := Lib.hid hq
                clear hq
                go_wp2_with fail
                go_roundw
                case rel =>
                  obtain ⟨hb2, ht, hbs⟩ := HL.out
                  refine ⟨j + 1, by go_num, by omega, by rw [hbs, HQ.out]; simp, ht.more _, hb2.alloc hb2.size _⟩
                case measure => simp [intOf]; omega
            · have hj2 : j = nf := by omega
              subst hj2
              have hFl : (refTo l k).take j = refTo l k := List.take_of_length_le (by rw [HH.out.2.2.2]; exact Nat.le_refl _)
              rw [hFl]
              have HL := Lib.hid (And.intro hb2 ht)
              cases hq : p || holdsT (refTo l k) t
              · have HQ := Lib.hid hq
                rw [Bool.not_false]
                have e0 := ht.at_ 0
                have e1 := ht.at_ 1
                have e2 := ht.at_ 2
                have hg := ht.inside
                simp only [Tm.cells, List.getElem?_cons_zero, List.getElem?_cons_succ] at e0 e1 e2
                clear hq hb2 ht hFl
                go_wp2_with fail
                go_loopw [11] (fun i w4 => ∃ m : Nat, i = .int .i64 (m : Int) ∧ m ≤ j ∧ (∀ (i : Nat) (y : Tm), i < m → (refTo l k)[i]? = some y → before t y = true) ∧ Own w4 wo.heap.size 46 t.cells ∧ Below wo.heap.size wo w4)
                  (fun i _ => j - (intOf i).toNat)
                case atStart => exact ⟨0, rfl, by omega, fun i y hi _ => absurd hi (by omega), HL.out.2, HL.out.1⟩
                case round =>
                  obtain ⟨m, rfl, hm4, hbef, ht, hb2⟩ := hrel
                  have e0 := ht.at_ 0
                  have e1 := ht.at_ 1
                  have e2 := ht.at_ 2
                  have hg := ht.inside
                  simp only [Tm.cells, List.getElem?_cons_zero, List.getElem?_cons_succ] at e0 e1 e2
                  by_cases hltm4 : m < j
                  · have hnf := HH.out.2.2.2
                    obtain ⟨u, hy⟩ : ∃ u, (refTo l k)[m]? = some u := ⟨_, List.getElem?_eq_getElem (by omega)⟩
                    obtain ⟨b', o', rfl, hB', hcell'⟩ := HF.out (by omega)
                    have hB4 : b' < wr.heap.size := by have := hb2.size; omega
                    have hdu := past_tm ((hcell' m _ hy).past hb2 hB') hB4
                    obtain ⟨d0, d1, d2⟩ := hdu
                    obtain ⟨g0, g1, g2⟩ := past_cells ht
                    have hcall := fun P : Past wr => hcmp u t P.w
                    have q0 : (0 : Int) ≤ (m : Int) := by omega
                    have q1 : (m : Int) < (j : Int) := by omega
                    have t1 : decide (m < j) = true := by simpa using hltm4
                    have HD := Lib.hid (And.intro hbef (And.intro ht (And.intro hb2 hy)))
                    clear hbef ht hb2 hy hnf hcell' e0 e1 e2
                    by_cases hz : u.cmp t < 0
                    · have HZ := Lib.hid hz
                      have t2 : decide (u.cmp t < 0) = true := by simpa using hz
                      generalize u.cmp t = r at hcall t2
                      clear hz
                      go_wp2_with fail
                      refine wp_region_past wr (by kernel_rfl) (by kernel_rfl) (Below.refl _ _) ?_
                      repeat (quiet_step ((go_at_call 128; exact calls_past (hcall _).out)))
                      refine wpQuiet_nil ?_
                      intro _ hw'
                      obtain ⟨⟨wz, hbz⟩, hw''⟩ := hw'
                      dsimp only at hw''
                      obtain rfl := hw''
                      have H1 := Lib.hid hbz
                      clear hbz
                      go_wp2_with fail
                      go_roundw
                      case rel =>
                        obtain ⟨hbef, ht, hb2, hy⟩ := HD.out
                        refine ⟨m + 1, by go_num, by omega, fun i y hi hy' => ?_, ht.past H1.out ht.inside, hb2.trans (H1.out.mono hb2.size)⟩
                        by_cases him : i = m
                        · subst him
                          rw [hy] at hy'
                          injection hy' with hy'
                          subst hy'
                          exact decide_eq_true HZ.out
                        · exact hbef i y (by omega) hy'
                      case measure => simp [intOf]; omega
                    · have HZ := Lib.hid hz
                      have t2 : decide (u.cmp t < 0) = false := by simpa using hz
                      generalize u.cmp t = r at hcall t2
                      clear hz
                      go_wp2_with fail
                      refine wp_region_past wr (by kernel_rfl) (by kernel_rfl) (Below.refl _ _) ?_
                      repeat (quiet_step ((go_at_call 128; exact calls_past (hcall _).out)))
                      refine wpQuiet_nil ?_
                      intro V hw'
                      obtain ⟨⟨wz, hbz⟩, hw''⟩ := hw'
                      dsimp only at hw''
                      obtain rfl := hw''
                      have H1 := Lib.hid hbz
                      clear hbz
                      go_wp2_with fail
                      have HE : putIn (refTo l k) t = (refTo l k).take m ++ t :: (refTo l k).drop m := place_at (by rw [HH.out.2.2.2]; exact hm4) HD.out.1 (fun y hy' => by
                        have hy := HD.out.2.2.2
                        rw [hy] at hy'
                        injection hy' with hy'
                        subst hy'
                        exact decide_eq_false (by have := HZ.out; omega))
                      have HE := Lib.hid HE
                      have HW := Lib.hid (And.intro (HD.out.2.1.past H1.out HD.out.2.1.inside) (HD.out.2.2.1.trans (H1.out.mono HD.out.2.2.1.size)))
                      clear d0 d1 d2 g0 g1 g2 hcall HD HZ H1
                      obtain ⟨ht5, hb5⟩ := HW.out
                      have q3 : (m : Int) ≤ (j : Int) := by omega
                      have e0 := ht5.at_ 0
                      have e1 := ht5.at_ 1
                      have e2 := ht5.at_ 2
                      simp only [Tm.cells, List.getElem?_cons_zero, List.getElem?_cons_succ] at e0 e1 e2
                      have hcap : j ≤ cc3 := by
                        rcases HH.out.2.1.2 with ⟨e, _⟩ | ⟨g, cap, cur, e, _, _, h1, _⟩
                        · cases e
                        · injection e with _ _ e; omega
                      have q4 : (m : Int) ≤ (cc3 : Int) := by omega
                      have hcne : ¬ cc3 = m := by omega
                      have HLV := Lib.hid (lies_of_times ((HF.out.past hb5 (Nat.le_refl _)).wide hb5.size))
                      have hHT := Lib.hid ht5
                      have HB5 := Lib.hid hb5
                      have hj2 : j ≤ 5864062014805 := by omega
                      clear ht5 hb5 e0 e1 e2 q3 q4 hcne
                      refine wp_ins (by kernel_rfl) (by decide) (by decide) 74 rfl (by decide) i0 _ 24 HI.out.1 HI.out.2.1 HI.out.2.2.1 HI.out.2.2.2.1 HI.out.2.2.2.2 rfl (by decide) tm_len3 tm_one (refTo l k) t m _ cc3 j HH.out.2.2.2 (by omega) hcap (by unfold maxLen; omega) (by omega) rfl rfl HLV.out (.agg t.cells.toArray) (fun a' w' t5 hot hb => load_op (hot 5 (by decide)) rfl hHT.out hb Tryz.underlying46 rfl (by kernel_rfl)) bsT0 (bsT1 t) ?_
                      intro z0 z1 z2 z3 z4 z5 z6 z7 z8 z9 z10 z11 w9 b9 o9
                      simp only [Act.put, List.setIfInBounds_toArray, List.set_cons_zero, List.set_cons_succ]
                      have H9 := Lib.hid (And.intro b9 o9)
                      clear b9 o9
                      go_wp2_with fail
                      go_roundw
                      case rel =>
                        obtain ⟨hb, hown, hsn, hnf⟩ := HH.out
                        have hrk : refTo l (k + 1) = (refTo l k).take m ++ t :: (refTo l k).drop m := by rw [hsn, HM.out.2.2, HQ.out]; exact HE.out
                        have hrl2 : ((refTo l k).take m ++ t :: (refTo l k).drop m).length = j + 1 := by simp; omega
                        have h1 := hb.trans (HB5.out.mono hb.size)
                        refine ⟨k + 1, by go_num, by omega, ?_, h1.trans (H9.out.1.mono h1.size)⟩
                        rw [hrk, hrl2]
                        exact World.ownsRow.mono H9.out.2 h1.size
                      case measure => simp [intOf]; omega
                  · have hm5 : m = j := by omega
                    subst hm5
                    have t1 : decide (m < m) = false := by simp
                    have HE : putIn (refTo l k) t = (refTo l k).take m ++ t :: (refTo l k).drop m := place_at (by rw [HH.out.2.2.2]; exact hm4) hbef (fun y hy' => by
                      have := (List.getElem?_eq_some_iff.1 hy').1
                      have := HH.out.2.2.2
                      omega)
                    have HE := Lib.hid HE
                    have HW := Lib.hid (And.intro ht hb2)
                    have hcap : m ≤ cc3 := by
                      rcases HH.out.2.1.2 with ⟨e, h0⟩ | ⟨g, cap, cur, e, _, _, h1, _⟩
                      · injection e with _ _ e; omega
                      · injection e with _ _ e; omega
                    clear hbef ht hb2 e0 e1 e2
                    go_upto_region 20 with fail
                    go_quiet (fail)
                    go_wp2_with fail
                    have hb5 := below_draws HW.out.2 nq
                    have ht5 := HW.out.1.draws nq
                    have HLV := Lib.hid (lies_of_times ((HF.out.past hb5 (Nat.le_refl _)).wide hb5.size))
                    have hHT := Lib.hid ht5
                    have HB5 := Lib.hid hb5
                    have hj2 : m ≤ 5864062014805 := by omega
                    clear ht5 hb5
                    refine wp_ins (by kernel_rfl) (by decide) (by decide) 74 rfl (by decide) i0 _ 24 HI.out.1 HI.out.2.1 HI.out.2.2.1 HI.out.2.2.2.1 HI.out.2.2.2.2 rfl (by decide) tm_len3 tm_one (refTo l k) t m _ cc3 m HH.out.2.2.2 (by omega) hcap (by unfold maxLen; omega) (by omega) rfl rfl HLV.out (.agg t.cells.toArray) (fun a' w' t5 hot hb => load_op (hot 5 (by decide)) rfl hHT.out hb Tryz.underlying46 rfl (by kernel_rfl)) bsT0 (bsT1 t) ?_
                    intro z0 z1 z2 z3 z4 z5 z6 z7 z8 z9 z10 z11 w9 b9 o9
                    simp only [Act.put, List.setIfInBounds_toArray, List.set_cons_zero, List.set_cons_succ]
                    have H9 := Lib.hid (And.intro b9 o9)
                    clear b9 o9
                    go_wp2_with fail
                    go_roundw
                    case rel =>
                      obtain ⟨hb, hown, hsn, hnf⟩ := HH.out
                      have hrk : refTo l (k + 1) = (refTo l k).take m ++ t :: (refTo l k).drop m := by rw [hsn, HM.out.2.2, HQ.out]; exact HE.out
                      have hrl2 : ((refTo l k).take m ++ t :: (refTo l k).drop m).length = m + 1 := by simp; omega
                      have h1 := hb.trans (HB5.out.mono hb.size)
                      refine ⟨k + 1, by go_num, by omega, ?_, h1.trans (H9.out.1.mono h1.size)⟩
                      rw [hrk, hrl2]
                      exact World.ownsRow.mono H9.out.2 h1.size
                    case measure => simp [intOf]; omega
              · have HQ := Lib.hid hq
                clear hq hb2 ht hFl
                go_wp2_with fail
                go_roundw
                case rel =>
                  obtain ⟨hb, hown, hsn, hnf⟩ := HH.out
                  have hrk : refTo l (k + 1) = refTo l k := by rw [hsn, HM.out.2.2, HQ.out]; rfl
                  refine ⟨k + 1, by go_num, by omega, ?_, hb.trans (HL.out.1.mono hb.size)⟩
                  rw [hrk, hnf]
                  exact own_below hown HL.out.1
                case measure => simp [intOf]; omega
    · have hk2 : k = l.length := by omega
      subst hk2
      have HH := Lib.hid (And.intro hown hb)
      have q2 : decide ((l.length : Int) < (l.length : Int)) = false := decide_eq_false (by omega)
      clear hown hb
      go_wp2_with fail
      go_ret
      exact ⟨_, rfl, by rw [← hrf.out]; exact HH.out.1, HH.out.2⟩
end Go.Proofs.YtllpfngmnccejaaGreat
namespace Go.Proofs.YtllpfngmnccejaaGreat
open Go Go.RowKit

/-- what t makes with the first k of l -/
def supTo (t : Tm) (l : List Tm) (k : Nat) : List Tm := (l.take k).map (t.sup ·)
theorem supTo_snoc {t s : Tm} {l : List Tm} {k : Nat} (h : l[k]? = some s) : supTo t l (k + 1) = supTo t l k ++ [t.sup s] := by
  unfold supTo; rw [List.take_add_one, h]; simp
theorem supTo_all (t : Tm) (l : List Tm) : supTo t l l.length = l.map (t.sup ·) := by unfold supTo; rw [List.take_length]
theorem supTo_len {t : Tm} {l : List Tm} {k : Nat} (h : k ≤ l.length) : (supTo t l k).length = k := by simp [supTo]; omega

set_option maxRecDepth 100000 in
set_option maxHeartbeats 1600000 in
theorem refAdvance_any (t : Tm) (A : Option Addr) (c : Nat) (l : List Tm) (w : World) (hl : Times w w.heap.size A l) (hn : l.length * 24 ≤ 140737488351232) :
    Calls Tryz.prog 80 #[t.val, .slice A l.length c] w fun e w' => e = .returned (adv t l).val ∧ Below w.heap.size w w' := by
  by_cases h0 : l.length = 0
  · obtain rfl := List.eq_nil_of_length_eq_zero h0
    unfold Tm.val adv
    clear h0
    go_enter Tryz.func80, Tryz.ntmps80
    go_wp2_with fail
    refine bodyPost_ret (v := .agg #[.int .u64 (t.e : Int), .int .u64 (t.a : Int), .int .u64 (t.b : Int)]) (by simp [results, Tryz.results80, go_sem]) rfl ⟨rfl, ?_⟩
    exact ((Below.refl _ _).alloc (Nat.le_refl _) _).alloc (by simp) _
  · rw [adv_glb t l (by omega)]
    obtain ⟨i0, hi, hz0, hz1, hz2⟩ := info_parts infoTm
    have h00 : ((l.length : Int) == 0) = false := by rw [beq_eq_false_iff_ne]; omega
    have Hl := Lib.hid hl
    clear hl h0
    have hU := Tryz.underlying23
    have hlub := fun (s t : Tm) A W h => Lib.hid (refLub_any A 2 [s, t] W h (by unfold maxLen; simp))
    have hglb := fun A c (m : List Tm) W h hm => Lib.hid (refGlb_any A c m W h hm)
    unfold Tm.val at hlub hglb ⊢
    unfold maxLen at hglb
    go_enter Tryz.func80, Tryz.ntmps80
    go_wp2_with fail
    go_loopw [5, 14] (fun v i wr => ∃ k : Nat, i = .int .i64 (k : Int) ∧ k ≤ l.length ∧ Below w.heap.size w wr ∧ Own wr w.heap.size 46 t.cells ∧ Own wr (w.heap.size + 1) 46 [.int .u64 0, .int .u64 0, .int .u64 0] ∧
        wr.ownsRow (w.heap.size + 1 + 1) 46 3 v k ((supTo t l k).flatMap Tm.cells))
      (fun _ i _ => l.length - (intOf i).toNat)
    case atStart =>
      refine ⟨0, rfl, by omega, ((Below.refl _ _).alloc (Nat.le_refl _) _).alloc (by simp) _, ?_, ?_, World.ownsRow_nil _ _ _ _⟩
      · have := (Own.made w 46 t.cells).more (.cells #[.int .u64 0, .int .u64 0, .int .u64 0] 46)
        simpa [Tm.cells] using this
      · have := Own.made (w.alloc (.cells #[.int .u64 (t.e : Int), .int .u64 (t.a : Int), .int .u64 (t.b : Int)] 46)) 46 [.int .u64 0, .int .u64 0, .int .u64 0]
        simpa using this
    case round =>
      obtain ⟨k, rfl, hk, fb, ft, fr, hown⟩ := hrel
      have hsz := fr.inside
      by_cases hlt : k < l.length
      · have hx : l[k]? = some l[k] := List.getElem?_eq_getElem hlt
        obtain ⟨b, o, rfl, hB, hl⟩ := Hl.out (by omega)
        obtain ⟨c0, c1, c2⟩ := (hl k _ hx).past fb hB
        have hsn := supTo_snoc (t := t) hx
        generalize l[k] = y at *
        have t0 := ft.at_ 0
        have t1 := ft.at_ 1
        have t2 := ft.at_ 2
        simp only [Tm.cells, List.getElem?_cons_zero, List.getElem?_cons_succ] at t0 t1 t2
        have HR := Lib.hid (And.intro fb (And.intro ft (And.intro fr (And.intro hown (And.intro hsn hx)))))
        have hB2 : b < wr.heap.size := by have := fb.size; omega
        have hN2 : w.heap.size < wr.heap.size := by omega
        clear fb ft fr hsn hx hl hown
        go_wp2_with fail
        refine (hlub t y _ _ (times_here (times_two' _ _ (by simp)) (by simp))).out.mono ?_
        rintro e w1 ⟨rfl, hb⟩
        obtain ⟨fb, ft, fr, hown, hsn, hx⟩ := HR.out
        have h1 : Below wr.heap.size wr w1 := by
          refine below_then ?_ (by simp) hb
          repeat (first | exact Below.refl _ _ | refine Below.drew ?_ | refine Below.alloc ?_ (by first | (simp; done) | (simp; omega)) _)
        have hown1 := own_below hown h1
        have fb1 : Below w.heap.size w w1 := fb.trans (h1.mono fb.size)
        have ft1 := ft.past h1 hN2
        have fr1 := fr.past h1 hsz
        have hz := h1.size
        have H1 := Lib.hid (And.intro fb1 (And.intro ft1 fr1))
        clear fb ft fr hown hsn hx hb h1 fb1 ft1 fr1
        go_wp2_with (at_builtin; refine wpList_push _ rfl _ _ 23 rfl (w.heap.size + 1 + 1) 46 i0 _ 3 24 hU hi hz0 hz1 hz2 rfl (by decide) _ _ _ rfl hown1 _ rfl rfl ?c1 ?c2 ?c3 ?c4 ?_)
        case c1 => exact ⟨rfl, rfl, rfl⟩
        case c2 => unfold maxLen; omega
        case c3 => omega
        case c4 => omega
        intro v' w' ho' hb' _ _
        obtain ⟨fb1, ft1, fr1⟩ := H1.out
        obtain ⟨fb, ft, fr, hown, hsn, hx⟩ := HR.out
        have HR2 := Lib.hid (And.intro hsn (And.intro fb1 (And.intro ft1 (And.intro fr1 (And.intro ho' hb')))))
        clear fb ft fr hown hsn hx fb1 ft1 fr1 ho' hb' hown1
        go_wp2
        obtain ⟨hsn, fb1, ft1, fr1, ho', hb'⟩ := HR2.out
        go_roundw
        case rel =>
          refine ⟨k + 1, by go_num, by omega, fb1.trans (hb'.mono (by omega)), ft1.past hb' (by omega), fr1.past hb' (by omega), ?_⟩
          rw [hsn, ← flatT_snoc]
          exact ho'
        case measure => simp [intOf]; omega
      · have hk2 : k = l.length := by omega
        subst hk2
        have hsl := supTo_len (t := t) (Nat.le_refl l.length)
        obtain ⟨A', c', rfl, hc', _, ht⟩ := times_of_own hsl.symm hown
        have g0 := fr.open_ 0
        have g1 := fr.open_ 1
        have g2 := fr.open_ 2
        have e0 := fr.at_ 0
        have e1 := fr.at_ 1
        have e2 := fr.at_ 2
        simp only [List.getElem?_cons_zero, List.getElem?_cons_succ] at e0 e1 e2
        have hcall := hglb A' c' _ wr ht (by rw [hsl]; omega)
        rw [supTo_all] at hcall
        rw [hsl] at hc'
        rw [List.length_map] at hcall
        generalize hg : glb (l.map (t.sup ·)) = g at hcall
        have H1 := Lib.hid (And.intro hg (And.intro fb fr))
        rw [hsl]
        clear fb ft fr hown ht hg hsl
        go_wp2_with fail
        refine hcall.out.mono ?_
        rintro e w1 ⟨rfl, h1⟩
        obtain ⟨hg, fb, fr⟩ := H1.out
        have fr1 := fr.past h1 hsz
        have g0 := fr1.open_ 0
        have g1 := fr1.open_ 1
        have g2 := fr1.open_ 2
        have e0 := fr1.at_ 0
        have e1 := fr1.at_ 1
        have e2 := fr1.at_ 2
        simp only [List.getElem?_cons_zero, List.getElem?_cons_succ] at e0 e1 e2
        obtain ⟨d0, d1, d2⟩ := fr1.stored3 (.int .u64 (g.e : Int)) (.int .u64 (g.a : Int)) (.int .u64 (g.b : Int))
        have H2 := Lib.hid (And.intro hg (And.intro (fb.trans (h1.mono fb.size)) (And.intro d0 (And.intro d1 d2))))
        clear fb fr fr1 hg h1 d0 d1 d2
        go_wp2_with fail
        obtain ⟨hg, hb, d0, d1, d2⟩ := H2.out
        refine bodyPost_ret (v := g.val) (by simp [results, Tryz.results80, go_sem, d0, d1, d2, Tm.val]) rfl ⟨congrArg (fun g : Tm => Ending.returned g.val) hg.symm, below_set3 hb (by omega) _ _ _⟩
end Go.Proofs.YtllpfngmnccejaaGreat
namespace Go.Proofs.YtllpfngmnccejaaGreat
open Go Go.RowKit

section
variable {K : Type} {cmp : K → K → Int} {R : K → Prop}
def psum (p : K → Bool) : List (K × Int) → Int
  | [] => 0
  | x :: l => (if p x.1 = true then x.2 else 0) + psum p l
theorem ins_right {x : K × Int} {l : List (K × Int)} (hx : R x.1) (hl : ∀ y ∈ l, R y.1) : ∀ y ∈ ins cmp x l, R y.1 := fun y hy => by
  rcases ins_keys x l y hy with e | ⟨z, hz, e⟩
  · rw [e]; exact hx
  · rw [← e]; exact hl z hz
theorem psum_ins (L : Lin cmp R) (p : K → Bool) (x : K × Int) (hx : R x.1) : ∀ l : List (K × Int), (∀ y ∈ l, R y.1) → psum p (ins cmp x l) = psum p l + if p x.1 = true then x.2 else 0
  | [], _ => by simp [ins, psum]
  | y :: t, h => by
    have ih := psum_ins L p x hx t fun z hz => h z (by simp [hz])
    unfold ins
    by_cases h0 : cmp y.1 x.1 = 0
    · have e : y.1 = x.1 := (L.eq y.1 x.1 (h y (by simp)) hx).1 h0
      rw [if_pos h0]
      simp only [psum, e]
      split <;> omega
    · rw [if_neg h0]
      split
      · simp only [psum, ih]; omega
      · simp only [psum]; omega
theorem psum_asmF (L : Lin cmp R) (p : K → Bool) : ∀ l a : List (K × Int), (∀ y ∈ l, R y.1) → (∀ y ∈ a, R y.1) → psum p (asmF cmp a l) = psum p a + psum p l
  | [], a, _, _ => by simp [asmF, psum]
  | x :: l, a, h, ha => by
    have hx := h x (by simp)
    have ih := psum_asmF L p l (ins cmp x a) (fun y hy => h y (by simp [hy])) (ins_right hx ha)
    show psum p (asmF cmp (ins cmp x a) l) = _
    rw [ih, psum_ins L p x hx a ha]
    simp only [psum]
    omega
theorem psum_nz0 (p : K → Bool) : ∀ l : List (K × Int), psum p (l.filter fun x => x.2 != 0) = psum p l
  | [] => rfl
  | x :: l => by
    have ih := psum_nz0 p l
    rw [List.filter_cons]
    split
    · simp only [psum, ih]
    · rename_i h
      have h0 : x.2 = 0 := by simpa using h
      simp only [psum, ih, h0]
      split <;> omega
theorem psum_nz (L : Lin cmp R) (p : K → Bool) {l : List (K × Int)} (h : ∀ y ∈ l, R y.1) : psum p (nz cmp l) = psum p l := by
  unfold nz asm
  rw [psum_nz0, psum_asmF L p l [] h fun y hy => (by cases hy)]
  simp [psum]
end
theorem at_sum (t : Tm) (r : List Vl) : ∀ l : List Up, sumOf cmpRows (atP l t) r = psum (fun k : Uk => k.t.le t && decide (cmpRows k.row r = 0)) (l.map Up.p)
  | [] => rfl
  | u :: l => by
    have ih := at_sum t r l
    have e : atP (u :: l) t = if u.t.le t = true then (u.row, u.d) :: atP l t else atP l t := by
      unfold atP
      rw [List.filter_cons]
      split <;> simp
    rw [e, List.map_cons]
    simp only [psum]
    rw [show u.p = (u.k, u.d) from rfl, ← ih]
    simp only [show u.k.t = u.t from rfl, show u.k.row = u.row from rfl]
    cases hle : u.t.le t
    · simp
    · by_cases h0 : cmpRows u.row r = 0
      · simp [sumOf, h0]
      · simp [sumOf, h0]
theorem at_append (a b : List Up) (t : Tm) : atP (a ++ b) t = atP a t ++ atP b t := by unfold atP; rw [List.filter_append, List.map_append]
theorem at_right {l : List Up} {t : Tm} (h : chkUs l = 0) : ∀ x ∈ atP l t, RowR x.1 := fun x hx => by
  obtain ⟨u, hu, rfl⟩ := List.mem_map.1 hx
  exact (chkK_zero (chkUs_all.1 h u (List.mem_filter.1 hu).1)).2.1
theorem at_ne {l : List Up} {t : Tm} (h : atE l t ≠ 0) : atL l t = [] := by
  unfold atE at h
  unfold atL
  split at h
  · rename_i h1; rw [if_pos h1]; exact resE_ne h
  · rename_i h1; rw [if_neg h1]
theorem at_zero {l : List Up} {t : Tm} (h : atE l t = 0) : chkUs l = 0 ∧ chk [t] = 0 ∧ resE cmpRows (atP l t) = 0 ∧ atL l t = nz cmpRows (atP l t) := by
  unfold atE at h
  split at h
  · rename_i h1
    have h2 : chkUs l = 0 ∧ chk [t] = 0 := by unfold chkAt orI at h1; split at h1 <;> simp_all
    exact ⟨h2.1, h2.2, h, by unfold atL; rw [if_pos h1]; exact (resE_zero h).1⟩
  · rename_i h1; exact absurd h h1
theorem at_of {l : List Up} {t : Tm} (h1 : chkUs l = 0) (h2 : chk [t] = 0) : atL l t = resL cmpRows (atP l t) ∧ atE l t = resE cmpRows (atP l t) := by
  have h : chkAt l t = 0 := by unfold chkAt orI; rw [if_pos h1]; exact h2
  unfold atL atE
  rw [if_pos h, if_pos h]
  exact ⟨rfl, rfl⟩
/-- of updates, and of them evened out -/
theorem at_same {l e : List Up} (t : Tm) (h : consE [l] = 0) (he : e.map Up.p = consL [l]) : atL l t = atL e t ∧ atE l t = atE e t := by
  have hev := (cons_even h he).2.2
  obtain ⟨h1, h2, h3⟩ := cons_chk h
  have hl : chkUs l = 0 := chkLs_all.1 h1 l (by simp)
  simp only [List.flatten_cons, List.flatten_nil, List.append_nil] at h2 h3
  by_cases ht : chk [t] = 0
  · rw [(at_of hl ht).1, (at_of hl ht).2, (at_of hev ht).1, (at_of hev ht).2]
    refine resL_ext row_lin (at_right hl) (at_right hev) fun r => ?_
    rw [at_sum, at_sum, he, h3, (resE_zero h2).1, psum_nz uk_lin _ (keys_right (chkUs_all.1 hl))]
  · have c1 : chkAt l t = chk [t] := by unfold chkAt orI; rw [if_pos hl]
    have c2 : chkAt e t = chk [t] := by unfold chkAt orI; rw [if_pos hev]
    unfold atL atE
    rw [c1, c2, if_neg ht, if_neg ht, if_neg ht, if_neg ht]
    exact ⟨rfl, rfl⟩
theorem merge_two {A B C : List (List Vl × Int)} {p q : List Ct} (hA : ∀ x ∈ A, RowR x.1) (hB : ∀ x ∈ B, RowR x.1) (hC : ∀ x ∈ C, RowR x.1) (hp : p.map Ct.p = nz cmpRows A) (hq : q.map Ct.p = nz cmpRows B)
    (hs : ∀ r, sumOf cmpRows A r + sumOf cmpRows B r = sumOf cmpRows C r) : mergeL [p, q] = resL cmpRows C ∧ mergeE [p, q] = resE cmpRows C := by
  have hall : ∀ x ∈ (p ++ q).map Ct.p, RowR x.1 := fun x hx => by
    rw [List.map_append, hp, hq] at hx
    rcases List.mem_append.1 hx with hx | hx
    · exact nz_right (R := RowR) hA x hx
    · exact nz_right (R := RowR) hB x hx
  have hc : chkCs ([p, q] : List (List Ct)).flatten = 0 := chkCs_all.2 fun c hc => by
    simp only [List.flatten_cons, List.flatten_nil, List.append_nil] at hc
    exact hall c.p (List.mem_map.2 ⟨c, hc, rfl⟩)
  unfold mergeL mergeE
  rw [if_pos hc, if_pos hc]
  simp only [List.flatten_cons, List.flatten_nil, List.append_nil]
  refine resL_ext row_lin hall hC fun r => ?_
  rw [List.map_append, sumOf_append, hp, hq, nz_sum row_lin, nz_sum row_lin]
  exact hs r
/-- of two lists -/
theorem at_merge {a b : List Up} {t : Tm} {p q : List Ct} (ha : atE a t = 0) (hb : atE b t = 0) (hp : p.map Ct.p = atL a t) (hq : q.map Ct.p = atL b t) : mergeL [p, q] = atL (a ++ b) t ∧ mergeE [p, q] = atE (a ++ b) t := by
  obtain ⟨a1, a2, a3, a4⟩ := at_zero ha
  obtain ⟨b1, b2, b3, b4⟩ := at_zero hb
  have hc : chkUs (a ++ b) = 0 := chkUs_all.2 fun u hu => by
    rcases List.mem_append.1 hu with hu | hu
    · exact chkUs_all.1 a1 u hu
    · exact chkUs_all.1 b1 u hu
  rw [(at_of hc a2).1, (at_of hc a2).2]
  exact merge_two (at_right a1) (at_right b1) (at_right hc) (hp.trans a4) (hq.trans b4) fun r => by rw [at_append, sumOf_append]
def betw (l : List Up) (a : Tm) : List Up := l.filter fun u => !u.t.le a
theorem betw_next {l : List Up} {a : Tm} {j : Nat} {u : Up} (h : l[j]? = some u) : betw (l.take (j + 1)) a = betw (l.take j) a ++ if u.t.le a = true then [] else [u] := by
  unfold betw
  rw [List.take_add_one, h, List.filter_append]
  cases hh : u.t.le a <;> simp [hh]
theorem betw_sub {l : List Up} {a : Tm} {u : Up} (h : u ∈ betw l a) : u ∈ l := (List.mem_filter.1 h).1
theorem betw_len (l : List Up) (a : Tm) : (betw l a).length ≤ l.length := List.length_filter_le ..
theorem betw_sum {a b : Tm} (hab : a.le b = true) (r : List Vl) : ∀ l : List Up, sumOf cmpRows (atP l a) r + sumOf cmpRows (atP (betw l a) b) r = sumOf cmpRows (atP l b) r
  | [] => rfl
  | u :: l => by
    have ih := betw_sum hab r l
    have e : ∀ t, atP (u :: l) t = if u.t.le t = true then (u.row, u.d) :: atP l t else atP l t := fun t => by
      unfold atP
      rw [List.filter_cons]
      split <;> simp
    have e2 : betw (u :: l) a = if u.t.le a = true then betw l a else u :: betw l a := by
      unfold betw
      rw [List.filter_cons]
      cases u.t.le a <;> simp
    have hle : u.t.le a = true → u.t.le b = true := fun h => by
      unfold Tm.le at *
      simp only [Bool.and_eq_true, decide_eq_true_eq] at *
      omega
    rw [e, e, e2]
    cases h1 : u.t.le a
    · have e3 : atP (u :: betw l a) b = if u.t.le b = true then (u.row, u.d) :: atP (betw l a) b else atP (betw l a) b := by
        unfold atP
        rw [List.filter_cons]
        split <;> simp
      simp only [Bool.false_eq_true, if_false]
      rw [e3]
      cases u.t.le b
      · simpa using ih
      · simp only [if_true, sumOf]; omega
    · rw [hle h1]
      simp only [if_true, sumOf]
      omega
/-- between two times -/
theorem at_later {l : List Up} {a b : Tm} {p q : List Ct} (hab : a.le b = true) (ha : atE l a = 0) (hb : atE l b = 0) (hz : atE (betw l a) b = 0) (hp : p.map Ct.p = atL l a) (hq : q.map Ct.p = atL (betw l a) b) : mergeL [p, q] = atL l b ∧ mergeE [p, q] = 0 := by
  obtain ⟨a1, a2, a3, a4⟩ := at_zero ha
  obtain ⟨b1, b2, b3, b4⟩ := at_zero hb
  obtain ⟨z1, z2, z3, z4⟩ := at_zero hz
  have := merge_two (at_right a1) (at_right z1) (at_right a1) (hp.trans a4) (hq.trans z4) fun r => betw_sum hab r l
  rw [b3] at this
  rw [(at_of a1 b2).1]
  exact this
theorem atL_len (l : List Up) (t : Tm) : (atL l t).length ≤ l.length := by
  unfold atL
  split
  · have h1 := resL_len (cmp := cmpRows) (atP l t)
    have h2 : (atP l t).length ≤ l.length := by unfold atP; rw [List.length_map]; exact List.length_filter_le ..
    omega
  · simp
theorem merge_len (L : List (List Ct)) : (mergeL L).length ≤ L.flatten.length := by
  unfold mergeL
  split
  · have := resL_len (cmp := cmpRows) (L.flatten.map Ct.p); rwa [List.length_map] at this
  · simp
end Go.Proofs.YtllpfngmnccejaaGreat
namespace Go.Proofs.YtllpfngmnccejaaGreat
open Go Go.RowKit

theorem empty_ups (w : World) : (w.alloc (.cells #[] 48)).ownsRow w.heap.size 48 6 (.slice (some ⟨w.heap.size, 0, none⟩) 0 0) 0 [] :=
  World.ownsRow_made w #[] 0 (Nat.le_refl _) (Nat.zero_le _) rfl
theorem two_clists (w : World) (A A' : Option Addr) (c c' : Nat) (l m : List Ct) (h : Cts w w.heap.size A l) (h' : Cts w w.heap.size A' m) : ∃ V, V = w.alloc (.cells #[.slice A l.length c, .slice A' m.length c'] 54) ∧ Below w.heap.size w V ∧ CLs V V.heap.size (some ⟨w.heap.size, 0, none⟩) [⟨A, c, l⟩, ⟨A', c', m⟩] := by
  obtain ⟨W, e1, s1, b1, o1⟩ := boxd w [.slice A l.length c, .slice A' m.length c'] 54
  refine ⟨W, e1, b1, rw_own (t := 54) o1, fun s hs => ?_⟩
  rcases List.mem_cons.1 hs with rfl | hs
  · exact h.keep b1
  · obtain rfl : s = ⟨A', c', m⟩ := by simpa using hs
    exact h'.keep b1
/-- the same, said of what is there at t -/
def There (l : List (List Vl × Int)) (e : Int) (w : World) (x : Ending) (w' : World) : Prop :=
  ∃ A c, ∃ outL : List Ct, x = .returned (.tuple #[.slice A outL.length c, .int .i64 e]) ∧ outL.map Ct.p = l ∧ Cts w' w'.heap.size A outL ∧ (∀ u ∈ outL, COk u) ∧ outL.length ≤ 1099511627776 ∧ Below w.heap.size w w'
theorem there_at (A : Option Addr) (c : Nat) (l : List Up) (t : Tm) (w : World) (hl : Ups w w.heap.size A l) (hok : ∀ u ∈ l, UOk u) (hn : l.length ≤ 1099511627776) :
    Calls Tryz.prog 21 #[.slice A l.length c, .agg #[.int .u64 (t.e : Int), .int .u64 (t.a : Int), .int .u64 (t.b : Int)]] w (There (atL l t) (atE l t) w) :=
  (at_any A c l t w hl hok hn).mono fun x w' ⟨A', c', outL, h1, h2, h3, h4, h5, _⟩ => ⟨A', c', outL, h1, h2, h3, h4, by
    have := atL_len l t
    rw [← h2, List.length_map] at this
    omega, h5⟩
/-- the same, and where it lies: in no block that was there -/
def ThereNew (l : List (List Vl × Int)) (e : Int) (w : World) (x : Ending) (w' : World) : Prop :=
  ∃ A c, ∃ outL : List Ct, x = .returned (.tuple #[.slice A outL.length c, .int .i64 e]) ∧ outL.map Ct.p = l ∧ Cts w' w'.heap.size A outL ∧ (∀ u ∈ outL, COk u) ∧ outL.length ≤ 1099511627776 ∧ Below w.heap.size w w' ∧ LoC w.heap.size A outL
theorem there_new (A : Option Addr) (c : Nat) (l : List Up) (t : Tm) (w : World) (hl : Ups w w.heap.size A l) (hok : ∀ u ∈ l, UOk u) (hn : l.length ≤ 1099511627776) :
    Calls Tryz.prog 21 #[.slice A l.length c, .agg #[.int .u64 (t.e : Int), .int .u64 (t.a : Int), .int .u64 (t.b : Int)]] w (ThereNew (atL l t) (atE l t) w) :=
  (at_any A c l t w hl hok hn).mono fun x w' ⟨A', c', outL, h1, h2, h3, h4, h5⟩ => ⟨A', c', outL, h1, h2, h3, h4, by
    have := atL_len l t
    rw [← h2, List.length_map] at this
    omega, h5⟩
/-- one list evened out -/
def Evened (l : List (Uk × Int)) (e : Int) (w : World) (x : Ending) (w' : World) : Prop :=
  ∃ A c, ∃ outL : List Up, x = .returned (.tuple #[.slice A outL.length c, .int .i64 e]) ∧ outL.map Up.p = l ∧ Ups w' w'.heap.size A outL ∧ (∀ u ∈ outL, UOk u) ∧ outL.length ≤ 1099511627776 ∧ Below w.heap.size w w'
theorem evened_one (A A1 : Option Addr) (c1 : Nat) (l : List Up) (w : World) (hl : ULs w w.heap.size A [⟨A1, c1, l⟩]) (hok : ∀ u ∈ l, UOk u) (hn : l.length ≤ 1099511627776) :
    Calls Tryz.prog 55 #[.slice A 1 1] w (Evened (consL [l]) (consE [l]) w) := by
  have h0 := consolidate_any A 1 [⟨A1, c1, l⟩] w hl (fun s hs u hu => by
    obtain rfl : s = ⟨A1, c1, l⟩ := by simpa using hs
    exact hok u hu) (by simpa [flatR] using hn) (by simp)
  refine h0.mono fun x w' ⟨A', c', outL, e1, e2, e3, e4, e5⟩ => ?_
  simp only [List.map_cons, List.map_nil] at e1 e2
  refine ⟨A', c', outL, e1, e2, e3, e4, ?_, e5⟩
  have := consL_len [l]
  rw [← e2, List.length_map] at this
  simp only [List.flatten_cons, List.flatten_nil, List.append_nil] at this
  omega
end Go.Proofs.YtllpfngmnccejaaGreat
namespace Go.Proofs.YtllpfngmnccejaaGreat
open Go Go.RowKit

theorem tcells_one (t : Tm) : ∀ v ∈ t.cells, v.oneCell' = true := by
  intro v hv
  simp only [Tm.cells, List.mem_cons, List.not_mem_nil, or_false] at hv
  rcases hv with rfl | rfl | rfl <;> rfl
theorem lies_times {w : World} {B : Nat} {A : Option Addr} {l : List Tm} (h : Times w B A l) : Lies 3 Tm.cells w B A l := fun hp => by
  obtain ⟨b, o, e, hb, hc⟩ := h hp
  refine ⟨b, o, e, hb, fun i t hi j u hj => ?_⟩
  obtain ⟨a0, a1, a2⟩ := hc i t hi
  match j, hj with
  | 0, hj => rw [← hj]; exact a0
  | 1, hj => rw [← hj]; exact a1
  | 2, hj => rw [← hj]; exact a2
theorem times_lies {w : World} {B : Nat} {A : Option Addr} {l : List Tm} (h : Lies 3 Tm.cells w B A l) : Times w B A l := fun hp => by
  obtain ⟨b, o, e, hb, hc⟩ := h hp
  exact ⟨b, o, e, hb, fun i t hi => ⟨hc i t hi 0 _ rfl, hc i t hi 1 _ rfl, hc i t hi 2 _ rfl⟩⟩
/-- a block known whole reads as its list -/
theorem lies_owned {α : Type} {size : Nat} {cells : α → List Value} {w : World} {g : Nat} {t : TypeId} {l : List α} (hcl : ∀ x, (cells x).length = size) (h : Own w g t (l.flatMap cells)) : Lies size cells w w.heap.size (some ⟨g, 0, none⟩) l := fun _ =>
  ⟨g, 0, rfl, h.inside, fun i x hi j u hj => by rw [Nat.zero_add, h.at_]; exact flat_of hcl l i j x u hi hj⟩

set_option maxRecDepth 100000 in
set_option maxHeartbeats 3200000 in
theorem listU_any (A : Option Addr) (c : Nat) (l : List Up) (w : World) (hl : Lies 6 Up.cells w w.heap.size A l) (hn : l.length * 80 ≤ 140737488355328) :
    Calls Tryz.prog 86 #[.slice A l.length c] w fun x w' => ∃ A', x = .returned (.slice A' l.length l.length) ∧ (l = [] → A' = none ∧ w' = w) ∧ (0 < l.length → A' = some ⟨w.heap.size, 0, none⟩ ∧ Own w' w.heap.size 48 (l.flatMap Up.cells)) ∧ Below w.heap.size w w' := by
  obtain ⟨i0, hi, hz0, hz1, hz2⟩ := info_parts infoUp
  have hU := Tryz.underlying22
  have hsz1 : (Tryz.prog.info? 48).map (·.size) = some 6 := by rw [hi]; simp [hz1]
  cases l with
  | nil =>
    clear hl hn hi hz0 hz1 hz2 hU hsz1
    go_enter Tryz.func86, Tryz.ntmps86
    go_wp2_with fail
    go_ret
    exact ⟨none, rfl, fun _ => ⟨rfl, rfl⟩, fun h => absurd h (by simp), Below.refl _ _⟩
  | cons t l =>
    obtain ⟨b, o, rfl, hB, hc⟩ := hl (by simp)
    obtain ⟨m, hm⟩ : ∃ m, m = t :: l := ⟨_, rfl⟩
    have hpos : 0 < m.length := by rw [hm]; simp
    have hne : m ≠ [] := by rw [hm]; simp
    rw [← hm] at hc hn ⊢
    have t1 : ((m.length : Int) == 0) = false := beq_eq_false_iff_ne.2 (by omega)
    have HC := Lib.hid hc
    have HNE := Lib.hid hne
    clear hc hm hl hne
    go_enter Tryz.func86, Tryz.ntmps86
    go_wp2_with (refine wpList_make_full _ rfl (.tmp 8) (.tmp 8) 22 rfl w.heap.size 48 i0 _ 6 hU hi hz0 hz1 .i64 .i64 _ _ m.length rfl rfl rfl rfl ?c1 ?c2 ?c3 ?_)
    case c1 => rw [hz2]; omega
    case c2 => unfold maxLen; omega
    case c3 => exact Nat.le_refl _
    intro w1 ho1 hg1
    obtain ⟨cur, ho1⟩ : ∃ cur, w1.ownsRow w.heap.size 48 6 (.slice (some ⟨w.heap.size, 0, none⟩) m.length m.length) m.length cur := ⟨_, ho1⟩
    have hm1 := own_made ho1
    have hb1 : Below w.heap.size w w1 := (Below.refl _ _).grown hg1 (Nat.le_refl _) (fun k h => by cases h)
    have hlen1 : cur.length = m.length * 6 := ho1.1
    have hcl : (m.flatMap Up.cells).length = m.length * 6 := flat_size (size := 6) (cells := Up.cells) (fun _ => rfl) m
    have hsrc : ∀ j v, (m.flatMap Up.cells)[j]? = some v → w1.cell? ((⟨b, o, none⟩ : Addr).add j) = some v := fun j v hv => by
      obtain ⟨i, r, x, rfl, hx, hr⟩ := flat_back (size := 6) (cells := Up.cells) (by decide) (fun _ => rfl) m j v hv
      have ea : (⟨b, o, none⟩ : Addr).add (i * 6 + r) = ⟨b, o + i * 6 + r, none⟩ := by unfold Addr.add; split <;> simp_all <;> omega
      rw [ea, hb1.cell (p := ⟨b, o + i * 6 + r, none⟩) hB]
      exact HC.out i x hx r v hr
    have hrun := fun ty => run_copy_all (P := Tryz.prog) w1 22 22 ty 48 w.heap.size m.length m.length c 6 ⟨b, o, none⟩ cur (m.flatMap Up.cells) 48 hU hsz1 hm1 hcl hsrc (by rw [hcl, hlen1]) (fun v hv => by
      obtain ⟨x, _, hx⟩ := List.mem_flatMap.1 hv
      exact ucells_one x v hx)
    have ho2 : Own (w1.setRow w.heap.size (m.flatMap Up.cells).toArray) w.heap.size 48 (m.flatMap Up.cells) := own_setRow hm1
    have hb2 : Below w.heap.size w (w1.setRow w.heap.size (m.flatMap Up.cells).toArray) := below_setRow hb1 (Nat.le_refl _) _
    have HR := Lib.hid hrun
    obtain ⟨w2, hw2⟩ : ∃ w2, w2 = w1.setRow w.heap.size (m.flatMap Up.cells).toArray := ⟨_, rfl⟩
    rw [← hw2] at HR ho2 hb2
    have H2 := Lib.hid (And.intro ho2 hb2)
    clear hw2 hrun ho2 hb2 hsrc hcl hm1 hb1 hlen1 ho1 hg1 hU hsz1 hi hz0 hz1 hz2
    go_wp2_with (refine Lib.wpList_copy_run _ rfl _ _ 22 22 rfl _ _ rfl rfl (HR.out _) ?_)
    go_wp2_with fail
    go_ret
    exact ⟨_, rfl, fun h => absurd h HNE.out, fun _ => ⟨rfl, H2.out.1⟩, H2.out.2⟩

set_option maxRecDepth 100000 in
set_option maxHeartbeats 3200000 in
theorem listT_any (A : Option Addr) (c : Nat) (l : List Tm) (w : World) (hl : Lies 3 Tm.cells w w.heap.size A l) (hn : l.length * 24 ≤ 140737488355328) :
    Calls Tryz.prog 39 #[.slice A l.length c] w fun x w' => ∃ A', x = .returned (.slice A' l.length l.length) ∧ (l = [] → A' = none ∧ w' = w) ∧ (0 < l.length → A' = some ⟨w.heap.size, 0, none⟩ ∧ Own w' w.heap.size 46 (l.flatMap Tm.cells)) ∧ Below w.heap.size w w' := by
  obtain ⟨i0, hi, hz0, hz1, hz2⟩ := info_parts infoTm
  have hU := Tryz.underlying23
  have hsz1 : (Tryz.prog.info? 46).map (·.size) = some 3 := by rw [hi]; simp [hz1]
  cases l with
  | nil =>
    clear hl hn hi hz0 hz1 hz2 hU hsz1
    go_enter Tryz.func39, Tryz.ntmps39
    go_wp2_with fail
    go_ret
    exact ⟨none, rfl, fun _ => ⟨rfl, rfl⟩, fun h => absurd h (by simp), Below.refl _ _⟩
  | cons t l =>
    obtain ⟨b, o, rfl, hB, hc⟩ := hl (by simp)
    obtain ⟨m, hm⟩ : ∃ m, m = t :: l := ⟨_, rfl⟩
    have hpos : 0 < m.length := by rw [hm]; simp
    have hne : m ≠ [] := by rw [hm]; simp
    rw [← hm] at hc hn ⊢
    have t1 : ((m.length : Int) == 0) = false := beq_eq_false_iff_ne.2 (by omega)
    have HC := Lib.hid hc
    have HNE := Lib.hid hne
    clear hc hm hl hne
    go_enter Tryz.func39, Tryz.ntmps39
    go_wp2_with (refine wpList_make_full _ rfl (.tmp 8) (.tmp 8) 23 rfl w.heap.size 46 i0 _ 3 hU hi hz0 hz1 .i64 .i64 _ _ m.length rfl rfl rfl rfl ?c1 ?c2 ?c3 ?_)
    case c1 => rw [hz2]; omega
    case c2 => unfold maxLen; omega
    case c3 => exact Nat.le_refl _
    intro w1 ho1 hg1
    obtain ⟨cur, ho1⟩ : ∃ cur, w1.ownsRow w.heap.size 46 3 (.slice (some ⟨w.heap.size, 0, none⟩) m.length m.length) m.length cur := ⟨_, ho1⟩
    have hm1 := own_made ho1
    have hb1 : Below w.heap.size w w1 := (Below.refl _ _).grown hg1 (Nat.le_refl _) (fun k h => by cases h)
    have hlen1 : cur.length = m.length * 3 := ho1.1
    have hcl : (m.flatMap Tm.cells).length = m.length * 3 := flat_size (size := 3) (cells := Tm.cells) (fun _ => rfl) m
    have hsrc : ∀ j v, (m.flatMap Tm.cells)[j]? = some v → w1.cell? ((⟨b, o, none⟩ : Addr).add j) = some v := fun j v hv => by
      obtain ⟨i, r, x, rfl, hx, hr⟩ := flat_back (size := 3) (cells := Tm.cells) (by decide) (fun _ => rfl) m j v hv
      have ea : (⟨b, o, none⟩ : Addr).add (i * 3 + r) = ⟨b, o + i * 3 + r, none⟩ := by unfold Addr.add; split <;> simp_all <;> omega
      rw [ea, hb1.cell (p := ⟨b, o + i * 3 + r, none⟩) hB]
      exact HC.out i x hx r v hr
    have hrun := fun ty => run_copy_all (P := Tryz.prog) w1 23 23 ty 46 w.heap.size m.length m.length c 3 ⟨b, o, none⟩ cur (m.flatMap Tm.cells) 46 hU hsz1 hm1 hcl hsrc (by rw [hcl, hlen1]) (fun v hv => by
      obtain ⟨x, _, hx⟩ := List.mem_flatMap.1 hv
      exact tcells_one x v hx)
    have ho2 : Own (w1.setRow w.heap.size (m.flatMap Tm.cells).toArray) w.heap.size 46 (m.flatMap Tm.cells) := own_setRow hm1
    have hb2 : Below w.heap.size w (w1.setRow w.heap.size (m.flatMap Tm.cells).toArray) := below_setRow hb1 (Nat.le_refl _) _
    have HR := Lib.hid hrun
    obtain ⟨w2, hw2⟩ : ∃ w2, w2 = w1.setRow w.heap.size (m.flatMap Tm.cells).toArray := ⟨_, rfl⟩
    rw [← hw2] at HR ho2 hb2
    have H2 := Lib.hid (And.intro ho2 hb2)
    clear hw2 hrun ho2 hb2 hsrc hcl hm1 hb1 hlen1 ho1 hg1 hU hsz1 hi hz0 hz1 hz2
    go_wp2_with (refine Lib.wpList_copy_run _ rfl _ _ 23 23 rfl _ _ rfl rfl (HR.out _) ?_)
    go_wp2_with fail
    go_ret
    exact ⟨_, rfl, fun h => absurd h HNE.out, fun _ => ⟨rfl, H2.out.1⟩, H2.out.2⟩
/-- a copy of times reads as them -/
theorem listT_times (A : Option Addr) (c : Nat) (l : List Tm) (w : World) (hl : Times w w.heap.size A l) (hn : l.length * 24 ≤ 140737488355328) :
    Calls Tryz.prog 39 #[.slice A l.length c] w fun x w' => ∃ A', x = .returned (.slice A' l.length l.length) ∧ Times w' w'.heap.size A' l ∧ (∀ b o, A' = some ⟨b, o, none⟩ → w.heap.size ≤ b ∧ b < w'.heap.size) ∧ Below w.heap.size w w' :=
  (listT_any A c l w (lies_times hl) hn).mono fun x w' ⟨A', h1, h2, h3, h4⟩ => by
    refine ⟨A', h1, ?_, ?_, h4⟩
    · intro hp
      obtain ⟨rfl, ho⟩ := h3 hp
      exact times_lies (lies_owned (fun _ => rfl) ho) hp
    · intro b o e
      by_cases hp : 0 < l.length
      · obtain ⟨rfl, ho⟩ := h3 hp
        simp only [Option.some.injEq, Addr.mk.injEq, and_true] at e
        have := ho.inside
        omega
      · obtain ⟨rfl, _⟩ := h2 (List.eq_nil_of_length_eq_zero (by omega))
        cases e
end Go.Proofs.YtllpfngmnccejaaGreat
namespace Go.Proofs.YtllpfngmnccejaaGreat
open Go Go.RowKit

/-- an update advanced -/
def Up.advd (f : List Tm) (u : Up) : Up := { u with t := adv u.t f }
def advL (f : List Tm) (l : List Up) : List Up := l.map (Up.advd f)
theorem right_down {s t : Tm} (h : s.le t = true) (ht : t.right = true) : s.right = true := by
  rw [Tm.le_iff] at h
  unfold Tm.right at *
  simp only [Bool.and_eq_true, decide_eq_true_eq] at *
  omega
theorem chk_one {t : Tm} : chk [t] = 0 ↔ t.right = true := by
  unfold chk
  cases h : t.right <;> simp [h]
theorem adv_right {t : Tm} {f : List Tm} (ht : t.right = true) (hf : ∀ x ∈ f, x.right = true) : (adv t f).right = true := by
  cases f with
  | nil => exact ht
  | cons x f =>
    have hx := hf x List.mem_cons_self
    refine right_down (adv_le (x := x) List.mem_cons_self) ?_
    unfold Tm.right at ht hx ⊢
    rw [Bool.and_eq_true, decide_eq_true_eq, decide_eq_true_eq] at ht hx ⊢
    show max t.e x.e ≤ _ ∧ max (max t.a x.a) (max t.b x.b) ≤ _
    omega
theorem chk_adv {f : List Tm} (hf : ∀ x ∈ f, x.right = true) (t : Tm) : chk [adv t f] = chk [t] := by
  cases h : t.right with
  | true => rw [chk_one.2 h, chk_one.2 (adv_right h hf)]
  | false =>
    have h2 : (adv t f).right = false := by
      cases h3 : (adv t f).right with
      | false => rfl
      | true => rw [right_down (le_adv_t t f) h3] at h; cases h
    unfold chk
    simp [h, h2]
theorem chkU_adv {f : List Tm} (hf : ∀ x ∈ f, x.right = true) (u : Up) : chkU (u.advd f) = chkU u := by
  unfold chkU chkK
  show orI (chkRow u.key) (orI (chkRow u.row) (chk [adv u.t f])) = _
  rw [chk_adv hf]
  rfl
theorem chkUs_adv {f : List Tm} (hf : ∀ x ∈ f, x.right = true) : ∀ l : List Up, chkUs (advL f l) = chkUs l
  | [] => rfl
  | u :: l => by
    have ih := chkUs_adv hf l
    unfold advL at *
    rw [List.map_cons]
    unfold chkUs
    rw [chkU_adv hf, ih]
theorem atP_adv {f : List Tm} {t : Tm} (hb : f = [] ∨ beyond f t = true) : ∀ l : List Up, atP (advL f l) t = atP l t
  | [] => rfl
  | u :: l => by
    have ih := atP_adv hb l
    have hu : (u.advd f).t.le t = u.t.le t := by
      rcases hb with rfl | hb
      · rfl
      · exact (adv_same u.t t f hb).symm
    unfold atP advL at *
    rw [List.map_cons, List.filter_cons, List.filter_cons, hu]
    split
    · rw [List.map_cons, List.map_cons, ih]; rfl
    · exact ih
theorem at_advL {f : List Tm} {t : Tm} (hf : ∀ x ∈ f, x.right = true) (hb : f = [] ∨ beyond f t = true) (l : List Up) : atL (advL f l) t = atL l t ∧ atE (advL f l) t = atE l t := by
  have hc : chkAt (advL f l) t = chkAt l t := by unfold chkAt; rw [chkUs_adv hf]
  unfold atL atE
  rw [hc, atP_adv hb]
  exact ⟨rfl, rfl⟩
/-- of updates, and of their batch -/
theorem at_batch {f : List Tm} {t : Tm} {l e : List Up} (hf : ∀ x ∈ f, x.right = true) (hb : f = [] ∨ beyond f t = true) (h : consE [advL f l] = 0) (he : e.map Up.p = consL [advL f l]) : atL l t = atL e t ∧ atE l t = atE e t := by
  obtain ⟨h1, h2⟩ := at_same t h he
  obtain ⟨h3, h4⟩ := at_advL hf hb l
  exact ⟨h3.symm.trans h1, h4.symm.trans h2⟩
/-- the updates of a batch are advanced -/
theorem batch_advd {f : List Tm} {l e : List Up} (h : consE [advL f l] = 0) (he : e.map Up.p = consL [advL f l]) : ∀ u ∈ e, adv u.t f = u.t := fun u hu => by
  obtain ⟨_, h2, h3⟩ := cons_chk h
  simp only [List.flatten_cons, List.flatten_nil, List.append_nil] at h2 h3
  have hm : u.p ∈ nz Uk.cmp ((advL f l).map Up.p) := by
    rw [← (resE_zero h2).1, ← h3, ← he]
    exact List.mem_map_of_mem hu
  have := nz_right (R := fun k : Uk => adv k.t f = k.t) (fun p hp => by
    obtain ⟨v, hv, rfl⟩ := List.mem_map.1 hp
    obtain ⟨v0, _, rfl⟩ := List.mem_map.1 hv
    exact adv_again v0.t f) _ hm
  exact this
/-- a frontier of right times -/
def FrontOk (f : List Tm) : Prop := chk f = 0 ∧ frontL f = f
theorem FrontOk.right {f : List Tm} (h : FrontOk f) : ∀ x ∈ f, x.right = true := by
  have := h.1
  unfold chk at this
  split at this
  · rename_i h1; exact fun x hx => List.all_eq_true.1 h1 x hx
  · omega
/-- a batch that is right -/
def BatchOk (f : List Tm) (l : List Up) : Prop := FrontOk f ∧ EvenP l ∧ ∀ u ∈ l, adv u.t f = u.t
theorem batch_ok {f : List Tm} {l e : List Up} (hf : FrontOk f) (h : consE [advL f l] = 0) (he : e.map Up.p = consL [advL f l]) : BatchOk f e := ⟨hf, cons_even h he, batch_advd h he⟩
theorem advL_id {f : List Tm} {l : List Up} (h : ∀ u ∈ l, adv u.t f = u.t) : advL f l = l := by
  unfold advL
  conv => rhs; rw [← List.map_id l]
  refine List.map_congr_left fun u hu => ?_
  unfold Up.advd
  rw [h u hu]
  rfl
theorem advL_nil (l : List Up) : advL [] l = l := advL_id fun _ _ => rfl
/-- a batch built of a batch's updates is that batch -/
theorem batch_twice {f : List Tm} {l e : List Up} (h : consE [advL f l] = 0) (he : e.map Up.p = consL [advL f l]) : (consE [advL f e] = 0 ∧ consL [advL f e] = e.map Up.p) ∧ consE [advL [] e] = 0 ∧ consL [advL [] e] = e.map Up.p := by
  rw [advL_id (batch_advd h he), advL_nil]
  obtain ⟨h1, h2⟩ := cons_again h he
  exact ⟨⟨h2, h1.trans he.symm⟩, h2, h1.trans he.symm⟩
end Go.Proofs.YtllpfngmnccejaaGreat
namespace Go.Proofs.YtllpfngmnccejaaGreat
open Go Go.RowKit

def KeysUp (l : List Up) : Prop := l.Pairwise fun x y => cmpRows x.key y.key ≤ 0
theorem even_keys {l : List Up} (h : EvenP l) : KeysUp l := by
  have h1 := h.2.1
  unfold Srt at h1
  rw [List.pairwise_map] at h1
  refine h1.imp fun {x y} hxy => ?_
  have hxy : Uk.cmp x.k y.k < 0 := hxy
  unfold Uk.cmp at hxy
  split at hxy
  · rename_i h0; exact Int.le_of_eq h0
  · exact Int.le_of_lt hxy
theorem keys_le {l : List Up} (h : KeysUp l) {i j : Nat} {x y : Up} (hi : l[i]? = some x) (hj : l[j]? = some y) (hij : i ≤ j) : cmpRows x.key y.key ≤ 0 := by
  obtain ⟨hil, rfl⟩ := List.getElem?_eq_some_iff.1 hi
  obtain ⟨hjl, rfl⟩ := List.getElem?_eq_some_iff.1 hj
  by_cases e : i = j
  · subst e; rw [row_lin.self]; exact Int.le_refl _
  · exact List.pairwise_iff_getElem.1 h i j hil hjl (by omega)
/-- where a key is sought -/
def seekB (l : List Up) (k : List Vl) : Nat := (l.takeWhile fun u => decide (cmpRows u.key k < 0)).length
/-- a key's group -/
def groupB (l : List Up) (k : List Vl) : List Up := (l.drop (seekB l k)).takeWhile fun u => decide (cmpRows u.key k = 0)
theorem seek_len (l : List Up) (k : List Vl) : seekB l k ≤ l.length := (List.takeWhile_sublist _).length_le
theorem group_len (l : List Up) (k : List Vl) : seekB l k + (groupB l k).length ≤ l.length := by
  have h1 := (List.takeWhile_sublist (fun u : Up => decide (cmpRows u.key k = 0)) (l := l.drop (seekB l k))).length_le
  have h2 := seek_len l k
  rw [List.length_drop] at h1
  unfold groupB
  omega
theorem seek_cons_lt {l : List Up} {u : Up} {k : List Vl} (h : cmpRows u.key k < 0) : seekB (u :: l) k = seekB l k + 1 := by
  unfold seekB
  rw [List.takeWhile_cons_of_pos (by simpa using h)]
  rfl
theorem seek_cons_ge {l : List Up} {u : Up} {k : List Vl} (h : ¬ cmpRows u.key k < 0) : seekB (u :: l) k = 0 := by
  unfold seekB
  rw [List.takeWhile_cons_of_neg (by simpa using h)]
  rfl
/-- all ahead of it have lesser keys -/
theorem seek_lt : ∀ (l : List Up) (k : List Vl) (i : Nat) (u : Up), i < seekB l k → l[i]? = some u → cmpRows u.key k < 0
  | [], _, _, _, h, _ => by simp [seekB] at h
  | x :: l, k, i, u, h, hu => by
    by_cases hx : cmpRows x.key k < 0
    · rw [seek_cons_lt hx] at h
      cases i with
      | zero => rw [List.getElem?_cons_zero] at hu; cases hu; exact hx
      | succ i => rw [List.getElem?_cons_succ] at hu; exact seek_lt l k i u (by omega) hu
    · rw [seek_cons_ge hx] at h; omega
/-- the one there has not -/
theorem seek_at : ∀ (l : List Up) (k : List Vl) (u : Up), l[seekB l k]? = some u → ¬ cmpRows u.key k < 0
  | [], _, _, h => by simp at h
  | x :: l, k, u, h => by
    by_cases hx : cmpRows x.key k < 0
    · rw [seek_cons_lt hx, List.getElem?_cons_succ] at h; exact seek_at l k u h
    · rw [seek_cons_ge hx, List.getElem?_cons_zero] at h; cases h; exact hx
/-- nor has one behind it -/
theorem seek_ge {l : List Up} {k : List Vl} (hl : KeysUp l) {i : Nat} {u : Up} (h : seekB l k ≤ i) (hu : l[i]? = some u) : ¬ cmpRows u.key k < 0 := by
  have hi := (List.getElem?_eq_some_iff.1 hu).1
  have hs : seekB l k < l.length := by omega
  have h1 := seek_at l k _ (List.getElem?_eq_getElem hs)
  have h2 := keys_le hl (List.getElem?_eq_getElem hs) hu h
  intro h3
  exact h1 (row_lin.le_lt h2 h3)
/-- it is the one place with both -/
theorem seek_only {l : List Up} {k : List Vl} {n : Nat} (hn : n ≤ l.length) (h1 : ∀ i u, i < n → l[i]? = some u → cmpRows u.key k < 0) (h2 : ∀ u, l[n]? = some u → ¬ cmpRows u.key k < 0) : seekB l k = n := by
  rcases Nat.lt_trichotomy (seekB l k) n with h | h | h
  · have hs : seekB l k < l.length := by omega
    exact absurd (h1 _ _ h (List.getElem?_eq_getElem hs)) (seek_at l k _ (List.getElem?_eq_getElem hs))
  · exact h
  · have hs : n < l.length := Nat.lt_of_lt_of_le h (seek_len l k)
    exact absurd (seek_lt l k n _ h (List.getElem?_eq_getElem hs)) (h2 _ (List.getElem?_eq_getElem hs))
theorem take_filter {k : List Vl} : ∀ {l : List Up}, KeysUp l → (∀ v ∈ l, ¬ cmpRows v.key k < 0) → l.takeWhile (fun u => decide (cmpRows u.key k = 0)) = l.filter fun u => decide (cmpRows u.key k = 0)
  | [], _, _ => rfl
  | v :: l, h, hv => by
    have hl := (List.pairwise_cons.1 h)
    by_cases h0 : cmpRows v.key k = 0
    · rw [List.takeWhile_cons_of_pos (by simpa using h0), List.filter_cons_of_pos (by simpa using h0), take_filter hl.2 fun x hx => hv x (List.mem_cons_of_mem _ hx)]
    · rw [List.takeWhile_cons_of_neg (by simpa using h0), List.filter_cons_of_neg (by simpa using h0), eq_comm, List.filter_eq_nil_iff]
      intro x hx
      have h1 := hl.1 x hx
      have h2 := hv v List.mem_cons_self
      have h3 : cmpRows k v.key < 0 := by have := row_lin.swap v.key k; omega
      have h4 := row_lin.lt_le h3 h1
      have h5 := row_lin.swap k x.key
      simp only [decide_eq_true_eq]
      omega
/-- a group is all updates of its key -/
theorem group_filter {k : List Vl} : ∀ {l : List Up}, KeysUp l → groupB l k = l.filter fun u => decide (cmpRows u.key k = 0)
  | [], _ => by simp [groupB]
  | v :: l, h => by
    have hl := (List.pairwise_cons.1 h)
    by_cases h0 : cmpRows v.key k < 0
    · have ih := group_filter (k := k) hl.2
      rw [List.filter_cons_of_neg (by simp only [decide_eq_true_eq]; omega), ← ih]
      unfold groupB
      rw [seek_cons_lt h0, List.drop_succ_cons]
    · unfold groupB
      rw [seek_cons_ge h0, List.drop_zero]
      refine take_filter h fun x hx => ?_
      rcases List.mem_cons.1 hx with rfl | hx
      · exact h0
      · intro h3
        exact h0 (row_lin.le_lt (hl.1 x hx) h3)
theorem cnt_split {α : Type} {p q r : α → Bool} : ∀ {l : List α}, (∀ x ∈ l, p x = (q x || r x)) → (∀ x ∈ l, (q x && r x) = false) → (l.filter p).length = (l.filter q).length + (l.filter r).length
  | [], _, _ => rfl
  | x :: l, h1, h2 => by
    have ih := cnt_split (l := l) (fun y hy => h1 y (List.mem_cons_of_mem _ hy)) fun y hy => h2 y (List.mem_cons_of_mem _ hy)
    have e1 := h1 x List.mem_cons_self
    have e2 := h2 x List.mem_cons_self
    rw [List.filter_cons, List.filter_cons, List.filter_cons, e1]
    cases hq : q x <;> cases hr : r x <;> simp_all <;> omega
/-- the updates up to a key -/
def leB (l : List Up) (k : List Vl) : List Up := l.filter fun u => decide (cmpRows u.key k ≤ 0)
theorem heads_same {l : List Up} {a b : List Vl} (h : cmpRows a b = 0) : leB l b = leB l a := by
  unfold leB
  refine List.filter_congr fun x _ => ?_
  have h1 : cmpRows b a = 0 := by have := row_lin.swap a b; omega
  rw [decide_eq_decide]
  exact ⟨fun k => (row_lin.le x.key b a k (by omega)).1, fun k => (row_lin.le x.key a b k (by omega)).1⟩
theorem heads_step {l : List Up} (hl : KeysUp l) {j : Nat} {u v : Up} (hu : l[j]? = some u) (hv : l[j + 1]? = some v) (hne : cmpRows u.key v.key ≠ 0) : (leB l v.key).length = (leB l u.key).length + (groupB l v.key).length := by
  rw [group_filter hl]
  unfold leB
  have huv : cmpRows u.key v.key < 0 := by have := keys_le hl hu hv (by omega); omega
  refine cnt_split (fun x hx => ?_) fun x hx => ?_
  · obtain ⟨i, hi⟩ := List.mem_iff_getElem?.1 hx
    rw [Bool.eq_iff_iff, Bool.or_eq_true, decide_eq_true_eq, decide_eq_true_eq, decide_eq_true_eq]
    by_cases hij : i ≤ j
    · have h1 := keys_le hl hi hu hij
      have h2 := row_lin.le_lt h1 huv
      exact ⟨fun _ => .inl h1, fun _ => by omega⟩
    · have h1 := keys_le hl hv hi (by omega)
      have h2 := row_lin.swap v.key x.key
      have h3 := row_lin.lt_le huv h1
      have h4 := row_lin.swap u.key x.key
      exact ⟨fun _ => .inr (by omega), fun h => by omega⟩
  · cases h1 : decide (cmpRows x.key u.key ≤ 0) with
    | false => rfl
    | true =>
      have h2 := row_lin.le_lt (of_decide_eq_true h1) huv
      rw [Bool.true_and]
      exact decide_eq_false (by omega)
theorem heads_first {l : List Up} (hl : KeysUp l) {u : Up} (hu : l[0]? = some u) : (leB l u.key).length = (groupB l u.key).length := by
  rw [group_filter hl]
  unfold leB
  rw [List.filter_congr fun x hx => ?_]
  obtain ⟨i, hi⟩ := List.mem_iff_getElem?.1 hx
  have h1 := keys_le hl hu hi (Nat.zero_le _)
  have h2 := row_lin.swap u.key x.key
  rw [decide_eq_decide]
  omega
theorem heads_last {l : List Up} (hl : KeysUp l) {j : Nat} {u : Up} (hu : l[j]? = some u) (hj : j + 1 = l.length) : (leB l u.key).length = l.length := by
  unfold leB
  rw [List.filter_eq_self.2 fun x hx => ?_]
  obtain ⟨i, hi⟩ := List.mem_iff_getElem?.1 hx
  have := (List.getElem?_eq_some_iff.1 hi).1
  exact decide_eq_true (keys_le hl hi hu (by omega))
end Go.Proofs.YtllpfngmnccejaaGreat
namespace Go.Proofs.YtllpfngmnccejaaGreat
open Go Go.RowKit

/-- the order of keys and rows -/
def plc (a b : Up) : Int := if cmpRows a.key b.key = 0 then cmpRows a.row b.row else cmpRows a.key b.key
theorem plc_lin : Lin plc (fun _ => False) where
  swap a b := by
    unfold plc
    rw [cmpRows_swap a.key b.key, cmpRows_swap a.row b.row]
    by_cases h1 : cmpRows a.key b.key = 0
    · rw [if_pos (by omega), if_pos h1]
    · rw [if_neg (by omega), if_neg h1]
  le a b c h k := by
    unfold plc at *
    exact lex_le h k (cmpRows_le a.key b.key c.key) rows_zero (cmpRows_le a.row b.row c.row)
  eq _ _ h _ := h.elim
theorem plc_cmp {a b : Up} {s t : Tm} (h : plc a b < 0) : Uk.cmp ⟨a.key, a.row, s⟩ ⟨b.key, b.row, t⟩ < 0 := by
  unfold plc at h
  unfold Uk.cmp
  dsimp only
  split at h
  · rename_i h0; rw [if_pos h0, if_neg (by omega)]; exact h
  · rename_i h0; rw [if_neg h0]; exact h
def PlUp (l : List Up) : Prop := l.Pairwise fun x y => plc x y ≤ 0
theorem even_plc {l : List Up} (h : EvenP l) : PlUp l := by
  have h1 := h.2.1
  unfold Srt at h1
  rw [List.pairwise_map] at h1
  refine h1.imp fun {x y} hxy => ?_
  have hxy : Uk.cmp x.k y.k < 0 := hxy
  unfold Uk.cmp at hxy
  unfold plc
  split at hxy
  · rename_i h0
    have h0 : cmpRows x.key y.key = 0 := h0
    rw [if_pos h0]
    split at hxy
    · rename_i h2; exact Int.le_of_eq h2
    · exact Int.le_of_lt hxy
  · rename_i h0
    have h0 : ¬ cmpRows x.key y.key = 0 := h0
    rw [if_neg h0]
    exact Int.le_of_lt hxy
/-- those of r of the place of u, as far as they stand in front -/
def grp (u : Up) (r : List Up) : List Up := r.takeWhile fun x => decide (plc x u = 0)
theorem tw_mem {p : Up → Bool} {x : Up} : ∀ {l : List Up}, x ∈ l.takeWhile p → p x = true
  | [], h => by simp at h
  | y :: l, h => by
    by_cases hy : p y = true
    · rw [List.takeWhile_cons_of_pos hy] at h
      rcases List.mem_cons.1 h with rfl | h
      · exact hy
      · exact tw_mem h
    · rw [List.takeWhile_cons_of_neg hy] at h; simp at h
theorem grp_mem {u x : Up} {r : List Up} (h : x ∈ grp u r) : plc x u = 0 ∧ x ∈ r := ⟨of_decide_eq_true (tw_mem h), (List.takeWhile_sublist _).subset h⟩
theorem grp_split (u : Up) (r : List Up) : r = grp u r ++ r.drop (grp u r).length := by
  unfold grp
  induction r with
  | nil => rfl
  | cons x r ih =>
    by_cases h : plc x u = 0
    · rw [List.takeWhile_cons_of_pos (by simpa using h), List.length_cons, List.drop_succ_cons, List.cons_append, ← ih]
    · rw [List.takeWhile_cons_of_neg (by simpa using h)]; rfl
theorem past_grp {u : Up} : ∀ {r : List Up}, PlUp r → (∀ y ∈ r, plc u y ≤ 0) → ∀ y ∈ r.drop (grp u r).length, plc u y < 0
  | [], _, _, y, h => by simp at h
  | v :: r, hr, hu, y, h => by
    have hc := List.pairwise_cons.1 hr
    unfold grp at h
    by_cases h0 : plc v u = 0
    · rw [List.takeWhile_cons_of_pos (by simpa using h0), List.length_cons, List.drop_succ_cons] at h
      exact past_grp hc.2 (fun y hy => hu y (List.mem_cons_of_mem _ hy)) y h
    · rw [List.takeWhile_cons_of_neg (by simpa using h0), List.length_nil, List.drop_zero] at h
      have h1 := hu v List.mem_cons_self
      have h2 := plc_lin.swap v u
      have h3 : plc u v < 0 := by omega
      rcases List.mem_cons.1 h with rfl | h
      · exact h3
      · exact plc_lin.lt_le h3 (hc.1 y h)
/-- the merger, somewhere on its way: ta, tb are taken, ra, rb are left -/
structure MInv (f : List Tm) (ta ra tb rb : List Up) (out : List (Uk × Int)) : Prop where
  sep : ∀ x ∈ ta ++ tb, ∀ y ∈ ra ++ rb, plc x y < 0
  fit : resE Uk.cmp ((advL f (ta ++ tb)).map Up.p) = 0
  out_ : out = nz Uk.cmp ((advL f (ta ++ tb)).map Up.p)
theorem merge_start (f : List Tm) (a b : List Up) : MInv f [] a [] b [] := ⟨fun x hx => (by simp at hx), rfl, rfl⟩
theorem keys_apart {f : List Tm} {X Y : List Up} (h : ∀ x ∈ X, ∀ y ∈ Y, plc x y < 0) : ∀ x ∈ (advL f X).map Up.p, ∀ y ∈ (advL f Y).map Up.p, Uk.cmp x.1 y.1 < 0 := fun x hx y hy => by
  obtain ⟨x', hx', rfl⟩ := List.mem_map.1 hx
  obtain ⟨x0, hx0, rfl⟩ := List.mem_map.1 hx'
  obtain ⟨y', hy', rfl⟩ := List.mem_map.1 hy
  obtain ⟨y0, hy0, rfl⟩ := List.mem_map.1 hy'
  exact plc_cmp (h x0 hx0 y0 hy0)
theorem res_apart {X Y : List (Uk × Int)} (h : ∀ x ∈ X, ∀ y ∈ Y, Uk.cmp x.1 y.1 < 0) : nz Uk.cmp (X ++ Y) = nz Uk.cmp X ++ nz Uk.cmp Y ∧ (resE Uk.cmp (X ++ Y) = 0 ↔ resE Uk.cmp X = 0 ∧ resE Uk.cmp Y = 0) := by
  unfold nz resE
  rw [asm_append h, List.filter_append, List.all_append]
  refine ⟨rfl, ?_⟩
  cases ((asm Uk.cmp X).all fun x => fits x.2) <;> cases ((asm Uk.cmp Y).all fun x => fits x.2) <;> simp
theorem advL_append (f : List Tm) (X Y : List Up) : advL f (X ++ Y) = advL f X ++ advL f Y := List.map_append
theorem adv_keys {f : List Tm} (hf : ∀ x ∈ f, x.right = true) {X : List Up} (h : chkUs X = 0) : ∀ x ∈ (advL f X).map Up.p, UkR x.1 := keys_right (chkUs_all.1 ((chkUs_adv hf X).trans h))
theorem taken_same {f : List Tm} (hf : ∀ x ∈ f, x.right = true) {ta ga tb gb : List Up} (h : chkUs (ta ++ ga ++ (tb ++ gb)) = 0) :
    nz Uk.cmp ((advL f (ta ++ ga ++ (tb ++ gb))).map Up.p) = nz Uk.cmp ((advL f (ta ++ tb)).map Up.p ++ (advL f (ga ++ gb)).map Up.p) ∧ resE Uk.cmp ((advL f (ta ++ ga ++ (tb ++ gb))).map Up.p) = resE Uk.cmp ((advL f (ta ++ tb)).map Up.p ++ (advL f (ga ++ gb)).map Up.p) := by
  have hl := adv_keys hf h
  have hm : ∀ x ∈ (advL f (ta ++ tb)).map Up.p ++ (advL f (ga ++ gb)).map Up.p, UkR x.1 := by
    rw [← List.map_append, ← advL_append]
    refine adv_keys hf (chkUs_all.2 fun u hu => chkUs_all.1 h u ?_)
    simp only [List.mem_append] at hu ⊢
    rcases hu with (hu | hu) | (hu | hu)
    · exact .inl (.inl hu)
    · exact .inr (.inl hu)
    · exact .inl (.inr hu)
    · exact .inr (.inr hu)
  have hs : ∀ k, sumOf Uk.cmp ((advL f (ta ++ ga ++ (tb ++ gb))).map Up.p) k = sumOf Uk.cmp ((advL f (ta ++ tb)).map Up.p ++ (advL f (ga ++ gb)).map Up.p) k := fun k => by
    simp only [advL_append, List.map_append, sumOf_append]
    omega
  exact ⟨nz_ext uk_lin hl hm hs, (resL_ext uk_lin hl hm hs).2⟩
/-- one step -/
theorem merge_step {f : List Tm} {ta ra tb rb : List Up} {out : List (Uk × Int)} (hm : MInv f ta ra tb rb out) (hf : ∀ x ∈ f, x.right = true) (hc : chkUs (ta ++ ra ++ (tb ++ rb)) = 0) (hra : PlUp ra) (hrb : PlUp rb) {u : Up} (hu : ∀ y ∈ ra ++ rb, plc u y ≤ 0)
    (hE : consE [advL f (grp u ra ++ grp u rb)] = 0) :
    MInv f (ta ++ grp u ra) (ra.drop (grp u ra).length) (tb ++ grp u rb) (rb.drop (grp u rb).length) (out ++ consL [advL f (grp u ra ++ grp u rb)]) := by
  have hg : ∀ y ∈ grp u ra ++ grp u rb, plc y u = 0 ∧ y ∈ ra ++ rb := fun y hy => by
    rcases List.mem_append.1 hy with hy | hy
    · exact ⟨(grp_mem hy).1, List.mem_append_left _ (grp_mem hy).2⟩
    · exact ⟨(grp_mem hy).1, List.mem_append_right _ (grp_mem hy).2⟩
  have hc' : chkUs (ta ++ grp u ra ++ (tb ++ grp u rb)) = 0 := chkUs_all.2 fun v hv => chkUs_all.1 hc v (by
    simp only [List.mem_append] at hv ⊢
    rcases hv with (hv | hv) | (hv | hv)
    · exact .inl (.inl hv)
    · exact .inl (.inr (grp_mem hv).2)
    · exact .inr (.inl hv)
    · exact .inr (.inr (grp_mem hv).2))
  obtain ⟨e1, e2⟩ := taken_same hf hc'
  obtain ⟨a1, a2⟩ := res_apart (keys_apart (f := f) (X := ta ++ tb) (Y := grp u ra ++ grp u rb) fun x hx y hy => hm.sep x hx y (hg y hy).2)
  obtain ⟨_, c2, c3⟩ := cons_chk hE
  simp only [List.flatten_cons, List.flatten_nil, List.append_nil] at c2 c3
  refine ⟨fun x hx y hy => ?_, ?_, ?_⟩
  · have hy' : y ∈ ra ++ rb ∧ plc u y < 0 := by
      rcases List.mem_append.1 hy with hy | hy
      · exact ⟨List.mem_append_left _ (List.mem_of_mem_drop hy), past_grp hra (fun z hz => hu z (List.mem_append_left _ hz)) y hy⟩
      · exact ⟨List.mem_append_right _ (List.mem_of_mem_drop hy), past_grp hrb (fun z hz => hu z (List.mem_append_right _ hz)) y hy⟩
    have hx' : x ∈ ta ++ tb ∨ x ∈ grp u ra ++ grp u rb := by
      simp only [List.mem_append] at hx ⊢
      rcases hx with (hx | hx) | (hx | hx)
      · exact .inl (.inl hx)
      · exact .inr (.inl hx)
      · exact .inl (.inr hx)
      · exact .inr (.inr hx)
    rcases hx' with hx | hx
    · exact hm.sep x hx y hy'.1
    · exact plc_lin.le_lt (by have := (hg x hx).1; omega) hy'.2
  · rw [e2, a2]; exact ⟨hm.fit, c2⟩
  · rw [e1, a1, hm.out_, c3, (resE_zero c2).1]
theorem res_ten {l : List (Uk × Int)} (h : resE Uk.cmp l ≠ 0) : resE Uk.cmp l = 10 := by
  unfold resE at *
  split at h
  · exact absurd rfl h
  · rename_i h1; rw [if_neg h1]
/-- a step that fails: then both together fail -/
theorem merge_fail {f : List Tm} {ta ra tb rb : List Up} {out : List (Uk × Int)} (hm : MInv f ta ra tb rb out) (hf : ∀ x ∈ f, x.right = true) (hc : chkUs (ta ++ ra ++ (tb ++ rb)) = 0) (hra : PlUp ra) (hrb : PlUp rb) {u : Up} (hu : ∀ y ∈ ra ++ rb, plc u y ≤ 0)
    (hE : consE [advL f (grp u ra ++ grp u rb)] ≠ 0) : consE [advL f (grp u ra ++ grp u rb)] = 10 ∧ consE [advL f (ta ++ ra ++ (tb ++ rb))] = 10 := by
  have hcg : chkUs (grp u ra ++ grp u rb) = 0 := chkUs_all.2 fun v hv => chkUs_all.1 hc v (by
    simp only [List.mem_append] at hv ⊢
    rcases hv with hv | hv
    · exact .inl (.inr (grp_mem hv).2)
    · exact .inr (.inr (grp_mem hv).2))
  have hone : ∀ {l : List Up}, chkUs l = 0 → consE [advL f l] = resE Uk.cmp ((advL f l).map Up.p) := fun {l} h => by
    unfold consE
    rw [if_pos (chkLs_all.2 fun m hm => by obtain rfl : m = advL f l := (by simpa using hm); exact (chkUs_adv hf l).trans h)]
    simp
  rw [hone hcg] at hE ⊢
  rw [hone hc]
  refine ⟨res_ten hE, res_ten fun h => hE ?_⟩
  rw [(taken_same hf hc).2] at h
  have h1 := ((res_apart (keys_apart (f := f) (X := ta ++ tb) (Y := ra ++ rb) hm.sep)).2.1 h).2
  have hsp : ra ++ rb = grp u ra ++ ra.drop (grp u ra).length ++ (grp u rb ++ rb.drop (grp u rb).length) := by rw [← grp_split, ← grp_split]
  have hcr : chkUs (grp u ra ++ ra.drop (grp u ra).length ++ (grp u rb ++ rb.drop (grp u rb).length)) = 0 := by
    rw [← hsp]
    exact chkUs_all.2 fun v hv => chkUs_all.1 hc v (by
      simp only [List.mem_append] at hv ⊢
      rcases hv with hv | hv
      · exact .inl (.inr hv)
      · exact .inr (.inr hv))
  rw [hsp, (taken_same hf hcr).2] at h1
  refine ((res_apart (keys_apart (f := f) (X := grp u ra ++ grp u rb) (Y := ra.drop (grp u ra).length ++ rb.drop (grp u rb).length) fun x hx y hy => ?_)).2.1 h1).1
  have hx0 : plc x u = 0 := by
    rcases List.mem_append.1 hx with hx | hx
    · exact (grp_mem hx).1
    · exact (grp_mem hx).1
  refine plc_lin.le_lt (b := u) (by omega) ?_
  rcases List.mem_append.1 hy with hy | hy
  · exact past_grp hra (fun z hz => hu z (List.mem_append_left _ hz)) y hy
  · exact past_grp hrb (fun z hz => hu z (List.mem_append_right _ hz)) y hy
/-- at the end: what both together make -/
theorem merge_end {f : List Tm} {a b : List Up} {out : List (Uk × Int)} (hm : MInv f a [] b [] out) (hf : ∀ x ∈ f, x.right = true) (hc : chkUs (a ++ b) = 0) : consE [advL f (a ++ b)] = 0 ∧ consL [advL f (a ++ b)] = out := by
  have h1 : chkLs [advL f (a ++ b)] = 0 := chkLs_all.2 fun m hm => by obtain rfl : m = advL f (a ++ b) := (by simpa using hm); exact (chkUs_adv hf _).trans hc
  unfold consE consL
  rw [if_pos h1, if_pos h1]
  simp only [List.flatten_cons, List.flatten_nil, List.append_nil]
  exact ⟨hm.fit, by rw [(resE_zero hm.fit).1, hm.out_]⟩
end Go.Proofs.YtllpfngmnccejaaGreat
namespace Go.Proofs.YtllpfngmnccejaaGreat
open Go Go.RowKit

/-- an update with the key and row of the next step -/
def nextM : List Up → List Up → Option Up
  | [], [] => none
  | x :: _, [] => some x
  | [], y :: _ => some y
  | x :: _, y :: _ => if plc x y ≤ 0 then some x else some y
theorem next_none {ra rb : List Up} : nextM ra rb = none ↔ ra = [] ∧ rb = [] := by
  cases ra <;> cases rb <;> simp [nextM]
  split <;> simp
theorem plc_self (u : Up) : plc u u = 0 := plc_lin.self u
theorem head_le {x : Up} {r : List Up} (h : PlUp (x :: r)) : ∀ y ∈ x :: r, plc x y ≤ 0 := fun y hy => by
  rcases List.mem_cons.1 hy with rfl | hy
  · exact Int.le_of_eq (plc_self _)
  · exact (List.pairwise_cons.1 h).1 y hy
theorem next_min {ra rb : List Up} {u : Up} (h : nextM ra rb = some u) (hra : PlUp ra) (hrb : PlUp rb) : ∀ y ∈ ra ++ rb, plc u y ≤ 0 := by
  cases ra with
  | nil =>
    cases rb with
    | nil => cases h
    | cons y rb =>
      obtain rfl : y = u := by simpa [nextM] using h
      simpa using head_le hrb
  | cons x ra =>
    cases rb with
    | nil =>
      obtain rfl : x = u := by simpa [nextM] using h
      simpa using head_le hra
    | cons y rb =>
      have h : (if plc x y ≤ 0 then some x else some y) = some u := h
      split at h
      · rename_i h0
        obtain rfl : x = u := by simpa using h
        intro z hz
        rcases List.mem_append.1 hz with hz | hz
        · exact head_le hra z hz
        · exact (plc_lin.le x y z h0 (head_le hrb z hz)).1
      · rename_i h0
        obtain rfl : y = u := by simpa using h
        have h1 : plc y x < 0 := by have := plc_lin.swap x y; omega
        intro z hz
        rcases List.mem_append.1 hz with hz | hz
        · exact Int.le_of_lt (plc_lin.lt_le h1 (head_le hra z hz))
        · exact head_le hrb z hz
theorem grp_head (u : Up) (r : List Up) : 0 < (grp u (u :: r)).length := by
  unfold grp
  rw [List.takeWhile_cons_of_pos (by simpa using plc_self u)]
  exact Nat.succ_pos _
/-- a step takes some -/
theorem grp_pos {ra rb : List Up} {u : Up} (h : nextM ra rb = some u) : 0 < (grp u ra).length + (grp u rb).length := by
  cases ra with
  | nil =>
    cases rb with
    | nil => cases h
    | cons y rb =>
      obtain rfl : y = u := by simpa [nextM] using h
      have := grp_head y rb; omega
  | cons x ra =>
    cases rb with
    | nil =>
      obtain rfl : x = u := by simpa [nextM] using h
      have := grp_head x ra; omega
    | cons y rb =>
      have h : (if plc x y ≤ 0 then some x else some y) = some u := h
      split at h
      · obtain rfl : x = u := by simpa using h
        have := grp_head x ra; omega
      · obtain rfl : y = u := by simpa using h
        have := grp_head y rb; omega
theorem plup_drop {r : List Up} (h : PlUp r) (n : Nat) : PlUp (r.drop n) := List.Pairwise.sublist (List.drop_sublist _ _) h
section
variable {f : List Tm} {ta ra tb rb : List Up} {out : List (Uk × Int)} {O : List Up}
theorem minv_key (hm : MInv f ta ra tb rb out) (hO : O.map Up.p = out) {z : Up} (hz : z ∈ O) : ∃ x ∈ ta ++ tb, x.key = z.key ∧ x.row = z.row ∧ adv x.t f = z.t := by
  have h : z.p ∈ nz Uk.cmp ((advL f (ta ++ tb)).map Up.p) := by rw [← hm.out_, ← hO]; exact List.mem_map_of_mem hz
  obtain ⟨p, hp, e⟩ := nz_keys h
  obtain ⟨v, hv, rfl⟩ := List.mem_map.1 hp
  obtain ⟨x, hx, rfl⟩ := List.mem_map.1 hv
  have e : (⟨x.key, x.row, adv x.t f⟩ : Uk) = ⟨z.key, z.row, z.t⟩ := e
  injection e with e1 e2 e3
  exact ⟨x, hx, e1, e2, e3⟩
theorem minv_advd (hm : MInv f ta ra tb rb out) (hO : O.map Up.p = out) : ∀ z ∈ O, adv z.t f = z.t := fun z hz => by
  obtain ⟨x, _, _, _, e⟩ := minv_key hm hO hz
  rw [← e]
  exact adv_again x.t f
theorem minv_ahead (hm : MInv f ta ra tb rb out) (hO : O.map Up.p = out) : ∀ z ∈ O, ∀ y ∈ ra ++ rb, plc z y < 0 := fun z hz y hy => by
  obtain ⟨x, hx, e1, e2, _⟩ := minv_key hm hO hz
  have := hm.sep x hx y hy
  unfold plc at *
  rwa [e1, e2] at this
theorem minv_even (hm : MInv f ta ra tb rb out) (hf : ∀ x ∈ f, x.right = true) (hc : chkUs (ta ++ tb) = 0) (hO : O.map Up.p = out) : EvenP O := by
  have hR := adv_keys hf hc
  have hn : O.map Up.p = nz Uk.cmp ((advL f (ta ++ tb)).map Up.p) := hO.trans hm.out_
  refine ⟨fun z hz => ?_, by rw [hn]; exact nz_srt uk_lin _, chkUs_all.2 fun z hz => ?_⟩
  · have h : z.p ∈ nz Uk.cmp ((advL f (ta ++ tb)).map Up.p) := by rw [← hn]; exact List.mem_map_of_mem hz
    exact ((nz_mem uk_lin hR z.p).1 h).2.2
  · have h : z.p ∈ nz Uk.cmp ((advL f (ta ++ tb)).map Up.p) := by rw [← hn]; exact List.mem_map_of_mem hz
    exact nz_right (R := UkR) hR _ h
end
end Go.Proofs.YtllpfngmnccejaaGreat
namespace Go.Proofs.YtllpfngmnccejaaGreat
open Go Go.RowKit

/-- a merger at work: of both lists what is taken and what is left, what came of it, the cost, the error -/
structure MS where
  ta : List Up
  ra : List Up
  tb : List Up
  rb : List Up
  out : List (Uk × Int)
  cost : Nat
  E : Int
def MS.left (s : MS) : Nat := s.ra.length + s.rb.length
def MS.step (f : List Tm) (s : MS) (u : Up) : MS :=
  { ta := s.ta ++ grp u s.ra, ra := s.ra.drop (grp u s.ra).length, tb := s.tb ++ grp u s.rb, rb := s.rb.drop (grp u s.rb).length, out := s.out ++ consL [advL f (grp u s.ra ++ grp u s.rb)], cost := s.cost + ((grp u s.ra).length + (grp u s.rb).length), E := 0 }
def workM (f : List Tm) (fuel : Int) : Nat → MS → MS
  | 0, s => s
  | n + 1, s => if (s.cost : Int) < fuel then
      match nextM s.ra s.rb with
      | none => s
      | some u => if consE [advL f (grp u s.ra ++ grp u s.rb)] = 0 then workM f fuel n (s.step f u) else { s with E := consE [advL f (grp u s.ra ++ grp u s.rb)] }
    else s
theorem grp_le (u : Up) (r : List Up) : (grp u r).length ≤ r.length := (List.takeWhile_sublist _).length_le
theorem step_left {f : List Tm} {s : MS} {u : Up} (h : nextM s.ra s.rb = some u) : (s.step f u).left < s.left ∧ (s.step f u).cost + (s.step f u).left = s.cost + s.left ∧ s.cost < (s.step f u).cost := by
  have h1 := grp_pos h
  have h2 := grp_le u s.ra
  have h3 := grp_le u s.rb
  unfold MS.left MS.step
  dsimp only
  rw [List.length_drop, List.length_drop]
  omega
/-- what stays right on the way -/
structure MS.Fine (f : List Tm) (a b : List Up) (s : MS) : Prop where
  inv : MInv f s.ta s.ra s.tb s.rb s.out
  a_ : s.ta ++ s.ra = a
  b_ : s.tb ++ s.rb = b
theorem fine_step {f : List Tm} {a b : List Up} {s : MS} {u : Up} (h : s.Fine f a b) (hf : ∀ x ∈ f, x.right = true) (hc : chkUs (a ++ b) = 0) (ha : PlUp a) (hb : PlUp b) (hu : nextM s.ra s.rb = some u) (hE : consE [advL f (grp u s.ra ++ grp u s.rb)] = 0) : (s.step f u).Fine f a b := by
  have hra : PlUp s.ra := by have := h.a_ ▸ ha; exact (List.pairwise_append.1 this).2.1
  have hrb : PlUp s.rb := by have := h.b_ ▸ hb; exact (List.pairwise_append.1 this).2.1
  refine ⟨merge_step h.inv hf (by rw [h.a_, h.b_]; exact hc) hra hrb (next_min hu hra hrb) hE, ?_, ?_⟩
  · show s.ta ++ grp u s.ra ++ s.ra.drop (grp u s.ra).length = a
    rw [List.append_assoc, ← grp_split, h.a_]
  · show s.tb ++ grp u s.rb ++ s.rb.drop (grp u s.rb).length = b
    rw [List.append_assoc, ← grp_split, h.b_]
/-- all that work does -/
theorem work_fine {f : List Tm} {a b : List Up} (hf : ∀ x ∈ f, x.right = true) (hc : chkUs (a ++ b) = 0) (ha : PlUp a) (hb : PlUp b) (fuel : Int) : ∀ (n : Nat) (s : MS), s.E = 0 → s.left ≤ n → s.Fine f a b →
    (workM f fuel n s).Fine f a b ∧ (workM f fuel n s).cost + (workM f fuel n s).left = s.cost + s.left ∧ s.cost ≤ (workM f fuel n s).cost ∧
    ((workM f fuel n s).E = 0 ∧ ((workM f fuel n s).left = 0 ∨ fuel ≤ (workM f fuel n s).cost) ∧ ((s.cost : Int) < fuel → 0 < s.left → s.cost < (workM f fuel n s).cost) ∨ (workM f fuel n s).E = 10 ∧ consE [advL f (a ++ b)] = 10) ∧
    ((s.left = 0 ∨ fuel ≤ s.cost) → workM f fuel n s = s)
  | 0, s, h0, hl, hs => ⟨hs, rfl, Nat.le_refl _, .inl ⟨h0, .inl (by show s.left = 0; omega), fun _ h => by omega⟩, fun _ => rfl⟩
  | n + 1, s, h0, hl, hs => by
    by_cases hlt : (s.cost : Int) < fuel
    case neg =>
      have e : workM f fuel (n + 1) s = s := by unfold workM; rw [if_neg hlt]
      rw [e]
      exact ⟨hs, rfl, Nat.le_refl _, .inl ⟨h0, .inr (by omega), fun h => absurd h hlt⟩, fun _ => rfl⟩
    cases hu : nextM s.ra s.rb with
    | none =>
      have e : workM f fuel (n + 1) s = s := by unfold workM; rw [if_pos hlt, hu]
      have h1 := next_none.1 hu
      have hz : s.left = 0 := by unfold MS.left; rw [h1.1, h1.2]; rfl
      rw [e]
      exact ⟨hs, rfl, Nat.le_refl _, .inl ⟨h0, .inl hz, fun _ h => by omega⟩, fun _ => rfl⟩
    | some u =>
      obtain ⟨l1, l2, l3⟩ := step_left (f := f) hu
      have hpos : ¬ (s.left = 0 ∨ fuel ≤ s.cost) := by omega
      by_cases hE : consE [advL f (grp u s.ra ++ grp u s.rb)] = 0
      · have e : workM f fuel (n + 1) s = workM f fuel n (s.step f u) := by rw [workM, if_pos hlt, hu]; exact if_pos hE
        obtain ⟨i1, i2, i3, i4, i5⟩ := work_fine hf hc ha hb fuel n (s.step f u) rfl (by omega) (fine_step hs hf hc ha hb hu hE)
        rw [e]
        refine ⟨i1, by omega, by omega, ?_, fun h => absurd h hpos⟩
        rcases i4 with ⟨j1, j2, _⟩ | j
        · exact .inl ⟨j1, j2, fun _ _ => by omega⟩
        · exact .inr j
      · have e : workM f fuel (n + 1) s = { s with E := consE [advL f (grp u s.ra ++ grp u s.rb)] } := by rw [workM, if_pos hlt, hu]; exact if_neg hE
        have hra : PlUp s.ra := by have := hs.a_ ▸ ha; exact (List.pairwise_append.1 this).2.1
        have hrb : PlUp s.rb := by have := hs.b_ ▸ hb; exact (List.pairwise_append.1 this).2.1
        have hfail := merge_fail hs.inv hf (by rw [hs.a_, hs.b_]; exact hc) hra hrb (next_min hu hra hrb) hE
        rw [hs.a_, hs.b_] at hfail
        rw [e]
        exact ⟨⟨hs.inv, hs.a_, hs.b_⟩, rfl, Nat.le_refl _, .inr ⟨hfail.1, hfail.2⟩, fun h => absurd h hpos⟩
end Go.Proofs.YtllpfngmnccejaaGreat
namespace Go.Proofs.YtllpfngmnccejaaGreat
open Go Go.RowKit

/-- i divides l: no key and row on both sides, and those from i on behind all of o -/
structure DivB (l : List Up) (i : Int) (o : List Up) : Prop where
  lo : 0 ≤ i
  hi : i ≤ l.length
  side : ∀ x y, 0 < i → l[i.toNat - 1]? = some x → l[i.toNat]? = some y → plc x y < 0
  past : ∀ z y, o[o.length - 1]? = some z → l[i.toNat]? = some y → plc z y < 0
structure MergOk (f : List Tm) (a b o : List Up) (i j : Int) : Prop where
  even : EvenP a ∧ EvenP b ∧ EvenP o
  front : FrontOk f
  advd : ∀ u ∈ o, adv u.t f = u.t
  da : DivB a i o
  db : DivB b j o
theorem even_two {a b : List Up} (ha : EvenP a) (hb : EvenP b) : chkUs (a ++ b) = 0 := chkUs_all.2 fun u hu => by
  rcases List.mem_append.1 hu with hu | hu
  · exact chkUs_all.1 ha.2.2 u hu
  · exact chkUs_all.1 hb.2.2 u hu
theorem div_of {t r o : List Up} (h1 : ∀ x ∈ t, ∀ y ∈ r, plc x y < 0) (h2 : ∀ z ∈ o, ∀ y ∈ r, plc z y < 0) : DivB (t ++ r) t.length o := by
  have hr : ∀ y, (t ++ r)[(t.length : Int).toNat]? = some y → y ∈ r := fun y hy => by
    rw [Int.toNat_natCast, List.getElem?_append_right (Nat.le_refl _)] at hy
    exact List.mem_of_getElem? hy
  refine ⟨by omega, by rw [List.length_append]; omega, fun x y hi hx hy => ?_, fun z y hz hy => h2 z (List.mem_of_getElem? hz) y (hr y hy)⟩
  rw [Int.toNat_natCast, List.getElem?_append_left (by omega)] at hx
  exact h1 x (List.mem_of_getElem? hx) y (hr y hy)
/-- a merger at work is right -/
theorem fine_ok {f : List Tm} {a b o : List Up} {s : MS} (h : s.Fine f a b) (hf : FrontOk f) (ha : EvenP a) (hb : EvenP b) (ho : o.map Up.p = s.out) : MergOk f a b o s.ta.length s.tb.length := by
  have hc := even_two ha hb
  have hct : chkUs (s.ta ++ s.tb) = 0 := chkUs_all.2 fun u hu => chkUs_all.1 hc u (by
    rw [← h.a_, ← h.b_]
    simp only [List.mem_append] at hu ⊢
    rcases hu with hu | hu
    · exact .inl (.inl hu)
    · exact .inr (.inl hu))
  have hah := minv_ahead h.inv ho
  refine ⟨⟨ha, hb, minv_even h.inv hf.right hct ho⟩, hf, minv_advd h.inv ho, ?_, ?_⟩
  · rw [← h.a_]
    exact div_of (fun x hx y hy => h.inv.sep x (List.mem_append_left _ hx) y (List.mem_append_left _ hy)) fun z hz y hy => hah z hz y (List.mem_append_left _ hy)
  · rw [← h.b_]
    exact div_of (fun x hx y hy => h.inv.sep x (List.mem_append_right _ hx) y (List.mem_append_right _ hy)) fun z hz y hy => hah z hz y (List.mem_append_right _ hy)
theorem fine_start (f : List Tm) (a b : List Up) : MS.Fine f a b ⟨[], a, [], b, [], 0, 0⟩ := ⟨merge_start f a b, rfl, rfl⟩
/-- a merger that has nothing left: what it ends with -/
theorem fine_end {f : List Tm} {a b : List Up} {s : MS} (h : s.Fine f a b) (hf : ∀ x ∈ f, x.right = true) (hc : chkUs (a ++ b) = 0) (hl : s.left = 0) : consE [advL f (a ++ b)] = 0 ∧ consL [advL f (a ++ b)] = s.out := by
  unfold MS.left at hl
  have h1 : s.ra = [] := List.eq_nil_of_length_eq_zero (by omega)
  have h2 : s.rb = [] := List.eq_nil_of_length_eq_zero (by omega)
  have ea := h.a_
  have eb := h.b_
  have hi := h.inv
  rw [h1, List.append_nil] at ea
  rw [h2, List.append_nil] at eb
  rw [h1, h2, ea, eb] at hi
  exact merge_end hi hf hc
/-- a list of two lists of updates, advanced: as one -/
theorem cons_two {f : List Tm} {a b : List Up} : consE [advL f a ++ advL f b] = consE [advL f (a ++ b)] ∧ consL [advL f a ++ advL f b] = consL [advL f (a ++ b)] := by rw [advL_append]; exact ⟨rfl, rfl⟩
end Go.Proofs.YtllpfngmnccejaaGreat
namespace Go.Proofs.YtllpfngmnccejaaGreat
open Go Go.RowKit

/-- t is beyond f, or f is no frontier at all -/
def Past_ (f : List Tm) (t : Tm) : Prop := f = [] ∨ beyond f t = true
/-- beyond f, the same is there -/
def SameAt (f : List Tm) (X Y : List Up) : Prop := ∀ t, Past_ f t → ∀ r, sumOf cmpRows (atP X t) r = sumOf cmpRows (atP Y t) r
section
variable {f g : List Tm} {X Y Z W : List Up}
theorem SameAt.refl : SameAt f X X := fun _ _ _ => rfl
theorem SameAt.symm (h : SameAt f X Y) : SameAt f Y X := fun t ht r => (h t ht r).symm
theorem SameAt.trans (h : SameAt f X Y) (k : SameAt f Y Z) : SameAt f X Z := fun t ht r => (h t ht r).trans (k t ht r)
theorem SameAt.append (h : SameAt f X Y) (k : SameAt f Z W) : SameAt f (X ++ Z) (Y ++ W) := fun t ht r => by
  rw [at_append, at_append, sumOf_append, sumOf_append, h t ht r, k t ht r]
theorem SameAt.perm (h : X.Perm Y) : SameAt f X Y := fun t _ r => by
  refine sumOf_perm ?_ r
  unfold atP
  exact (h.filter _).map _
/-- g is later than f -/
def LaterF (g f : List Tm) : Prop := f = [] ∨ (g ≠ [] ∧ ∀ x ∈ g, beyond f x = true)
theorem past_later (h : LaterF g f) {t : Tm} (ht : Past_ g t) : Past_ f t := by
  rcases h with h | ⟨h1, h2⟩
  · exact .inl h
  · rcases ht with ht | ht
    · exact absurd ht h1
    · obtain ⟨x, hx, hxt⟩ := beyond_iff.1 ht
      obtain ⟨y, hy, hyx⟩ := beyond_iff.1 (h2 x hx)
      exact .inr (beyond_iff.2 ⟨y, hy, le_trans' hyx hxt⟩)
theorem later_refl (f : List Tm) : LaterF f f := by
  by_cases h : f = []
  · exact .inl h
  · exact .inr ⟨h, fun x hx => beyond_iff.2 ⟨x, hx, le_refl' x⟩⟩
theorem later_trans {e : List Tm} (h : LaterF g f) (k : LaterF f e) : LaterF g e := by
  rcases k with k | ⟨k1, k2⟩
  · exact .inl k
  · rcases h with h | ⟨h1, h2⟩
    · exact absurd h k1
    · refine .inr ⟨h1, fun x hx => ?_⟩
      obtain ⟨y, hy, hyx⟩ := beyond_iff.1 (h2 x hx)
      obtain ⟨z, hz, hzy⟩ := beyond_iff.1 (k2 y hy)
      exact beyond_iff.2 ⟨z, hz, le_trans' hzy hyx⟩
theorem SameAt.later (h : SameAt f X Y) (k : LaterF g f) : SameAt g X Y := fun t ht r => h t (past_later k ht) r
theorem same_adv : SameAt f (advL f X) X := fun t ht r => by rw [atP_adv ht]
/-- evened out -/
theorem same_cons {e : List Up} (h : consE [X] = 0) (he : e.map Up.p = consL [X]) : SameAt f e X := fun t _ r => by
  obtain ⟨h1, h2, h3⟩ := cons_chk h
  have hl : chkUs X = 0 := chkLs_all.1 h1 X (by simp)
  simp only [List.flatten_cons, List.flatten_nil, List.append_nil] at h2 h3
  rw [at_sum, at_sum, he, h3, (resE_zero h2).1, psum_nz uk_lin _ (keys_right (chkUs_all.1 hl))]
/-- a batch of them -/
theorem same_batch {e : List Up} (h : consE [advL f X] = 0) (he : e.map Up.p = consL [advL f X]) : SameAt f e X := (same_cons h he).trans same_adv
/-- what is there is told by the sums -/
theorem at_of_same (h : SameAt f X Y) {t : Tm} (ht : Past_ f t) (hX : chkUs X = 0) (hY : chkUs Y = 0) : atL X t = atL Y t ∧ atE X t = atE Y t := by
  by_cases hc : chk [t] = 0
  · rw [(at_of hX hc).1, (at_of hX hc).2, (at_of hY hc).1, (at_of hY hc).2]
    exact resL_ext row_lin (at_right hX) (at_right hY) fun r => h t ht r
  · have c1 : chkAt X t = chk [t] := by unfold chkAt orI; rw [if_pos hX]
    have c2 : chkAt Y t = chk [t] := by unfold chkAt orI; rw [if_pos hY]
    unfold atL atE
    rw [c1, c2, if_neg hc, if_neg hc, if_neg hc, if_neg hc]
    exact ⟨rfl, rfl⟩
/-- the parts of a merger: what it has of both lists, and what it has made, are still there -/
theorem same_merger {a b o : List Up} {s : MS} (h : s.Fine f a b) (hf : ∀ x ∈ f, x.right = true) (hc : chkUs (a ++ b) = 0) (ho : o.map Up.p = s.out) : SameAt f (o ++ (s.ra ++ s.rb)) (a ++ b) := by
  have hct : chkUs (s.ta ++ s.tb) = 0 := chkUs_all.2 fun u hu => chkUs_all.1 hc u (by
    rw [← h.a_, ← h.b_]
    simp only [List.mem_append] at hu ⊢
    rcases hu with hu | hu
    · exact .inl (.inl hu)
    · exact .inr (.inl hu))
  have h1 : SameAt f o (s.ta ++ s.tb) := by
    refine SameAt.trans (Y := advL f (s.ta ++ s.tb)) (fun t _ r => ?_) same_adv
    rw [at_sum, at_sum, ho, h.inv.out_, psum_nz uk_lin _ (adv_keys hf hct)]
  refine (h1.append SameAt.refl).trans ?_
  rw [← h.a_, ← h.b_]
  refine SameAt.perm ?_
  rw [List.append_assoc, List.append_assoc]
  refine List.Perm.append_left _ ?_
  rw [← List.append_assoc, ← List.append_assoc]
  exact List.Perm.append_right _ List.perm_append_comm
end
end Go.Proofs.YtllpfngmnccejaaGreat
