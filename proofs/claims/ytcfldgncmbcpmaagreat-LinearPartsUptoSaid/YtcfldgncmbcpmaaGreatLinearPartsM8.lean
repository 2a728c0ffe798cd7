/- Part 8 of the texts on which LinearParts rests: facts and contracts. -/
import Derived.Test.YtcfldgncmbcpmaaGreatLinearPartsM7
import Derived.Outline
import Derived.WalkSpells
import Derived.WalkLawsBesides
import Derived.BigQuiet
import Derived.Deep.Onto
namespace Go.Proofs.YtcfldgncmbcpmaaGreat
open Go Go.RowKit

theorem later_any (loop : Int) (h : loop = 0 ∨ loop = 1) (u : Up) (w : World) (ha : u.t.a < 9223372036854775807) (hb : u.t.b < 9223372036854775807) :
    Calls Tryz.prog 28 #[.agg #[.slice u.kA u.key.length u.kc, .slice u.rA u.row.length u.rc, .int .u64 (u.t.e : Int), .int .u64 (u.t.a : Int), .int .u64 (u.t.b : Int), .int .i64 u.d], .int .i64 loop] w fun e w' => e = .returned (latU loop u).val ∧ Below w.heap.size w w' := by
  rcases h with rfl | rfl
  · exact later_0 u w ha
  · exact later_1 u w hb
/-- an update as it ends, one round later -/
def endU (loop : Int) (u : Up) : Up := ⟨u.kA, u.kc, u.key, u.rA, u.rc, u.row, lat loop u.t, fitN (u.d * -1)⟩
def entP (loop : Int) (l : List Up) : List (Uk × Int) := l.flatMap fun u => [u.p, (endU loop u).p]
def entOk (loop : Int) (l : List Up) : Bool := l.all fun u => fitE (u.d * -1) == 0 && chk [lat loop u.t] == 0
theorem Prod.failed {w w' : World} {PB : Nat} {t t' : Tm} {why : Int} {v : Value} {M : List Up} (h : Prod w PB t why v M) (ho : Own w' PB 68 [.int .u64 (t'.e : Int), .int .u64 (t'.a : Int), .int .u64 (t'.b : Int), .int .i64 10, v]) (hk : PKeep w w' PB (.slice none 0 0)) : Prod w' PB t' 10 v M :=
  ⟨ho, h.row.kept hk.grown (.inr fun e => by have := (h.later _ e).1; omega), fun y hy => by
    obtain ⟨h1, h2, h3⟩ := h.each_ y hy
    exact ⟨uin_pk h1 h3 (hk.wide v), h2, h3⟩, fun e => by omega⟩
theorem ebox (w : World) (x y : Int) : ∃ V, V = w.alloc (.cells #[.int .i64 x, .int .i64 y] 28) ∧ Below w.heap.size w V ∧ V.cell? ⟨w.heap.size, 0, none⟩ = some (.int .i64 x) ∧ V.cell? ⟨w.heap.size, 1, none⟩ = some (.int .i64 y) := by
  obtain ⟨W, e1, s1, b1, o1⟩ := boxd w [.int .i64 x, .int .i64 y] 28
  exact ⟨W, e1, b1, o1.at_ 0, o1.at_ 1⟩
theorem entP_next (loop : Int) (l : List Up) (u : Up) : entP loop (l ++ [u]) = entP loop l ++ [u.p, (endU loop u).p] := by unfold entP; rw [List.flatMap_append]; simp
theorem entOk_next (loop : Int) (l : List Up) (u : Up) : entOk loop (l ++ [u]) = (entOk loop l && (fitE (u.d * -1) == 0 && chk [lat loop u.t] == 0)) := by unfold entOk; rw [List.all_append]; simp
/-- what Enter tells -/
def EntSays (loop rounds : Int) (l : List Up) (w : World) (x : Ending) (w' : World) : Prop :=
  ∃ A c, ∃ outL : List Up, ∃ t : Tm, ∃ E : Int, x = .returned (.tuple #[.slice A outL.length c, .agg #[.int .u64 (t.e : Int), .int .u64 (t.a : Int), .int .u64 (t.b : Int)], .int .i64 E]) ∧ (E = 0 ↔ chkL loop rounds l = 0 ∧ entOk loop l = true ∧ fitP (entP loop l) = true) ∧
    (E = 0 → outL.map Up.p = nz Uk.cmp (entP loop l) ∧ t = ⟨0, 0, 0⟩) ∧ Ups w' w'.heap.size A outL ∧ (∀ u ∈ outL, UOk u) ∧ Below w.heap.size w w' ∧ (∀ b o, A = some ⟨b, o, none⟩ → w.heap.size ≤ b) ∧ (∀ u ∈ outL, Awn (fun b => w.heap.size ≤ b) u) ∧ outL.length ≤ 2 * l.length
theorem chkL_zero {loop rounds : Int} {l : List Up} (h : chkL loop rounds l = 0) : chkUs l = 0 ∧ (loop = 0 ∨ loop = 1) ∧ 1 ≤ rounds ∧ rounds ≤ 16 := by
  unfold chkL at h
  split at h
  · rename_i h1
    split at h
    · omega
    · rename_i h2; exact ⟨h1, by omega, by omega, by omega⟩
  · rename_i h1; exact absurd h h1
theorem chk_tm {t : Tm} (h : chk [t] = 0) : t.e ≤ 4611686018427387904 ∧ t.a ≤ 4611686018427387904 ∧ t.b ≤ 4611686018427387904 := by
  unfold chk at h
  split at h
  · rename_i h1
    simp [Tm.right] at h1
    omega
  · omega
set_option maxRecDepth 100000 in
set_option maxHeartbeats 16000000 in
theorem enter_any (loop rounds : Int) (A : Option Addr) (c : Nat) (l : List Up) (w : World) (hl : Ups w w.heap.size A l) (hok : ∀ u ∈ l, UOk u) (hn : l.length ≤ 549755813888) :
    Calls Tryz.prog 12 #[.int .i64 loop, .int .i64 rounds, .slice A l.length c] w (EntSays loop rounds l w) := by
  obtain ⟨V, hV, hvb, hvs, hvt⟩ := zbox w
  have hck := checkL_any loop rounds A c l V (hl.keep hvb) (by omega) hok
  obtain ⟨K, hK⟩ : ∃ K, chkL loop rounds l = K := ⟨_, rfl⟩
  rw [hK] at hck
  have Hck := Lib.hid hck
  have HL := Lib.hid (And.intro hl (And.intro hok hK))
  have HV := Lib.hid (And.intro hvb (And.intro hvt hvs))
  clear hl hok hK hck hvb hvt hvs
  go_enter Tryz.func12, Tryz.ntmps12
  go_upto_region 1 with fail
  rw [← hV]
  clear hV
  go_wp2_with fail
  refine Hck.out.mono ?_
  rintro _ w1 ⟨rfl, b1⟩
  have H1 := Lib.hid (And.intro (belows HV.out.1 b1) (And.intro (HV.out.2.1.past b1 HV.out.2.1.inside) (show w.heap.size + 1 ≤ w1.heap.size by have := HV.out.2.2; have := b1.size; omega)))
  clear b1 Hck
  by_cases hK0 : K = 0
  case neg =>
    have t1 : (K != 0) = true := bne_iff_ne.2 hK0
    obtain ⟨X, hX, hXo, hXk, hXs⟩ := own_three H1.out.2.1 (.int .u64 0) (.int .u64 0) (.int .u64 0)
    have hbX : Below w.heap.size w X := H1.out.1.trans (hXk.below (by have := H1.out.2.2; omega) (Nat.le_refl _) (fun k e => by simp [Value.ownBlock] at e))
    obtain ⟨z0, z1, z2⟩ : w1.cell? ⟨w.heap.size, 0, none⟩ = some (.int .u64 0) ∧ w1.cell? ⟨w.heap.size, 1, none⟩ = some (.int .u64 0) ∧ w1.cell? ⟨w.heap.size, 2, none⟩ = some (.int .u64 0) := ⟨H1.out.2.1.at_ 0, H1.out.2.1.at_ 1, H1.out.2.1.at_ 2⟩
    have f0 := H1.out.2.1.open_ 0
    have f1 := H1.out.2.1.open_ 1
    have f2 := H1.out.2.1.open_ 2
    obtain ⟨x0, x1, x2⟩ : X.cell? ⟨w.heap.size, 0, none⟩ = some (.int .u64 0) ∧ X.cell? ⟨w.heap.size, 1, none⟩ = some (.int .u64 0) ∧ X.cell? ⟨w.heap.size, 2, none⟩ = some (.int .u64 0) := ⟨hXo.at_ 0, hXo.at_ 1, hXo.at_ 2⟩
    have HB := Lib.hid hbX
    have HK0 := Lib.hid hK0
    clear hXo hXk hXs hbX hK0
    go_wp2_with fail
    rw [← hX]
    clear hX
    exact bodyPost_ret (v := .tuple #[.slice none 0 0, .agg #[.int .u64 0, .int .u64 0, .int .u64 0], .int .i64 K]) (by simp [results, Tryz.results12, go_sem, x0, x1, x2]) rfl
      ⟨none, 0, [], ⟨0, 0, 0⟩, K, rfl, ⟨fun e => absurd e HK0.out, fun e => absurd (HL.out.2.2.symm.trans e.1) HK0.out⟩, fun e => absurd e HK0.out, ⟨Lies.nil_, fun u hu => (by cases hu)⟩, fun u hu => (by cases hu), HB.out, fun b o e => (by cases e), fun u hu => (by cases hu), Nat.zero_le _⟩
  subst hK0
  obtain ⟨hus, hlp, hr1, hr2⟩ := chkL_zero HL.out.2.2
  have HC := Lib.hid (And.intro (chkUs_all.1 hus) hlp)
  clear hus hlp hr1 hr2
  obtain ⟨V2, hV2, hb3, hs3, hpr⟩ := prbox w1
  have HR := Lib.hid (And.intro hb3 (And.intro hs3 hpr))
  clear hb3 hs3 hpr
  go_upto_region 5 with fail
  rw [← hV2]
  clear hV2
  go_wp2_with fail
  go_loopw [26] (fun v26 wr => ∃ (j : Nat) (t' : Tm) (why' : Int) (v : Value) (M : List Up), v26 = .int .i64 (j : Int) ∧ j ≤ l.length ∧ Prod wr w1.heap.size t' why' v M ∧ Below w1.heap.size w1 wr ∧ (why' = 0 ∨ why' = 10) ∧ (why' = 0 ↔ entOk loop (l.take j) = true) ∧ (entOk loop (l.take j) = true → M.map Up.p = entP loop (l.take j)) ∧ (∀ u ∈ M, chkU u = 0) ∧ M.length ≤ 2 * j)
    (fun v26 _ => l.length - (intOf v26).toNat)
  case atStart => exact ⟨0, ⟨0, 0, 0⟩, 0, .slice none 0 0, [], rfl, Nat.zero_le _, HR.out.2.2, HR.out.1, .inl rfl, ⟨fun _ => rfl, fun _ => rfl⟩, fun _ => rfl, fun u hu => (by cases hu), Nat.zero_le _⟩
  case round =>
    obtain ⟨j, t', why', v, M, rfl, hj, hpr, hbw, hwy, hwf, hmap, hcm, hlen⟩ := hrel
    obtain ⟨wi, hwi⟩ : ∃ wi, wi = wr := ⟨_, rfl⟩
    subst hwi
    have HO := Lib.hid (And.intro hpr (And.intro hbw (And.intro hwy (And.intro hwf (And.intro hmap (And.intro hcm hlen))))))
    clear hpr hbw hwy hwf hmap hcm hlen
    by_cases hlt : j < l.length
    · have hy : l[j]? = some l[j] := List.getElem?_eq_getElem hlt
      have hym := List.mem_of_getElem? hy
      generalize l[j] = u at *
      obtain ⟨b, o, rfl, hB, hys⟩ := lies_up HL.out.1.head (by omega)
      have hbwi : Below w.heap.size w wi := H1.out.1.trans (HO.out.2.1.mono (by have := H1.out.2.2; omega))
      obtain ⟨e0, e1, e2, e3, e4, e5⟩ := ((hys j u hy).past_ hbwi hB).six
      obtain ⟨V3, hV3, hb3, hs3, ho3⟩ := upbox wi u
      have hin : UIn w w.heap.size u := HL.out.1.each_ u hym
      have hoku : UOk u := HL.out.2.1 u hym
      have hchu : chkU u = 0 := HC.out.1 u hym
      have hinV : UIn V3 V3.heap.size u := ((hin.past hbwi (Nat.le_refl _)).wide hbwi.size).keep hb3
      have htk : l.take (j + 1) = l.take j ++ [u] := by rw [List.take_add_one, hy]; rfl
      have hPBi : w1.heap.size < wi.heap.size := HO.out.1.own.inside
      have haw : ∀ v', (∀ b, v'.ownBlock = some b → w1.heap.size + 1 ≤ b) → Aw w1.heap.size v' u := fun v' hv' => (awn_lt hin).imp fun b hb => ⟨by have := H1.out.2.2; omega, fun e => by have := hv' b e; have := H1.out.2.2; omega⟩
      have hM1 : M.length ≤ 1099511627776 := by have := HO.out.2.2.2.2.2.2; omega
      have Hp1 := Lib.hid (produce_any w1.heap.size t' why' v M u 0 V3 (HO.out.1.quiet hb3) HO.out.2.2.1 hinV hoku (haw v fun b e => (HO.out.1.later b e).1) hM1)
      unfold ProdSays at Hp1
      rw [show u.val = .agg #[.slice u.kA u.key.length u.kc, .slice u.rA u.row.length u.rc, .int .u64 (u.t.e : Int), .int .u64 (u.t.a : Int), .int .u64 (u.t.b : Int), .int .i64 u.d] from rfl] at Hp1
      have Ht := Lib.hid (fun W => dtimes_any u.d (-1) W hoku.dn.1 hoku.dn.2 (by omega) (by omega))
      have htm := chk_tm (t := u.t) (chkK_zero hchu).2.2
      have Hla := Lib.hid (fun W => later_any loop HC.out.2 u W (by have := htm.2.1; omega) (by have := htm.2.2; omega))
      obtain ⟨N, hN⟩ : ∃ N, fitN (u.d * -1) = N := ⟨_, rfl⟩
      obtain ⟨E, hE⟩ : ∃ E, fitE (u.d * -1) = E := ⟨_, rfl⟩
      obtain ⟨L, hL⟩ : ∃ L, lat loop u.t = L := ⟨_, rfl⟩
      obtain ⟨Q, hQ⟩ : ∃ Q, chk [L] = Q := ⟨_, rfl⟩
      have hNb := fitN_in (u.d * -1)
      rw [hN] at hNb
      rw [hN, hE] at Ht
      have Hla : Hid (∀ W, Calls Tryz.prog 28 #[.agg #[.slice u.kA u.key.length u.kc, .slice u.rA u.row.length u.rc, .int .u64 (u.t.e : Int), .int .u64 (u.t.a : Int), .int .u64 (u.t.b : Int), .int .i64 u.d], .int .i64 loop] W fun e w' => e = .returned (.agg #[.slice u.kA u.key.length u.kc, .slice u.rA u.row.length u.rc, .int .u64 (L.e : Int), .int .u64 (L.a : Int), .int .u64 (L.b : Int), .int .i64 u.d]) ∧ Below W.heap.size W w') := by
        rw [← hL]
        exact Hla
      have HM := Lib.hid (And.intro hN (And.intro hE (And.intro hL (And.intro hQ (And.intro hNb (And.intro hchu (And.intro htk (And.intro hin (And.intro hoku haw)))))))))
      have H3 := Lib.hid (And.intro hb3 (And.intro hs3 (And.intro ho3 hPBi)))
      have q3 : (0 : Int) ≤ (j : Int) := by omega
      have q4 : (j : Int) < (l.length : Int) := by omega
      have q5 : decide ((j : Int) < (l.length : Int)) = true := decide_eq_true q4
      clear hy hym hys hin hoku hchu hinV htk hE hN hL hQ hNb hb3 hs3 hbwi haw htm hPBi
      go_upto_region 8 with fail
      rw [← hV3]
      clear hV3 e0 e1 e2 e3 e4 e5
      obtain ⟨e0, e1, e2, e3, e4, e5⟩ := own6 ho3
      clear ho3
      go_wp2_with fail
      refine Hp1.out.mono ?_
      rintro _ w4 ⟨rfl, t4, v4, hp4, hk4, hg4⟩
      rw [if_pos (show True from trivial), if_pos (show True from trivial)] at hp4
      have ho4 : Own w4 wi.heap.size 44 u.cells := (hk4.block _ H3.out.2.2.1.inside (by have := H3.out.2.2.2; omega) (fun e => by have := (HO.out.1.later _ e).2; omega)).trans H3.out.2.2.1
      have H4 := Lib.hid (And.intro hp4 (And.intro hk4 (And.intro hg4 ho4)))
      clear e0 e1 e2 e3 e4 e5 hp4 hk4 hg4 Hp1
      obtain ⟨e0, e1, e2, e3, e4, e5⟩ := own6 ho4
      clear ho4
      go_wp2_with fail
      refine (Ht.out _).mono ?_
      rintro _ w5 ⟨rfl, b5⟩
      have ho5 : Own w5 wi.heap.size 44 u.cells := H4.out.2.2.2.past b5 H4.out.2.2.2.inside
      have H5 := Lib.hid b5
      clear e0 e1 e2 e3 e4 e5 b5 Ht
      obtain ⟨e0, e1, e2, e3, e4, e5⟩ := own6 ho5
      have HO5 := Lib.hid ho5
      clear ho5
      go_wp2_with fail
      refine (Hla.out _).mono ?_
      rintro _ w6 ⟨rfl, b6⟩
      obtain ⟨V7, hV7, hb7, hs7, ho7⟩ := upbox w6 ⟨u.kA, u.kc, u.key, u.rA, u.rc, u.row, L, u.d⟩
      obtain ⟨X, hX, hXo, hXb, hXs, hXr⟩ := own_five ho7 (.int .i64 N)
      have z5 := (own6 ho7).2.2.2.2.2
      have k5 := (own_frozen6 ho7).2.2.2.2.2
      have hb6X : Below w6.heap.size w6 X := hXb _ _ hb7 (Nat.le_refl _)
      have hb4X : Below w4.heap.size w4 X := belows (belows H5.out b6) hb6X
      have htX := times_made X L
      have Hck := Lib.hid (check_any (some ⟨X.heap.size, 0, none⟩) 1 [L] (X.alloc (.cells #[.int .u64 (L.e : Int), .int .u64 (L.a : Int), .int .u64 (L.b : Int)] 27)) htX (by unfold maxLen; simp))
      rw [HM.out.2.2.2.1] at Hck
      have hszX : wi.heap.size < X.heap.size := by have := hb4X.size; have := H4.out.2.2.2.inside; omega
      have HX := Lib.hid (And.intro hb4X (And.intro hXo (And.intro (show w6.heap.size < X.heap.size by omega) ((HO5.out.past b6 HO5.out.inside).past hb6X (by have := HO5.out.inside; have := b6.size; omega)))))
      obtain ⟨y0, y1, y2, y3, y4, y5⟩ := own6 hXo
      clear e0 e1 e2 e3 e4 e5 b6 hb7 hs7 ho7 hXo hXb hXs hXr hb6X hb4X htX Hla
      go_upto_region 11 with fail
      rw [← hV7]
      clear hV7
      go_upto_region 12 with fail
      rw [← hX]
      clear hX z5 k5
      go_wp2_with fail
      refine Hck.out.mono ?_
      rintro _ w8 ⟨rfl, b8⟩
      obtain ⟨V9, hV9, hb9, c0, c1⟩ := ebox w8 E Q
      have Hor := Lib.hid (orE2_any w8.heap.size E Q V9 c0 c1)
      have hX9 : Below X.heap.size X V9 := belows (belows ((Below.refl _ _).alloc (Nat.le_refl _) _) b8) hb9
      have hpr9 : Prod V9 w1.heap.size t4 why' v4 (M ++ [u]) := H4.out.1.quiet (belows HX.out.1 hX9)
      have ho12 : Own V9 wi.heap.size 44 u.cells := HX.out.2.2.2.past hX9 HX.out.2.2.2.inside
      have ho15 : Own V9 w6.heap.size 44 [.slice u.kA u.key.length u.kc, .slice u.rA u.row.length u.rc, .int .u64 (L.e : Int), .int .u64 (L.a : Int), .int .u64 (L.b : Int), .int .i64 N] := HX.out.2.1.past hX9 HX.out.2.2.1
      have HF := Lib.hid (And.intro hpr9 (And.intro ho12 (And.intro ho15 (belows HX.out.1 hX9))))
      obtain ⟨F, hF⟩ : ∃ F, orI E Q = F := ⟨_, rfl⟩
      rw [hF] at Hor
      have HFO := Lib.hid hF
      clear b8 hb9 c0 c1 hX9 hpr9 y0 y1 y2 y3 y4 y5 Hck hszX hF
      go_wp2_with fail
      rw [← hV9]
      clear hV9
      refine Hor.out.mono ?_
      rintro _ w9 ⟨rfl, rfl⟩
      have hv4 : ∀ b, v4.ownBlock = some b → w1.heap.size + 1 ≤ b := fun b e => (HF.out.1.later b e).1
      have hbA : Below w1.heap.size w1 V9 := HO.out.2.1.trans (((H3.out.1).mono (Nat.le_of_lt H3.out.2.2.2)).trans ((H4.out.2.1.below (by have := H3.out.1.size; have := H3.out.2.2.2; omega) (Nat.le_refl _) fun b e => by have := (HO.out.1.later b e).1; omega).trans (HF.out.2.2.2.mono (by have := H4.out.1.own.inside; omega))))
      have HBA := Lib.hid (And.intro hbA hv4)
      clear Hor hbA hv4
      by_cases hF0 : F = 0
      · have t1 : (F != 0) = false := by simp [hF0]
        have hEQ : E = 0 ∧ Q = 0 := by
          have := HFO.out
          unfold orI at this
          split at this
          · rename_i h; exact ⟨h, by rw [this]; exact hF0⟩
          · rename_i h; exact absurd (this.trans hF0) h
        obtain ⟨y0, y1, y2, y3, y4, y5⟩ := own6 ho15
        have hPBw : w1.heap.size < V9.heap.size := HF.out.1.own.inside
        have hue : UIn V9 V9.heap.size ⟨u.kA, u.kc, u.key, u.rA, u.rc, u.row, L, N⟩ := by
          have hin := HM.out.2.2.2.2.2.2.2.1
          have hb : Below w.heap.size w V9 := H1.out.1.trans (HBA.out.1.mono (by have := H1.out.2.2; omega))
          exact ⟨(hin.key.past hb (Nat.le_refl _)).wide hb.size, (hin.row.past hb (Nat.le_refl _)).wide hb.size⟩
        have hoe : UOk ⟨u.kA, u.kc, u.key, u.rA, u.rc, u.row, L, N⟩ := by
          have h := HM.out.2.2.2.2.2.2.2.2.1
          exact ⟨h.kn, h.rn, h.ks, h.rs, HM.out.2.2.2.2.1⟩
        have Hp2 := Lib.hid (produce_any w1.heap.size t4 why' v4 (M ++ [u]) ⟨u.kA, u.kc, u.key, u.rA, u.rc, u.row, L, N⟩ 0 V9 HF.out.1 HO.out.2.2.1 hue hoe (HM.out.2.2.2.2.2.2.2.2.2 v4 HBA.out.2) (by have := HO.out.2.2.2.2.2.2; rw [List.length_append, List.length_singleton]; omega))
        unfold ProdSays at Hp2
        rw [show (⟨u.kA, u.kc, u.key, u.rA, u.rc, u.row, L, N⟩ : Up).val = .agg #[.slice u.kA u.key.length u.kc, .slice u.rA u.row.length u.rc, .int .u64 (L.e : Int), .int .u64 (L.a : Int), .int .u64 (L.b : Int), .int .i64 N] from rfl] at Hp2
        have HEQ := Lib.hid hEQ
        clear hF0 hEQ hue hoe ho12 ho15 hPBw
        go_wp2_with fail
        refine Hp2.out.mono ?_
        rintro _ w10 ⟨rfl, t10, v10, hp10, hk10, hg10⟩
        rw [if_pos (show True from trivial), if_pos (show True from trivial)] at hp10
        have H10 := Lib.hid (And.intro hp10 hk10)
        clear hp10 hk10 hg10 Hp2 y0 y1 y2 y3 y4 y5
        go_wp2_with fail
        go_roundw
        case rel =>
          obtain ⟨g1, g2⟩ := H10.out
          obtain ⟨m1, m2, m3, m4, m5, m6, m7, m8, m9, m10⟩ := HM.out
          obtain ⟨o1, o2, o3, o4, o5, o6, o7⟩ := HO.out
          have hb10 : Below w1.heap.size w1 w10 := HBA.out.1.trans (g2.below (by have := HF.out.1.own.inside; omega) (Nat.le_refl _) fun b e => Nat.le_of_succ_le (HBA.out.2 b e))
          have hoks : entOk loop (l.take (j + 1)) = entOk loop (l.take j) := by
            rw [m7, entOk_next, m2, m3, m4, HEQ.out.1, HEQ.out.2]
            simp
          have hue : (endU loop u).p = (⟨u.kA, u.kc, u.key, u.rA, u.rc, u.row, L, N⟩ : Up).p := by
            unfold endU
            rw [m3, m1]
          refine ⟨j + 1, t10, why', v10, M ++ [u] ++ [⟨u.kA, u.kc, u.key, u.rA, u.rc, u.row, L, N⟩], by go_num, by omega, g1, hb10, o3, by rw [hoks]; exact o4, fun hf => ?_, fun y hy => ?_, by rw [List.length_append, List.length_append, List.length_singleton, List.length_singleton]; omega⟩
          · rw [hoks] at hf
            rw [m7, entP_next, ← o5 hf, hue]
            simp
          · rcases List.mem_append.1 hy with hy | hy
            · rcases List.mem_append.1 hy with hy | hy
              · exact o6 y hy
              · obtain rfl : y = u := by simpa using hy
                exact m6
            · obtain rfl : y = ⟨u.kA, u.kc, u.key, u.rA, u.rc, u.row, L, N⟩ := by simpa using hy
              obtain ⟨k1, k2, k3⟩ := chkK_zero m6
              change chkRow u.key = 0 at k1
              change chkRow u.row = 0 at k2
              unfold chkU chkK Up.k orI
              dsimp only
              rw [k1, k2, m4, HEQ.out.2]
              rfl
        case measure => simp [intOf]; omega
      · have t1 : (F != 0) = true := bne_iff_ne.2 hF0
        obtain ⟨_, _, y2, y3, y4, _⟩ := own6 ho12
        have Hf := Lib.hid (failL_any w1.heap.size t4 why' v4 u.t V9 HF.out.1.own HO.out.2.2.1)
        unfold FailSays at Hf
        have HF0 := Lib.hid hF0
        clear hF0 ho12 ho15
        go_wp2_with fail
        refine Hf.out.mono ?_
        rintro _ w10 ⟨rfl, t10, ho10, hk10⟩
        have H10 := Lib.hid (And.intro (HF.out.1.failed ho10 hk10) hk10)
        clear ho10 hk10 Hf y2 y3 y4
        go_wp2_with fail
        go_roundw
        case rel =>
          obtain ⟨g1, g2⟩ := H10.out
          obtain ⟨m1, m2, m3, m4, m5, m6, m7, m8, m9, m10⟩ := HM.out
          obtain ⟨o1, o2, o3, o4, o5, o6, o7⟩ := HO.out
          have hb10 : Below w1.heap.size w1 w10 := HBA.out.1.trans (g2.below (by have := HF.out.1.own.inside; omega) (Nat.le_refl _) fun b e => by simp [Value.ownBlock] at e)
          have hoks : entOk loop (l.take (j + 1)) = false := by
            rw [m7, entOk_next, m2, m3, m4]
            have : (E == 0 && Q == 0) = false := by
              rw [Bool.and_eq_false_iff]
              by_cases hE0 : E = 0
              · have h1 : Q = F := by have := HFO.out; unfold orI at this; rwa [if_pos hE0] at this
                exact .inr (by rw [h1]; simpa using HF0.out)
              · exact .inl (by simpa using hE0)
            rw [this, Bool.and_false]
          refine ⟨j + 1, t10, 10, v4, M ++ [u], by go_num, by omega, g1, hb10, .inr rfl, ?_, fun hf => ?_, fun y hy => ?_, by rw [List.length_append, List.length_singleton]; omega⟩
          · rw [hoks]
            exact ⟨fun e => absurd e (by decide), fun e => absurd e (by decide)⟩
          · rw [hoks] at hf
            cases hf
          · rcases List.mem_append.1 hy with hy | hy
            · exact o6 y hy
            · obtain rfl : y = u := by simpa using hy
              exact m6
        case measure => simp [intOf]; omega
    · have hj2 : j = l.length := by omega
      have Hend := Lib.hid (end_any w1.heap.size t' why' v M wi HO.out.1 HO.out.2.2.1 HO.out.2.2.2.2.2.1 (by have := HO.out.2.2.2.2.2.2; omega))
      unfold EndSays at Hend
      have hRP : w.heap.size ≠ w1.heap.size := by have := H1.out.2.2; omega
      have hRB : Own wi w.heap.size 27 [.int .u64 0, .int .u64 0, .int .u64 0] := H1.out.2.1.past HO.out.2.1 (by have := H1.out.2.2; omega)
      have HRB := Lib.hid hRB
      have HJ2 := Lib.hid hj2
      have q5 : decide ((j : Int) < (l.length : Int)) = false := decide_eq_false (by omega)
      clear hRB hj2
      go_wp2_with fail
      refine Hend.out.mono ?_
      rintro _ w7 ⟨A7, c7, outL, t7, E, rfl, hE7, hEi, hEo, hu7, hok7, hk7, hA7, hlo7, hln7⟩
      have hvne : ∀ b, v.ownBlock = some b → w1.heap.size + 1 ≤ b := fun b e => (HO.out.1.later b e).1
      have hR7 : Own w7 w.heap.size 27 [.int .u64 0, .int .u64 0, .int .u64 0] := (hk7.block _ HRB.out.inside hRP (fun e => by have := hvne _ e; have := H1.out.2.2; omega)).trans HRB.out
      obtain ⟨X, hX, hXo, hXk, hXs⟩ := own_three hR7 (.int .u64 (t7.e : Int)) (.int .u64 (t7.a : Int)) (.int .u64 (t7.b : Int))
      obtain ⟨z0, z1, z2⟩ : w7.cell? ⟨w.heap.size, 0, none⟩ = some (.int .u64 0) ∧ w7.cell? ⟨w.heap.size, 1, none⟩ = some (.int .u64 0) ∧ w7.cell? ⟨w.heap.size, 2, none⟩ = some (.int .u64 0) := ⟨hR7.at_ 0, hR7.at_ 1, hR7.at_ 2⟩
      have f0 := hR7.open_ 0
      have f1 := hR7.open_ 1
      have f2 := hR7.open_ 2
      obtain ⟨x0, x1, x2⟩ : X.cell? ⟨w.heap.size, 0, none⟩ = some (.int .u64 (t7.e : Int)) ∧ X.cell? ⟨w.heap.size, 1, none⟩ = some (.int .u64 (t7.a : Int)) ∧ X.cell? ⟨w.heap.size, 2, none⟩ = some (.int .u64 (t7.b : Int)) := ⟨hXo.at_ 0, hXo.at_ 1, hXo.at_ 2⟩
      have hszi : w.heap.size + 1 ≤ wi.heap.size := Nat.le_trans H1.out.2.2 HO.out.2.1.size
      have huX : Ups X X.heap.size A7 outL := ⟨lies_pk hu7.head hXk fun _ b o e => ⟨by have := hA7 b o e; omega, by simp [Value.ownBlock]⟩, fun u hu => uin_pk (hu7.each_ u hu) ((hlo7 u hu).imp fun b hb => ⟨by omega, by simp [Value.ownBlock]⟩) hXk⟩
      have hb7 : Below w.heap.size w X := (H1.out.1.trans (HO.out.2.1.mono (by have := H1.out.2.2; omega))).trans ((hk7.below (by omega) (by have := H1.out.2.2; omega) fun b e => by have := hvne b e; have := H1.out.2.2; omega).trans (hXk.below (by have := hk7.size; omega) (Nat.le_refl _) fun b e => by simp [Value.ownBlock] at e))
      have HF := Lib.hid (And.intro huX (And.intro hb7 (And.intro hok7 (And.intro (fun b o e => by have := hA7 b o e; omega : ∀ b o, A7 = some ⟨b, o, none⟩ → w.heap.size ≤ b) (fun u hu => (hlo7 u hu).imp fun b hb => by omega : ∀ u ∈ outL, Awn (fun b => w.heap.size ≤ b) u)))))
      have HLn := Lib.hid (show outL.length ≤ 2 * l.length by have := HO.out.2.2.2.2.2.2; have := HJ2.out; omega)
      have HE := Lib.hid (And.intro hE7 (And.intro hEi hEo))
      clear hE7 hEi hEo hu7 hok7 hk7 hA7 hlo7 hln7 hvne hR7 hXo hXk hXs hszi huX hb7 Hend
      go_wp2_with fail
      rw [← hX]
      clear hX
      have htl : l.take j = l := by rw [HJ2.out, List.take_length]
      have hmm : entOk loop l = true → M.map Up.p = entP loop l := by
        have := HO.out.2.2.2.2.1
        rwa [htl] at this
      have hwf : why' = 0 ↔ entOk loop l = true := by
        have := HO.out.2.2.2.1
        rwa [htl] at this
      have hfu : entOk loop l = true → fitU M = fitP (entP loop l) := fun h => by unfold fitU fitP; rw [hmm h]
      exact bodyPost_ret (v := .tuple #[.slice A7 outL.length c7, .agg #[.int .u64 (t7.e : Int), .int .u64 (t7.a : Int), .int .u64 (t7.b : Int)], .int .i64 E]) (by simp [results, Tryz.results12, go_sem, x0, x1, x2]) rfl
        ⟨A7, c7, outL, t7, E, rfl, ⟨fun e => by
          obtain ⟨h1, h2⟩ := HE.out.2.1.1 e
          have h3 := hwf.1 h1
          exact ⟨HL.out.2.2, h3, by rw [← hfu h3]; exact h2⟩, fun e => HE.out.2.1.2 ⟨hwf.2 e.2.1, by rw [hfu e.2.1]; exact e.2.2⟩⟩, fun e => by
          obtain ⟨h1, h2⟩ := HE.out.2.1.1 e
          have h3 := HE.out.2.2 e
          rw [hmm (hwf.1 h1)] at h3
          exact h3, HF.out.1, HF.out.2.2.1, HF.out.2.1, HF.out.2.2.2.1, HF.out.2.2.2.2, HLn.out⟩
end Go.Proofs.YtcfldgncmbcpmaaGreat
namespace Go.Proofs.YtcfldgncmbcpmaaGreat
open Go Go.RowKit

/-- a time in round 0 of a loop -/
def lev (loop : Int) (t : Tm) : Tm := if loop = 0 then ⟨t.e, 0, t.b⟩ else ⟨t.e, t.a, 0⟩
def levP (loop : Int) (l : List Up) : List (Uk × Int) := l.map fun u => (⟨u.key, u.row, lev loop u.t⟩, u.d)
theorem lev_chk (loop : Int) {t : Tm} (h : chk [t] = 0) : chk [lev loop t] = 0 := by
  obtain ⟨h1, h2, h3⟩ := chk_tm h
  unfold chk lev
  split <;> simp [Tm.right] <;> omega
/-- what Leave tells -/
def LevSays (loop : Int) (l : List Up) (w : World) (x : Ending) (w' : World) : Prop :=
  ∃ A c, ∃ outL : List Up, ∃ t : Tm, ∃ E : Int, x = .returned (.tuple #[.slice A outL.length c, .agg #[.int .u64 (t.e : Int), .int .u64 (t.a : Int), .int .u64 (t.b : Int)], .int .i64 E]) ∧ (E = 0 ↔ chkL loop 1 l = 0 ∧ fitP (levP loop l) = true) ∧
    (E = 0 → outL.map Up.p = nz Uk.cmp (levP loop l) ∧ t = ⟨0, 0, 0⟩) ∧ Ups w' w'.heap.size A outL ∧ (∀ u ∈ outL, UOk u) ∧ Below w.heap.size w w' ∧ (∀ b o, A = some ⟨b, o, none⟩ → w.heap.size ≤ b) ∧ (∀ u ∈ outL, Awn (fun b => w.heap.size ≤ b) u) ∧ outL.length ≤ l.length
set_option maxRecDepth 100000 in
set_option maxHeartbeats 16000000 in
theorem leave_0 (A : Option Addr) (c : Nat) (l : List Up) (w : World) (hl : Ups w w.heap.size A l) (hok : ∀ u ∈ l, UOk u) (hn : l.length ≤ 1099511627776) :
    Calls Tryz.prog 14 #[.int .i64 0, .slice A l.length c] w (LevSays 0 l w) := by
  obtain ⟨V, hV, hvb, hvs, hvt⟩ := zbox w
  have hck := checkL_any 0 1 A c l V (hl.keep hvb) (by omega) hok
  obtain ⟨K, hK⟩ : ∃ K, chkL 0 1 l = K := ⟨_, rfl⟩
  rw [hK] at hck
  have Hck := Lib.hid hck
  have HL := Lib.hid (And.intro hl (And.intro hok hK))
  have HV := Lib.hid (And.intro hvb (And.intro hvt hvs))
  clear hl hok hK hck hvb hvt hvs
  go_enter Tryz.func14, Tryz.ntmps14
  go_upto_region 1 with fail
  rw [← hV]
  clear hV
  go_wp2_with fail
  refine Hck.out.mono ?_
  rintro _ w1 ⟨rfl, b1⟩
  have H1 := Lib.hid (And.intro (belows HV.out.1 b1) (And.intro (HV.out.2.1.past b1 HV.out.2.1.inside) (show w.heap.size + 1 ≤ w1.heap.size by have := HV.out.2.2; have := b1.size; omega)))
  clear b1 Hck
  by_cases hK0 : K = 0
  case neg =>
    have t1 : (K != 0) = true := bne_iff_ne.2 hK0
    obtain ⟨X, hX, hXo, hXk, hXs⟩ := own_three H1.out.2.1 (.int .u64 0) (.int .u64 0) (.int .u64 0)
    have hbX : Below w.heap.size w X := H1.out.1.trans (hXk.below (by have := H1.out.2.2; omega) (Nat.le_refl _) (fun k e => by simp [Value.ownBlock] at e))
    obtain ⟨z0, z1, z2⟩ : w1.cell? ⟨w.heap.size, 0, none⟩ = some (.int .u64 0) ∧ w1.cell? ⟨w.heap.size, 1, none⟩ = some (.int .u64 0) ∧ w1.cell? ⟨w.heap.size, 2, none⟩ = some (.int .u64 0) := ⟨H1.out.2.1.at_ 0, H1.out.2.1.at_ 1, H1.out.2.1.at_ 2⟩
    have f0 := H1.out.2.1.open_ 0
    have f1 := H1.out.2.1.open_ 1
    have f2 := H1.out.2.1.open_ 2
    obtain ⟨x0, x1, x2⟩ : X.cell? ⟨w.heap.size, 0, none⟩ = some (.int .u64 0) ∧ X.cell? ⟨w.heap.size, 1, none⟩ = some (.int .u64 0) ∧ X.cell? ⟨w.heap.size, 2, none⟩ = some (.int .u64 0) := ⟨hXo.at_ 0, hXo.at_ 1, hXo.at_ 2⟩
    have HB := Lib.hid hbX
    have HK0 := Lib.hid hK0
    clear hXo hXk hXs hbX hK0
    go_wp2_with fail
    rw [← hX]
    clear hX
    exact bodyPost_ret (v := .tuple #[.slice none 0 0, .agg #[.int .u64 0, .int .u64 0, .int .u64 0], .int .i64 K]) (by simp [results, Tryz.results14, go_sem, x0, x1, x2]) rfl
      ⟨none, 0, [], ⟨0, 0, 0⟩, K, rfl, ⟨fun e => absurd e HK0.out, fun e => absurd (HL.out.2.2.symm.trans e.1) HK0.out⟩, fun e => absurd e HK0.out, ⟨Lies.nil_, fun u hu => (by cases hu)⟩, fun u hu => (by cases hu), HB.out, fun b o e => (by cases e), fun u hu => (by cases hu), Nat.zero_le _⟩
  subst hK0
  obtain ⟨hus, hlp, hr1, hr2⟩ := chkL_zero HL.out.2.2
  have HC := Lib.hid (And.intro (chkUs_all.1 hus) hlp)
  clear hus hlp hr1 hr2
  obtain ⟨V2, hV2, hb3, hs3, hpr⟩ := prbox w1
  have HR := Lib.hid (And.intro hb3 (And.intro hs3 hpr))
  clear hb3 hs3 hpr
  go_upto_region 5 with fail
  rw [← hV2]
  clear hV2
  go_wp2_with fail
  go_loopw [20] (fun v20 wr => ∃ (j : Nat) (t' : Tm) (why' : Int) (v : Value) (M : List Up), v20 = .int .i64 (j : Int) ∧ j ≤ l.length ∧ Prod wr w1.heap.size t' why' v M ∧ Below w1.heap.size w1 wr ∧ (why' = 0 ∨ why' = 10) ∧ (why' = 0 ↔ True) ∧ (True → M.map Up.p = levP 0 (l.take j)) ∧ (∀ u ∈ M, chkU u = 0) ∧ M.length ≤ j)
    (fun v20 _ => l.length - (intOf v20).toNat)
  case atStart => exact ⟨0, ⟨0, 0, 0⟩, 0, .slice none 0 0, [], rfl, Nat.zero_le _, HR.out.2.2, HR.out.1, .inl rfl, ⟨fun _ => trivial, fun _ => rfl⟩, fun _ => rfl, fun u hu => (by cases hu), Nat.zero_le _⟩
  case round =>
    obtain ⟨j, t', why', v, M, rfl, hj, hpr, hbw, hwy, hwf, hmap, hcm, hlen⟩ := hrel
    obtain ⟨wi, hwi⟩ : ∃ wi, wi = wr := ⟨_, rfl⟩
    subst hwi
    have HO := Lib.hid (And.intro hpr (And.intro hbw (And.intro hwy (And.intro hwf (And.intro hmap (And.intro hcm hlen))))))
    clear hpr hbw hwy hwf hmap hcm hlen
    by_cases hlt : j < l.length
    · have hy : l[j]? = some l[j] := List.getElem?_eq_getElem hlt
      have hym := List.mem_of_getElem? hy
      generalize l[j] = u at *
      obtain ⟨b, o, rfl, hB, hys⟩ := lies_up HL.out.1.head (by omega)
      have hbwi : Below w.heap.size w wi := H1.out.1.trans (HO.out.2.1.mono (by have := H1.out.2.2; omega))
      obtain ⟨e0, e1, e2, e3, e4, e5⟩ := ((hys j u hy).past_ hbwi hB).six
      obtain ⟨V3, hV3, hb3, hs3, ho3⟩ := upbox wi u
      have hin : UIn w w.heap.size u := HL.out.1.each_ u hym
      have hoku : UOk u := HL.out.2.1 u hym
      have hchu : chkU u = 0 := HC.out.1 u hym
      have hinV : UIn V3 V3.heap.size u := ((hin.past hbwi (Nat.le_refl _)).wide hbwi.size).keep hb3
      have htk : l.take (j + 1) = l.take j ++ [u] := by rw [List.take_add_one, hy]; rfl
      have hPBi : w1.heap.size < wi.heap.size := HO.out.1.own.inside
      have haw : ∀ v', (∀ b, v'.ownBlock = some b → w1.heap.size + 1 ≤ b) → Aw w1.heap.size v' u := fun v' hv' => (awn_lt hin).imp fun b hb => ⟨by have := H1.out.2.2; omega, fun e => by have := hv' b e; have := H1.out.2.2; omega⟩
      have hM1 : M.length ≤ 1099511627776 := by have := HO.out.2.2.2.2.2.2; omega
      have HM := Lib.hid (And.intro hchu (And.intro htk (And.intro hin (And.intro hoku haw))))
      have H3 := Lib.hid (And.intro hb3 (And.intro hs3 (And.intro ho3 hPBi)))
      obtain ⟨X, hX, hXo, hXb, hXs, hXr⟩ := own_at ho3 3 (.int .u64 0)
      have hXo : Own X wi.heap.size 44 [.slice u.kA u.key.length u.kc, .slice u.rA u.row.length u.rc, .int .u64 ((lev 0 u.t).e : Int), .int .u64 ((lev 0 u.t).a : Int), .int .u64 ((lev 0 u.t).b : Int), .int .i64 u.d] := hXo
      have hbX : Below wi.heap.size wi X := hXb _ _ hb3 (Nat.le_refl _)
      have huX : UIn X X.heap.size ⟨u.kA, u.kc, u.key, u.rA, u.rc, u.row, lev 0 u.t, u.d⟩ := by
        have hb : Below w.heap.size w X := hbwi.trans (hbX.mono hbwi.size)
        exact ⟨(hin.key.past hb (Nat.le_refl _)).wide hb.size, (hin.row.past hb (Nat.le_refl _)).wide hb.size⟩
      have hoX : UOk ⟨u.kA, u.kc, u.key, u.rA, u.rc, u.row, lev 0 u.t, u.d⟩ := ⟨hoku.kn, hoku.rn, hoku.ks, hoku.rs, hoku.dn⟩
      have Hp1 := Lib.hid (produce_any w1.heap.size t' why' v M ⟨u.kA, u.kc, u.key, u.rA, u.rc, u.row, lev 0 u.t, u.d⟩ 0 X (HO.out.1.quiet hbX) HO.out.2.2.1 huX hoX (haw v fun b e => (HO.out.1.later b e).1) hM1)
      unfold ProdSays at Hp1
      obtain ⟨L, hL⟩ : ∃ L, lev 0 u.t = L := ⟨_, rfl⟩
      rw [hL] at Hp1 hXo
      rw [show (⟨u.kA, u.kc, u.key, u.rA, u.rc, u.row, L, u.d⟩ : Up).val = .agg #[.slice u.kA u.key.length u.kc, .slice u.rA u.row.length u.rc, .int .u64 (L.e : Int), .int .u64 (L.a : Int), .int .u64 (L.b : Int), .int .i64 u.d] from rfl] at Hp1
      have HX := Lib.hid (And.intro hbX hL)
      obtain ⟨z0, z1, z2, z3, z4, z5⟩ := own6 ho3
      obtain ⟨k0, k1, k2, k3, k4, k5⟩ := own_frozen6 ho3
      obtain ⟨y0, y1, y2, y3, y4, y5⟩ := own6 hXo
      have q3 : (0 : Int) ≤ (j : Int) := by omega
      have q4 : (j : Int) < (l.length : Int) := by omega
      have q5 : decide ((j : Int) < (l.length : Int)) = true := decide_eq_true q4
      clear hy hym hys hin hoku hchu hinV htk hb3 hs3 hbwi haw hPBi ho3 hXo hXb hXs hXr hbX huX hoX hL
      go_upto_region 8 with fail
      rw [← hV3]
      clear hV3 e0 e1 e2 e3 e4 e5
      go_upto_region 9 with fail
      rw [← hX]
      clear hX z0 z1 z2 z3 z4 z5 k0 k1 k2 k3 k4 k5
      go_wp2_with fail
      refine Hp1.out.mono ?_
      rintro _ w6 ⟨rfl, t6, v6, hp6, hk6, hg6⟩
      rw [if_pos (show True from trivial), if_pos (show True from trivial)] at hp6
      have H6 := Lib.hid (And.intro hp6 hk6)
      clear hp6 hk6 hg6 Hp1 y0 y1 y2 y3 y4 y5
      go_wp2_with fail
      go_roundw
      case rel =>
        obtain ⟨g1, g2⟩ := H6.out
        obtain ⟨m5, m6, m7, m8, m9⟩ := HM.out
        obtain ⟨o1, o2, o3, o4, o5, o6, o7⟩ := HO.out
        have n1 := HX.out.1
        have n5 := H3.out.2.2.2
        have n6 := o1.quiet n1
        have hb6 : Below w1.heap.size w1 w6 := o2.trans ((n1.mono (Nat.le_of_lt n5)).trans (g2.below (Nat.le_of_lt n6.own.inside) (Nat.le_refl _) fun k e => Nat.le_of_succ_le (n6.later k e).1))
        refine ⟨j + 1, t6, why', v6, M ++ [⟨u.kA, u.kc, u.key, u.rA, u.rc, u.row, L, u.d⟩], by go_num, by omega, g1, hb6, o3, o4, fun _ => ?_, fun y hy => ?_, by rw [List.length_append, List.length_singleton]; omega⟩
        · rw [m6, List.map_append, o5 trivial]
          unfold levP
          rw [List.map_append]
          congr 1
          rw [List.map_cons, List.map_cons, List.map_nil, List.map_nil, HX.out.2]
          rfl
        · rcases List.mem_append.1 hy with hy | hy
          · exact o6 y hy
          · obtain rfl : y = ⟨u.kA, u.kc, u.key, u.rA, u.rc, u.row, L, u.d⟩ := by simpa using hy
            obtain ⟨k1, k2, k3⟩ := chkK_zero m5
            change chkRow u.key = 0 at k1
            change chkRow u.row = 0 at k2
            unfold chkU chkK Up.k orI
            dsimp only
            rw [k1, k2, ← HX.out.2, lev_chk 0 (t := u.t) k3]
            rfl
      case measure => simp [intOf]; omega
    · have hj2 : j = l.length := by omega
      have Hend := Lib.hid (end_any w1.heap.size t' why' v M wi HO.out.1 HO.out.2.2.1 HO.out.2.2.2.2.2.1 (by have := HO.out.2.2.2.2.2.2; omega))
      unfold EndSays at Hend
      have hRP : w.heap.size ≠ w1.heap.size := by have := H1.out.2.2; omega
      have hRB : Own wi w.heap.size 27 [.int .u64 0, .int .u64 0, .int .u64 0] := H1.out.2.1.past HO.out.2.1 (by have := H1.out.2.2; omega)
      have HRB := Lib.hid hRB
      have HJ2 := Lib.hid hj2
      have q5 : decide ((j : Int) < (l.length : Int)) = false := decide_eq_false (by omega)
      clear hRB hj2
      go_wp2_with fail
      refine Hend.out.mono ?_
      rintro _ w7 ⟨A7, c7, outL, t7, E, rfl, hE7, hEi, hEo, hu7, hok7, hk7, hA7, hlo7, hln7⟩
      have hvne : ∀ b, v.ownBlock = some b → w1.heap.size + 1 ≤ b := fun b e => (HO.out.1.later b e).1
      have hR7 : Own w7 w.heap.size 27 [.int .u64 0, .int .u64 0, .int .u64 0] := (hk7.block _ HRB.out.inside hRP (fun e => by have := hvne _ e; have := H1.out.2.2; omega)).trans HRB.out
      obtain ⟨X, hX, hXo, hXk, hXs⟩ := own_three hR7 (.int .u64 (t7.e : Int)) (.int .u64 (t7.a : Int)) (.int .u64 (t7.b : Int))
      obtain ⟨z0, z1, z2⟩ : w7.cell? ⟨w.heap.size, 0, none⟩ = some (.int .u64 0) ∧ w7.cell? ⟨w.heap.size, 1, none⟩ = some (.int .u64 0) ∧ w7.cell? ⟨w.heap.size, 2, none⟩ = some (.int .u64 0) := ⟨hR7.at_ 0, hR7.at_ 1, hR7.at_ 2⟩
      have f0 := hR7.open_ 0
      have f1 := hR7.open_ 1
      have f2 := hR7.open_ 2
      obtain ⟨x0, x1, x2⟩ : X.cell? ⟨w.heap.size, 0, none⟩ = some (.int .u64 (t7.e : Int)) ∧ X.cell? ⟨w.heap.size, 1, none⟩ = some (.int .u64 (t7.a : Int)) ∧ X.cell? ⟨w.heap.size, 2, none⟩ = some (.int .u64 (t7.b : Int)) := ⟨hXo.at_ 0, hXo.at_ 1, hXo.at_ 2⟩
      have hszi : w.heap.size + 1 ≤ wi.heap.size := Nat.le_trans H1.out.2.2 HO.out.2.1.size
      have huX : Ups X X.heap.size A7 outL := ⟨lies_pk hu7.head hXk fun _ b o e => ⟨by have := hA7 b o e; omega, by simp [Value.ownBlock]⟩, fun u hu => uin_pk (hu7.each_ u hu) ((hlo7 u hu).imp fun b hb => ⟨by omega, by simp [Value.ownBlock]⟩) hXk⟩
      have hb7 : Below w.heap.size w X := (H1.out.1.trans (HO.out.2.1.mono (by have := H1.out.2.2; omega))).trans ((hk7.below (by omega) (by have := H1.out.2.2; omega) fun b e => by have := hvne b e; have := H1.out.2.2; omega).trans (hXk.below (by have := hk7.size; omega) (Nat.le_refl _) fun b e => by simp [Value.ownBlock] at e))
      have HF := Lib.hid (And.intro huX (And.intro hb7 (And.intro hok7 (And.intro (fun b o e => by have := hA7 b o e; omega : ∀ b o, A7 = some ⟨b, o, none⟩ → w.heap.size ≤ b) (fun u hu => (hlo7 u hu).imp fun b hb => by omega : ∀ u ∈ outL, Awn (fun b => w.heap.size ≤ b) u)))))
      have HLn := Lib.hid (show outL.length ≤ l.length by have := HO.out.2.2.2.2.2.2; have := HJ2.out; omega)
      have HE := Lib.hid (And.intro hE7 (And.intro hEi hEo))
      clear hE7 hEi hEo hu7 hok7 hk7 hA7 hlo7 hln7 hvne hR7 hXo hXk hXs hszi huX hb7 Hend
      go_wp2_with fail
      rw [← hX]
      clear hX
      have htl : l.take j = l := by rw [HJ2.out, List.take_length]
      have hmm : True → M.map Up.p = levP 0 l := by
        have := HO.out.2.2.2.2.1
        rwa [htl] at this
      have hwf : why' = 0 ↔ True := by
        exact HO.out.2.2.2.1
      have hfu : True → fitU M = fitP (levP 0 l) := fun h => by unfold fitU fitP; rw [hmm h]
      exact bodyPost_ret (v := .tuple #[.slice A7 outL.length c7, .agg #[.int .u64 (t7.e : Int), .int .u64 (t7.a : Int), .int .u64 (t7.b : Int)], .int .i64 E]) (by simp [results, Tryz.results14, go_sem, x0, x1, x2]) rfl
        ⟨A7, c7, outL, t7, E, rfl, ⟨fun e => by
          obtain ⟨h1, h2⟩ := HE.out.2.1.1 e
          have h3 := hwf.1 h1
          exact ⟨HL.out.2.2, by rw [← hfu h3]; exact h2⟩, fun e => HE.out.2.1.2 ⟨hwf.2 trivial, by rw [hfu trivial]; exact e.2⟩⟩, fun e => by
          obtain ⟨h1, h2⟩ := HE.out.2.1.1 e
          have h3 := HE.out.2.2 e
          rw [hmm (hwf.1 h1)] at h3
          exact h3, HF.out.1, HF.out.2.2.1, HF.out.2.1, HF.out.2.2.2.1, HF.out.2.2.2.2, HLn.out⟩

set_option maxRecDepth 100000 in
set_option maxHeartbeats 16000000 in
theorem leave_1 (A : Option Addr) (c : Nat) (l : List Up) (w : World) (hl : Ups w w.heap.size A l) (hok : ∀ u ∈ l, UOk u) (hn : l.length ≤ 1099511627776) :
    Calls Tryz.prog 14 #[.int .i64 1, .slice A l.length c] w (LevSays 1 l w) := by
  obtain ⟨V, hV, hvb, hvs, hvt⟩ := zbox w
  have hck := checkL_any 1 1 A c l V (hl.keep hvb) (by omega) hok
  obtain ⟨K, hK⟩ : ∃ K, chkL 1 1 l = K := ⟨_, rfl⟩
  rw [hK] at hck
  have Hck := Lib.hid hck
  have HL := Lib.hid (And.intro hl (And.intro hok hK))
  have HV := Lib.hid (And.intro hvb (And.intro hvt hvs))
  clear hl hok hK hck hvb hvt hvs
  go_enter Tryz.func14, Tryz.ntmps14
  go_upto_region 1 with fail
  rw [← hV]
  clear hV
  go_wp2_with fail
  refine Hck.out.mono ?_
  rintro _ w1 ⟨rfl, b1⟩
  have H1 := Lib.hid (And.intro (belows HV.out.1 b1) (And.intro (HV.out.2.1.past b1 HV.out.2.1.inside) (show w.heap.size + 1 ≤ w1.heap.size by have := HV.out.2.2; have := b1.size; omega)))
  clear b1 Hck
  by_cases hK0 : K = 0
  case neg =>
    have t1 : (K != 0) = true := bne_iff_ne.2 hK0
    obtain ⟨X, hX, hXo, hXk, hXs⟩ := own_three H1.out.2.1 (.int .u64 0) (.int .u64 0) (.int .u64 0)
    have hbX : Below w.heap.size w X := H1.out.1.trans (hXk.below (by have := H1.out.2.2; omega) (Nat.le_refl _) (fun k e => by simp [Value.ownBlock] at e))
    obtain ⟨z0, z1, z2⟩ : w1.cell? ⟨w.heap.size, 0, none⟩ = some (.int .u64 0) ∧ w1.cell? ⟨w.heap.size, 1, none⟩ = some (.int .u64 0) ∧ w1.cell? ⟨w.heap.size, 2, none⟩ = some (.int .u64 0) := ⟨H1.out.2.1.at_ 0, H1.out.2.1.at_ 1, H1.out.2.1.at_ 2⟩
    have f0 := H1.out.2.1.open_ 0
    have f1 := H1.out.2.1.open_ 1
    have f2 := H1.out.2.1.open_ 2
    obtain ⟨x0, x1, x2⟩ : X.cell? ⟨w.heap.size, 0, none⟩ = some (.int .u64 0) ∧ X.cell? ⟨w.heap.size, 1, none⟩ = some (.int .u64 0) ∧ X.cell? ⟨w.heap.size, 2, none⟩ = some (.int .u64 0) := ⟨hXo.at_ 0, hXo.at_ 1, hXo.at_ 2⟩
    have HB := Lib.hid hbX
    have HK0 := Lib.hid hK0
    clear hXo hXk hXs hbX hK0
    go_wp2_with fail
    rw [← hX]
    clear hX
    exact bodyPost_ret (v := .tuple #[.slice none 0 0, .agg #[.int .u64 0, .int .u64 0, .int .u64 0], .int .i64 K]) (by simp [results, Tryz.results14, go_sem, x0, x1, x2]) rfl
      ⟨none, 0, [], ⟨0, 0, 0⟩, K, rfl, ⟨fun e => absurd e HK0.out, fun e => absurd (HL.out.2.2.symm.trans e.1) HK0.out⟩, fun e => absurd e HK0.out, ⟨Lies.nil_, fun u hu => (by cases hu)⟩, fun u hu => (by cases hu), HB.out, fun b o e => (by cases e), fun u hu => (by cases hu), Nat.zero_le _⟩
  subst hK0
  obtain ⟨hus, hlp, hr1, hr2⟩ := chkL_zero HL.out.2.2
  have HC := Lib.hid (And.intro (chkUs_all.1 hus) hlp)
  clear hus hlp hr1 hr2
  obtain ⟨V2, hV2, hb3, hs3, hpr⟩ := prbox w1
  have HR := Lib.hid (And.intro hb3 (And.intro hs3 hpr))
  clear hb3 hs3 hpr
  go_upto_region 5 with fail
  rw [← hV2]
  clear hV2
  go_wp2_with fail
  go_loopw [20] (fun v20 wr => ∃ (j : Nat) (t' : Tm) (why' : Int) (v : Value) (M : List Up), v20 = .int .i64 (j : Int) ∧ j ≤ l.length ∧ Prod wr w1.heap.size t' why' v M ∧ Below w1.heap.size w1 wr ∧ (why' = 0 ∨ why' = 10) ∧ (why' = 0 ↔ True) ∧ (True → M.map Up.p = levP 1 (l.take j)) ∧ (∀ u ∈ M, chkU u = 0) ∧ M.length ≤ j)
    (fun v20 _ => l.length - (intOf v20).toNat)
  case atStart => exact ⟨0, ⟨0, 0, 0⟩, 0, .slice none 0 0, [], rfl, Nat.zero_le _, HR.out.2.2, HR.out.1, .inl rfl, ⟨fun _ => trivial, fun _ => rfl⟩, fun _ => rfl, fun u hu => (by cases hu), Nat.zero_le _⟩
  case round =>
    obtain ⟨j, t', why', v, M, rfl, hj, hpr, hbw, hwy, hwf, hmap, hcm, hlen⟩ := hrel
    obtain ⟨wi, hwi⟩ : ∃ wi, wi = wr := ⟨_, rfl⟩
    subst hwi
    have HO := Lib.hid (And.intro hpr (And.intro hbw (And.intro hwy (And.intro hwf (And.intro hmap (And.intro hcm hlen))))))
    clear hpr hbw hwy hwf hmap hcm hlen
    by_cases hlt : j < l.length
    · have hy : l[j]? = some l[j] := List.getElem?_eq_getElem hlt
      have hym := List.mem_of_getElem? hy
      generalize l[j] = u at *
      obtain ⟨b, o, rfl, hB, hys⟩ := lies_up HL.out.1.head (by omega)
      have hbwi : Below w.heap.size w wi := H1.out.1.trans (HO.out.2.1.mono (by have := H1.out.2.2; omega))
      obtain ⟨e0, e1, e2, e3, e4, e5⟩ := ((hys j u hy).past_ hbwi hB).six
      obtain ⟨V3, hV3, hb3, hs3, ho3⟩ := upbox wi u
      have hin : UIn w w.heap.size u := HL.out.1.each_ u hym
      have hoku : UOk u := HL.out.2.1 u hym
      have hchu : chkU u = 0 := HC.out.1 u hym
      have hinV : UIn V3 V3.heap.size u := ((hin.past hbwi (Nat.le_refl _)).wide hbwi.size).keep hb3
      have htk : l.take (j + 1) = l.take j ++ [u] := by rw [List.take_add_one, hy]; rfl
      have hPBi : w1.heap.size < wi.heap.size := HO.out.1.own.inside
      have haw : ∀ v', (∀ b, v'.ownBlock = some b → w1.heap.size + 1 ≤ b) → Aw w1.heap.size v' u := fun v' hv' => (awn_lt hin).imp fun b hb => ⟨by have := H1.out.2.2; omega, fun e => by have := hv' b e; have := H1.out.2.2; omega⟩
      have hM1 : M.length ≤ 1099511627776 := by have := HO.out.2.2.2.2.2.2; omega
      have HM := Lib.hid (And.intro hchu (And.intro htk (And.intro hin (And.intro hoku haw))))
      have H3 := Lib.hid (And.intro hb3 (And.intro hs3 (And.intro ho3 hPBi)))
      obtain ⟨X, hX, hXo, hXb, hXs, hXr⟩ := own_at ho3 4 (.int .u64 0)
      have hXo : Own X wi.heap.size 44 [.slice u.kA u.key.length u.kc, .slice u.rA u.row.length u.rc, .int .u64 ((lev 1 u.t).e : Int), .int .u64 ((lev 1 u.t).a : Int), .int .u64 ((lev 1 u.t).b : Int), .int .i64 u.d] := hXo
      have hbX : Below wi.heap.size wi X := hXb _ _ hb3 (Nat.le_refl _)
      have huX : UIn X X.heap.size ⟨u.kA, u.kc, u.key, u.rA, u.rc, u.row, lev 1 u.t, u.d⟩ := by
        have hb : Below w.heap.size w X := hbwi.trans (hbX.mono hbwi.size)
        exact ⟨(hin.key.past hb (Nat.le_refl _)).wide hb.size, (hin.row.past hb (Nat.le_refl _)).wide hb.size⟩
      have hoX : UOk ⟨u.kA, u.kc, u.key, u.rA, u.rc, u.row, lev 1 u.t, u.d⟩ := ⟨hoku.kn, hoku.rn, hoku.ks, hoku.rs, hoku.dn⟩
      have Hp1 := Lib.hid (produce_any w1.heap.size t' why' v M ⟨u.kA, u.kc, u.key, u.rA, u.rc, u.row, lev 1 u.t, u.d⟩ 0 X (HO.out.1.quiet hbX) HO.out.2.2.1 huX hoX (haw v fun b e => (HO.out.1.later b e).1) hM1)
      unfold ProdSays at Hp1
      obtain ⟨L, hL⟩ : ∃ L, lev 1 u.t = L := ⟨_, rfl⟩
      rw [hL] at Hp1 hXo
      rw [show (⟨u.kA, u.kc, u.key, u.rA, u.rc, u.row, L, u.d⟩ : Up).val = .agg #[.slice u.kA u.key.length u.kc, .slice u.rA u.row.length u.rc, .int .u64 (L.e : Int), .int .u64 (L.a : Int), .int .u64 (L.b : Int), .int .i64 u.d] from rfl] at Hp1
      have HX := Lib.hid (And.intro hbX hL)
      obtain ⟨z0, z1, z2, z3, z4, z5⟩ := own6 ho3
      obtain ⟨k0, k1, k2, k3, k4, k5⟩ := own_frozen6 ho3
      obtain ⟨y0, y1, y2, y3, y4, y5⟩ := own6 hXo
      have q3 : (0 : Int) ≤ (j : Int) := by omega
      have q4 : (j : Int) < (l.length : Int) := by omega
      have q5 : decide ((j : Int) < (l.length : Int)) = true := decide_eq_true q4
      clear hy hym hys hin hoku hchu hinV htk hb3 hs3 hbwi haw hPBi ho3 hXo hXb hXs hXr hbX huX hoX hL
      go_upto_region 8 with fail
      rw [← hV3]
      clear hV3 e0 e1 e2 e3 e4 e5
      go_upto_region 9 with fail
      rw [← hX]
      clear hX z0 z1 z2 z3 z4 z5 k0 k1 k2 k3 k4 k5
      go_wp2_with fail
      refine Hp1.out.mono ?_
      rintro _ w6 ⟨rfl, t6, v6, hp6, hk6, hg6⟩
      rw [if_pos (show True from trivial), if_pos (show True from trivial)] at hp6
      have H6 := Lib.hid (And.intro hp6 hk6)
      clear hp6 hk6 hg6 Hp1 y0 y1 y2 y3 y4 y5
      go_wp2_with fail
      go_roundw
      case rel =>
        obtain ⟨g1, g2⟩ := H6.out
        obtain ⟨m5, m6, m7, m8, m9⟩ := HM.out
        obtain ⟨o1, o2, o3, o4, o5, o6, o7⟩ := HO.out
        have n1 := HX.out.1
        have n5 := H3.out.2.2.2
        have n6 := o1.quiet n1
        have hb6 : Below w1.heap.size w1 w6 := o2.trans ((n1.mono (Nat.le_of_lt n5)).trans (g2.below (Nat.le_of_lt n6.own.inside) (Nat.le_refl _) fun k e => Nat.le_of_succ_le (n6.later k e).1))
        refine ⟨j + 1, t6, why', v6, M ++ [⟨u.kA, u.kc, u.key, u.rA, u.rc, u.row, L, u.d⟩], by go_num, by omega, g1, hb6, o3, o4, fun _ => ?_, fun y hy => ?_, by rw [List.length_append, List.length_singleton]; omega⟩
        · rw [m6, List.map_append, o5 trivial]
          unfold levP
          rw [List.map_append]
          congr 1
          rw [List.map_cons, List.map_cons, List.map_nil, List.map_nil, HX.out.2]
          rfl
        · rcases List.mem_append.1 hy with hy | hy
          · exact o6 y hy
          · obtain rfl : y = ⟨u.kA, u.kc, u.key, u.rA, u.rc, u.row, L, u.d⟩ := by simpa using hy
            obtain ⟨k1, k2, k3⟩ := chkK_zero m5
            change chkRow u.key = 0 at k1
            change chkRow u.row = 0 at k2
            unfold chkU chkK Up.k orI
            dsimp only
            rw [k1, k2, ← HX.out.2, lev_chk 1 (t := u.t) k3]
            rfl
      case measure => simp [intOf]; omega
    · have hj2 : j = l.length := by omega
      have Hend := Lib.hid (end_any w1.heap.size t' why' v M wi HO.out.1 HO.out.2.2.1 HO.out.2.2.2.2.2.1 (by have := HO.out.2.2.2.2.2.2; omega))
      unfold EndSays at Hend
      have hRP : w.heap.size ≠ w1.heap.size := by have := H1.out.2.2; omega
      have hRB : Own wi w.heap.size 27 [.int .u64 0, .int .u64 0, .int .u64 0] := H1.out.2.1.past HO.out.2.1 (by have := H1.out.2.2; omega)
      have HRB := Lib.hid hRB
      have HJ2 := Lib.hid hj2
      have q5 : decide ((j : Int) < (l.length : Int)) = false := decide_eq_false (by omega)
      clear hRB hj2
      go_wp2_with fail
      refine Hend.out.mono ?_
      rintro _ w7 ⟨A7, c7, outL, t7, E, rfl, hE7, hEi, hEo, hu7, hok7, hk7, hA7, hlo7, hln7⟩
      have hvne : ∀ b, v.ownBlock = some b → w1.heap.size + 1 ≤ b := fun b e => (HO.out.1.later b e).1
      have hR7 : Own w7 w.heap.size 27 [.int .u64 0, .int .u64 0, .int .u64 0] := (hk7.block _ HRB.out.inside hRP (fun e => by have := hvne _ e; have := H1.out.2.2; omega)).trans HRB.out
      obtain ⟨X, hX, hXo, hXk, hXs⟩ := own_three hR7 (.int .u64 (t7.e : Int)) (.int .u64 (t7.a : Int)) (.int .u64 (t7.b : Int))
      obtain ⟨z0, z1, z2⟩ : w7.cell? ⟨w.heap.size, 0, none⟩ = some (.int .u64 0) ∧ w7.cell? ⟨w.heap.size, 1, none⟩ = some (.int .u64 0) ∧ w7.cell? ⟨w.heap.size, 2, none⟩ = some (.int .u64 0) := ⟨hR7.at_ 0, hR7.at_ 1, hR7.at_ 2⟩
      have f0 := hR7.open_ 0
      have f1 := hR7.open_ 1
      have f2 := hR7.open_ 2
      obtain ⟨x0, x1, x2⟩ : X.cell? ⟨w.heap.size, 0, none⟩ = some (.int .u64 (t7.e : Int)) ∧ X.cell? ⟨w.heap.size, 1, none⟩ = some (.int .u64 (t7.a : Int)) ∧ X.cell? ⟨w.heap.size, 2, none⟩ = some (.int .u64 (t7.b : Int)) := ⟨hXo.at_ 0, hXo.at_ 1, hXo.at_ 2⟩
      have hszi : w.heap.size + 1 ≤ wi.heap.size := Nat.le_trans H1.out.2.2 HO.out.2.1.size
      have huX : Ups X X.heap.size A7 outL := ⟨lies_pk hu7.head hXk fun _ b o e => ⟨by have := hA7 b o e; omega, by simp [Value.ownBlock]⟩, fun u hu => uin_pk (hu7.each_ u hu) ((hlo7 u hu).imp fun b hb => ⟨by omega, by simp [Value.ownBlock]⟩) hXk⟩
      have hb7 : Below w.heap.size w X := (H1.out.1.trans (HO.out.2.1.mono (by have := H1.out.2.2; omega))).trans ((hk7.below (by omega) (by have := H1.out.2.2; omega) fun b e => by have := hvne b e; have := H1.out.2.2; omega).trans (hXk.below (by have := hk7.size; omega) (Nat.le_refl _) fun b e => by simp [Value.ownBlock] at e))
      have HF := Lib.hid (And.intro huX (And.intro hb7 (And.intro hok7 (And.intro (fun b o e => by have := hA7 b o e; omega : ∀ b o, A7 = some ⟨b, o, none⟩ → w.heap.size ≤ b) (fun u hu => (hlo7 u hu).imp fun b hb => by omega : ∀ u ∈ outL, Awn (fun b => w.heap.size ≤ b) u)))))
      have HLn := Lib.hid (show outL.length ≤ l.length by have := HO.out.2.2.2.2.2.2; have := HJ2.out; omega)
      have HE := Lib.hid (And.intro hE7 (And.intro hEi hEo))
      clear hE7 hEi hEo hu7 hok7 hk7 hA7 hlo7 hln7 hvne hR7 hXo hXk hXs hszi huX hb7 Hend
      go_wp2_with fail
      rw [← hX]
      clear hX
      have htl : l.take j = l := by rw [HJ2.out, List.take_length]
      have hmm : True → M.map Up.p = levP 1 l := by
        have := HO.out.2.2.2.2.1
        rwa [htl] at this
      have hwf : why' = 0 ↔ True := by
        exact HO.out.2.2.2.1
      have hfu : True → fitU M = fitP (levP 1 l) := fun h => by unfold fitU fitP; rw [hmm h]
      exact bodyPost_ret (v := .tuple #[.slice A7 outL.length c7, .agg #[.int .u64 (t7.e : Int), .int .u64 (t7.a : Int), .int .u64 (t7.b : Int)], .int .i64 E]) (by simp [results, Tryz.results14, go_sem, x0, x1, x2]) rfl
        ⟨A7, c7, outL, t7, E, rfl, ⟨fun e => by
          obtain ⟨h1, h2⟩ := HE.out.2.1.1 e
          have h3 := hwf.1 h1
          exact ⟨HL.out.2.2, by rw [← hfu h3]; exact h2⟩, fun e => HE.out.2.1.2 ⟨hwf.2 trivial, by rw [hfu trivial]; exact e.2⟩⟩, fun e => by
          obtain ⟨h1, h2⟩ := HE.out.2.1.1 e
          have h3 := HE.out.2.2 e
          rw [hmm (hwf.1 h1)] at h3
          exact h3, HF.out.1, HF.out.2.2.1, HF.out.2.1, HF.out.2.2.2.1, HF.out.2.2.2.2, HLn.out⟩
theorem leave_any (loop : Int) (hlp : loop = 0 ∨ loop = 1) (A : Option Addr) (c : Nat) (l : List Up) (w : World) (hl : Ups w w.heap.size A l) (hok : ∀ u ∈ l, UOk u) (hn : l.length ≤ 1099511627776) :
    Calls Tryz.prog 14 #[.int .i64 loop, .slice A l.length c] w (LevSays loop l w) := by
  rcases hlp with rfl | rfl
  · exact leave_0 A c l w hl hok hn
  · exact leave_1 A c l w hl hok hn
end Go.Proofs.YtcfldgncmbcpmaaGreat
namespace Go.Proofs.YtcfldgncmbcpmaaGreat
open Go Go.RowKit

def inLoop (loop : Int) (t : Tm) : Nat := if loop = 0 then t.a else t.b
/-- those that have a next round, one round later -/
def nxtU (loop rounds : Int) (l : List Up) : List Up := (l.filter fun u => decide ((inLoop loop u.t : Int) < rounds)).map (latU loop)
theorem nxtU_next (loop rounds : Int) (l : List Up) (u : Up) : nxtU loop rounds (l ++ [u]) = nxtU loop rounds l ++ if (inLoop loop u.t : Int) < rounds then [latU loop u] else [] := by
  unfold nxtU
  rw [List.filter_append, List.map_append]
  congr 1
  by_cases h : (inLoop loop u.t : Int) < rounds <;> simp [h]
theorem nxtU_len (loop rounds : Int) (l : List Up) : (nxtU loop rounds l).length ≤ l.length := by
  unfold nxtU
  rw [List.length_map]
  exact List.length_filter_le _ _
def nxtE (loop rounds : Int) (l : List Up) : Int := if chkL loop rounds l = 0 then consE [nxtU loop rounds l] else chkL loop rounds l
def nxtL (loop rounds : Int) (l : List Up) : List (Uk × Int) := if chkL loop rounds l = 0 then consL [nxtU loop rounds l] else []
theorem nxtU_mem {loop rounds : Int} {l : List Up} {x : Up} (h : x ∈ nxtU loop rounds l) : ∃ u ∈ l, x = latU loop u := by
  unfold nxtU at h
  obtain ⟨u, hu, rfl⟩ := List.mem_map.1 h
  exact ⟨u, (List.mem_filter.1 hu).1, rfl⟩
set_option maxRecDepth 100000 in
set_option maxHeartbeats 8000000 in
theorem next_0 (rounds : Int) (A : Option Addr) (c : Nat) (l : List Up) (w : World) (hl : Ups w w.heap.size A l) (hok : ∀ u ∈ l, UOk u) (hn : l.length ≤ 1099511627776) :
    Calls Tryz.prog 18 #[.int .i64 0, .int .i64 rounds, .slice A l.length c] w (UpsNew (nxtL 0 rounds l) (nxtE 0 rounds l) w) := by
  obtain ⟨i0, hi, hz0, hz1, hz2⟩ := info_parts infoUp
  have HI := Lib.hid (And.intro Tryz.underlying22 (And.intro hi (And.intro hz0 (And.intro hz1 hz2))))
  have hck := checkL_any 0 rounds A c l w hl (by omega) hok
  obtain ⟨K, hK⟩ : ∃ K, chkL 0 rounds l = K := ⟨_, rfl⟩
  rw [hK] at hck
  have Hck := Lib.hid hck
  have HL := Lib.hid (And.intro hl (And.intro hok hK))
  clear hl hok hK hck hi hz0 hz1 hz2
  go_enter Tryz.func18, Tryz.ntmps18
  go_wp2_with fail
  refine Hck.out.mono ?_
  rintro _ w1 ⟨rfl, b1⟩
  have H1 := Lib.hid b1
  clear b1 Hck
  by_cases hK0 : K = 0
  case neg =>
    have t1 : (K != 0) = true := bne_iff_ne.2 hK0
    have HK0 := Lib.hid hK0
    clear hK0
    go_wp2_with fail
    go_ret2
    exact ⟨none, 0, [], by unfold nxtE; rw [HL.out.2.2, if_neg HK0.out]; rfl, by unfold nxtL; rw [HL.out.2.2, if_neg HK0.out]; rfl, ⟨Lies.nil_, fun u hu => (by cases hu)⟩, fun u hu => (by cases hu), H1.out, lo_nil _⟩
  subst hK0
  obtain ⟨hus, hlp, hr1, hr2⟩ := chkL_zero HL.out.2.2
  have HC := Lib.hid (And.intro (chkUs_all.1 hus) (And.intro hr1 hr2))
  have hcv : IntKind.u64.wrap rounds = rounds := IntWalk.u64_in rounds (by omega)
  clear hus hlp hr1 hr2
  go_wp2_with fail
  go_loopw [9, 21] (fun v9 v21 wr => ∃ j : Nat, v21 = .int .i64 (j : Int) ∧ j ≤ l.length ∧ wr.ownsRow w.heap.size 44 6 v9 (nxtU 0 rounds (l.take j)).length ((nxtU 0 rounds (l.take j)).flatMap Up.cells) ∧ Below w.heap.size w wr)
    (fun _ v21 _ => l.length - (intOf v21).toNat)
  case atStart => exact ⟨0, rfl, Nat.zero_le _, World.ownsRow_nil _ _ _ _, H1.out⟩
  case round =>
    obtain ⟨j, rfl, hj, hown, hb⟩ := hrel
    obtain ⟨wi, hwi⟩ : ∃ wi, wi = wr := ⟨_, rfl⟩
    subst hwi
    by_cases hlt : j < l.length
    · have hy : l[j]? = some l[j] := List.getElem?_eq_getElem hlt
      have hym := List.mem_of_getElem? hy
      generalize l[j] = u at *
      obtain ⟨b, o, rfl, hB, hys⟩ := lies_up HL.out.1.head (by omega)
      obtain ⟨e0, e1, e2, e3, e4, e5⟩ := ((hys j u hy).past_ hb hB).six
      obtain ⟨V3, hV3, hb3, hs3, ho3⟩ := upbox wi u
      have hchu : chkU u = 0 := HC.out.1 u hym
      have htk : l.take (j + 1) = l.take j ++ [u] := by rw [List.take_add_one, hy]; rfl
      have hnx := nxtU_next 0 rounds (l.take j) u
      rw [← htk] at hnx
      have hln := nxtU_len 0 rounds (l.take j)
      rw [List.length_take] at hln
      have htm := chk_tm (t := u.t) (chkK_zero hchu).2.2
      have Hla := Lib.hid (fun W => later_0 u W (by have := htm.2.1; have := htm.2.2; omega))
      rw [show (latU 0 u).val = .agg #[.slice u.kA u.key.length u.kc, .slice u.rA u.row.length u.rc, .int .u64 ((lat 0 u.t).e : Int), .int .u64 ((lat 0 u.t).a : Int), .int .u64 ((lat 0 u.t).b : Int), .int .i64 u.d] from rfl] at Hla
      have hrw : inLoop 0 u.t = u.t.a := rfl
      rw [hrw] at hnx
      have HJ := Lib.hid (And.intro (own_below hown hb3) (And.intro (hb.trans (hb3.mono hb.size)) hnx))
      have q3 : (0 : Int) ≤ (j : Int) := by omega
      have q4 : (j : Int) < (l.length : Int) := by omega
      have q5 : decide ((j : Int) < (l.length : Int)) = true := decide_eq_true q4
      have hlen : (nxtU 0 rounds (l.take j)).length ≤ 1099511627776 := by omega
      generalize nxtU 0 rounds (l.take j) = us at *
      clear hy hym hys hchu htk hnx hln htm hown hb hb3 hs3 hrw
      go_upto_region 8 with fail
      rw [← hV3]
      clear hV3 e0 e1 e2 e3 e4 e5
      obtain ⟨e0, e1, e2, e3, e4, e5⟩ := own6 ho3
      clear ho3
      by_cases hr : (u.t.a : Int) < rounds
      · have t1 : decide ((u.t.a : Int) < rounds) = true := decide_eq_true hr
        have HR := Lib.hid hr
        clear hr
        go_wp2_with fail
        refine (Hla.out _).mono ?_
        rintro _ w6 ⟨rfl, b6⟩
        obtain ⟨L, hL⟩ : ∃ L, lat 0 u.t = L := ⟨_, rfl⟩
        rw [hL]
        have H6 := Lib.hid (And.intro (own_below (own_below HJ.out.1 b6) ((Below.refl _ w6).alloc (Nat.le_refl _) (.cells #[.slice u.kA u.key.length u.kc, .slice u.rA u.row.length u.rc, .int .u64 (L.e : Int), .int .u64 (L.a : Int), .int .u64 (L.b : Int), .int .i64 u.d] 44))) (And.intro ((HJ.out.2.1.trans (b6.mono HJ.out.2.1.size)).alloc (Nat.le_trans HJ.out.2.1.size b6.size) (.cells #[.slice u.kA u.key.length u.kc, .slice u.rA u.row.length u.rc, .int .u64 (L.e : Int), .int .u64 (L.a : Int), .int .u64 (L.b : Int), .int .i64 u.d] 44)) hL))
        have hsz : w.heap.size ≤ w6.heap.size := Nat.le_trans HJ.out.2.1.size b6.size
        have hp := Lib.hid (up_made w6 ⟨u.kA, u.kc, u.key, u.rA, u.rc, u.row, L, u.d⟩)
        clear b6 hL e0 e1 e2 e3 e4 e5
        go_wp2_with (at_builtin; refine wpList_append_lies _ rfl (.tmp 33) (.tmp 37) 22 44 rfl i0 _ 80 HI.out.1 HI.out.2.1 HI.out.2.2.1 HI.out.2.2.2.1 HI.out.2.2.2.2 rfl (by decide) ucells_len ucells_one w.heap.size _ _ _ rfl H6.out.1 1 rfl hp.out ?m1 ?m2 ?m3 ?m4)
        case m1 => show us.length + 1 ≤ maxLen; unfold maxLen; omega
        case m2 => show (us.length + 1) * 80 ≤ 140737488355328; omega
        case m3 => simp; omega
        intro v' w' ho' hb'
        have HA := Lib.hid (And.intro ho' hb')
        clear ho' hb'
        go_wp2_with fail
        go_roundw
        case rel =>
          refine ⟨j + 1, by go_num, by omega, ?_, H6.out.2.1.trans HA.out.2⟩
          rw [HJ.out.2.2, if_pos HR.out, List.flatMap_append, List.length_append]
          unfold latU
          rw [H6.out.2.2]
          exact HA.out.1
        case measure => simp [intOf]; omega
      · have t1 : decide ((u.t.a : Int) < rounds) = false := decide_eq_false hr
        have HR := Lib.hid hr
        clear hr
        go_wp2_with fail
        go_roundw
        case rel =>
          refine ⟨j + 1, by go_num, by omega, ?_, HJ.out.2.1⟩
          rw [HJ.out.2.2, if_neg HR.out, List.append_nil]
          exact HJ.out.1
        case measure => simp [intOf]; omega
    · have hj2 : j = l.length := by omega
      have q5 : decide ((j : Int) < (l.length : Int)) = false := decide_eq_false (by omega)
      rw [hj2, List.take_length] at hown
      obtain ⟨T, hT⟩ : ∃ T, nxtU 0 rounds l = T := ⟨_, rfl⟩
      rw [hT] at hown
      have hTm : ∀ x ∈ T, ∃ u ∈ l, x = latU 0 u := fun x hx => nxtU_mem (by rw [hT]; exact hx)
      have hTn : T.length ≤ l.length := by rw [← hT]; exact nxtU_len 0 rounds l
      obtain ⟨A3, c3, rfl, _, _, h3⟩ := lies_of_own (size := 6) (cells := Up.cells) (by decide) ucells_len rfl hown
      have hu3 : Ups wi wi.heap.size A3 T := ⟨h3, fun x hx => by
        obtain ⟨u, hu, rfl⟩ := hTm x hx
        have h := (HL.out.1.each_ u hu)
        exact ⟨(h.key.past hb (Nat.le_refl _)).wide hb.size, (h.row.past hb (Nat.le_refl _)).wide hb.size⟩⟩
      obtain ⟨V, hV, hvb, hvl⟩ := one_list wi A3 c3 T hu3
      have hcall := consolidate_new (some ⟨wi.heap.size, 0, none⟩) 1 [⟨A3, c3, T⟩] V hvl (fun s hs x hx => by
        obtain rfl : s = ⟨A3, c3, T⟩ := by simpa using hs
        obtain ⟨u, hu, rfl⟩ := hTm x hx
        have h := HL.out.2.1 u hu
        exact ⟨h.kn, h.rn, h.ks, h.rs, h.dn⟩) (by simp [flatR]; omega) (by simp)
      unfold UpsNew at hcall
      simp only [List.map_cons, List.map_nil] at hcall
      obtain ⟨E, hE⟩ : ∃ E, consE [T] = E := ⟨_, rfl⟩
      rw [hE] at hcall
      have HCl := Lib.hid hcall
      have HV := Lib.hid (And.intro (hb.trans (hvb.mono hb.size)) (And.intro hE (And.intro hT (Nat.le_trans hb.size hvb.size))))
      clear hown hb h3 hu3 hvb hvl hcall hE hT hTm hTn hj2
      go_wp2_with fail
      rw [← hV]
      clear hV
      refine HCl.out.mono ?_
      rintro _ w4 ⟨A4, k4, outL, rfl, hp4, hu4, ho4, b4, hlo4⟩
      have HF := Lib.hid (And.intro (HV.out.1.trans (b4.mono HV.out.1.size)) (And.intro hp4 (And.intro hu4 (And.intro ho4 hlo4))))
      clear hp4 hu4 ho4 b4 hlo4 HCl
      go_wp2_with fail
      go_ret2
      exact ⟨A4, k4, outL, by unfold nxtE; rw [HL.out.2.2, if_pos rfl, HV.out.2.2.1, HV.out.2.1]; rfl, by unfold nxtL; rw [HL.out.2.2, if_pos rfl, HV.out.2.2.1]; exact HF.out.2.1, HF.out.2.2.1, HF.out.2.2.2.1, HF.out.1, ⟨fun b o e => Nat.le_trans HV.out.2.2.2 (HF.out.2.2.2.2.1 b o e), fun u hu b o e => Nat.le_trans HV.out.2.2.2 (HF.out.2.2.2.2.2 u hu b o e)⟩⟩

set_option maxRecDepth 100000 in
set_option maxHeartbeats 8000000 in
theorem next_1 (rounds : Int) (A : Option Addr) (c : Nat) (l : List Up) (w : World) (hl : Ups w w.heap.size A l) (hok : ∀ u ∈ l, UOk u) (hn : l.length ≤ 1099511627776) :
    Calls Tryz.prog 18 #[.int .i64 1, .int .i64 rounds, .slice A l.length c] w (UpsNew (nxtL 1 rounds l) (nxtE 1 rounds l) w) := by
  obtain ⟨i0, hi, hz0, hz1, hz2⟩ := info_parts infoUp
  have HI := Lib.hid (And.intro Tryz.underlying22 (And.intro hi (And.intro hz0 (And.intro hz1 hz2))))
  have hck := checkL_any 1 rounds A c l w hl (by omega) hok
  obtain ⟨K, hK⟩ : ∃ K, chkL 1 rounds l = K := ⟨_, rfl⟩
  rw [hK] at hck
  have Hck := Lib.hid hck
  have HL := Lib.hid (And.intro hl (And.intro hok hK))
  clear hl hok hK hck hi hz0 hz1 hz2
  go_enter Tryz.func18, Tryz.ntmps18
  go_wp2_with fail
  refine Hck.out.mono ?_
  rintro _ w1 ⟨rfl, b1⟩
  have H1 := Lib.hid b1
  clear b1 Hck
  by_cases hK0 : K = 0
  case neg =>
    have t1 : (K != 0) = true := bne_iff_ne.2 hK0
    have HK0 := Lib.hid hK0
    clear hK0
    go_wp2_with fail
    go_ret2
    exact ⟨none, 0, [], by unfold nxtE; rw [HL.out.2.2, if_neg HK0.out]; rfl, by unfold nxtL; rw [HL.out.2.2, if_neg HK0.out]; rfl, ⟨Lies.nil_, fun u hu => (by cases hu)⟩, fun u hu => (by cases hu), H1.out, lo_nil _⟩
  subst hK0
  obtain ⟨hus, hlp, hr1, hr2⟩ := chkL_zero HL.out.2.2
  have HC := Lib.hid (And.intro (chkUs_all.1 hus) (And.intro hr1 hr2))
  have hcv : IntKind.u64.wrap rounds = rounds := IntWalk.u64_in rounds (by omega)
  clear hus hlp hr1 hr2
  go_wp2_with fail
  go_loopw [9, 21] (fun v9 v21 wr => ∃ j : Nat, v21 = .int .i64 (j : Int) ∧ j ≤ l.length ∧ wr.ownsRow w.heap.size 44 6 v9 (nxtU 1 rounds (l.take j)).length ((nxtU 1 rounds (l.take j)).flatMap Up.cells) ∧ Below w.heap.size w wr)
    (fun _ v21 _ => l.length - (intOf v21).toNat)
  case atStart => exact ⟨0, rfl, Nat.zero_le _, World.ownsRow_nil _ _ _ _, H1.out⟩
  case round =>
    obtain ⟨j, rfl, hj, hown, hb⟩ := hrel
    obtain ⟨wi, hwi⟩ : ∃ wi, wi = wr := ⟨_, rfl⟩
    subst hwi
    by_cases hlt : j < l.length
    · have hy : l[j]? = some l[j] := List.getElem?_eq_getElem hlt
      have hym := List.mem_of_getElem? hy
      generalize l[j] = u at *
      obtain ⟨b, o, rfl, hB, hys⟩ := lies_up HL.out.1.head (by omega)
      obtain ⟨e0, e1, e2, e3, e4, e5⟩ := ((hys j u hy).past_ hb hB).six
      obtain ⟨V3, hV3, hb3, hs3, ho3⟩ := upbox wi u
      have hchu : chkU u = 0 := HC.out.1 u hym
      have htk : l.take (j + 1) = l.take j ++ [u] := by rw [List.take_add_one, hy]; rfl
      have hnx := nxtU_next 1 rounds (l.take j) u
      rw [← htk] at hnx
      have hln := nxtU_len 1 rounds (l.take j)
      rw [List.length_take] at hln
      have htm := chk_tm (t := u.t) (chkK_zero hchu).2.2
      have Hla := Lib.hid (fun W => later_1 u W (by have := htm.2.1; have := htm.2.2; omega))
      rw [show (latU 1 u).val = .agg #[.slice u.kA u.key.length u.kc, .slice u.rA u.row.length u.rc, .int .u64 ((lat 1 u.t).e : Int), .int .u64 ((lat 1 u.t).a : Int), .int .u64 ((lat 1 u.t).b : Int), .int .i64 u.d] from rfl] at Hla
      have hrw : inLoop 1 u.t = u.t.b := rfl
      rw [hrw] at hnx
      have HJ := Lib.hid (And.intro (own_below hown hb3) (And.intro (hb.trans (hb3.mono hb.size)) hnx))
      have q3 : (0 : Int) ≤ (j : Int) := by omega
      have q4 : (j : Int) < (l.length : Int) := by omega
      have q5 : decide ((j : Int) < (l.length : Int)) = true := decide_eq_true q4
      have hlen : (nxtU 1 rounds (l.take j)).length ≤ 1099511627776 := by omega
      generalize nxtU 1 rounds (l.take j) = us at *
      clear hy hym hys hchu htk hnx hln htm hown hb hb3 hs3 hrw
      go_upto_region 8 with fail
      rw [← hV3]
      clear hV3 e0 e1 e2 e3 e4 e5
      obtain ⟨e0, e1, e2, e3, e4, e5⟩ := own6 ho3
      clear ho3
      by_cases hr : (u.t.b : Int) < rounds
      · have t1 : decide ((u.t.b : Int) < rounds) = true := decide_eq_true hr
        have HR := Lib.hid hr
        clear hr
        go_wp2_with fail
        refine (Hla.out _).mono ?_
        rintro _ w6 ⟨rfl, b6⟩
        obtain ⟨L, hL⟩ : ∃ L, lat 1 u.t = L := ⟨_, rfl⟩
        rw [hL]
        have H6 := Lib.hid (And.intro (own_below (own_below HJ.out.1 b6) ((Below.refl _ w6).alloc (Nat.le_refl _) (.cells #[.slice u.kA u.key.length u.kc, .slice u.rA u.row.length u.rc, .int .u64 (L.e : Int), .int .u64 (L.a : Int), .int .u64 (L.b : Int), .int .i64 u.d] 44))) (And.intro ((HJ.out.2.1.trans (b6.mono HJ.out.2.1.size)).alloc (Nat.le_trans HJ.out.2.1.size b6.size) (.cells #[.slice u.kA u.key.length u.kc, .slice u.rA u.row.length u.rc, .int .u64 (L.e : Int), .int .u64 (L.a : Int), .int .u64 (L.b : Int), .int .i64 u.d] 44)) hL))
        have hsz : w.heap.size ≤ w6.heap.size := Nat.le_trans HJ.out.2.1.size b6.size
        have hp := Lib.hid (up_made w6 ⟨u.kA, u.kc, u.key, u.rA, u.rc, u.row, L, u.d⟩)
        clear b6 hL e0 e1 e2 e3 e4 e5
        go_wp2_with (at_builtin; refine wpList_append_lies _ rfl (.tmp 33) (.tmp 37) 22 44 rfl i0 _ 80 HI.out.1 HI.out.2.1 HI.out.2.2.1 HI.out.2.2.2.1 HI.out.2.2.2.2 rfl (by decide) ucells_len ucells_one w.heap.size _ _ _ rfl H6.out.1 1 rfl hp.out ?m1 ?m2 ?m3 ?m4)
        case m1 => show us.length + 1 ≤ maxLen; unfold maxLen; omega
        case m2 => show (us.length + 1) * 80 ≤ 140737488355328; omega
        case m3 => simp; omega
        intro v' w' ho' hb'
        have HA := Lib.hid (And.intro ho' hb')
        clear ho' hb'
        go_wp2_with fail
        go_roundw
        case rel =>
          refine ⟨j + 1, by go_num, by omega, ?_, H6.out.2.1.trans HA.out.2⟩
          rw [HJ.out.2.2, if_pos HR.out, List.flatMap_append, List.length_append]
          unfold latU
          rw [H6.out.2.2]
          exact HA.out.1
        case measure => simp [intOf]; omega
      · have t1 : decide ((u.t.b : Int) < rounds) = false := decide_eq_false hr
        have HR := Lib.hid hr
        clear hr
        go_wp2_with fail
        go_roundw
        case rel =>
          refine ⟨j + 1, by go_num, by omega, ?_, HJ.out.2.1⟩
          rw [HJ.out.2.2, if_neg HR.out, List.append_nil]
          exact HJ.out.1
        case measure => simp [intOf]; omega
    · have hj2 : j = l.length := by omega
      have q5 : decide ((j : Int) < (l.length : Int)) = false := decide_eq_false (by omega)
      rw [hj2, List.take_length] at hown
      obtain ⟨T, hT⟩ : ∃ T, nxtU 1 rounds l = T := ⟨_, rfl⟩
      rw [hT] at hown
      have hTm : ∀ x ∈ T, ∃ u ∈ l, x = latU 1 u := fun x hx => nxtU_mem (by rw [hT]; exact hx)
      have hTn : T.length ≤ l.length := by rw [← hT]; exact nxtU_len 1 rounds l
      obtain ⟨A3, c3, rfl, _, _, h3⟩ := lies_of_own (size := 6) (cells := Up.cells) (by decide) ucells_len rfl hown
      have hu3 : Ups wi wi.heap.size A3 T := ⟨h3, fun x hx => by
        obtain ⟨u, hu, rfl⟩ := hTm x hx
        have h := (HL.out.1.each_ u hu)
        exact ⟨(h.key.past hb (Nat.le_refl _)).wide hb.size, (h.row.past hb (Nat.le_refl _)).wide hb.size⟩⟩
      obtain ⟨V, hV, hvb, hvl⟩ := one_list wi A3 c3 T hu3
      have hcall := consolidate_new (some ⟨wi.heap.size, 0, none⟩) 1 [⟨A3, c3, T⟩] V hvl (fun s hs x hx => by
        obtain rfl : s = ⟨A3, c3, T⟩ := by simpa using hs
        obtain ⟨u, hu, rfl⟩ := hTm x hx
        have h := HL.out.2.1 u hu
        exact ⟨h.kn, h.rn, h.ks, h.rs, h.dn⟩) (by simp [flatR]; omega) (by simp)
      unfold UpsNew at hcall
      simp only [List.map_cons, List.map_nil] at hcall
      obtain ⟨E, hE⟩ : ∃ E, consE [T] = E := ⟨_, rfl⟩
      rw [hE] at hcall
      have HCl := Lib.hid hcall
      have HV := Lib.hid (And.intro (hb.trans (hvb.mono hb.size)) (And.intro hE (And.intro hT (Nat.le_trans hb.size hvb.size))))
      clear hown hb h3 hu3 hvb hvl hcall hE hT hTm hTn hj2
      go_wp2_with fail
      rw [← hV]
      clear hV
      refine HCl.out.mono ?_
      rintro _ w4 ⟨A4, k4, outL, rfl, hp4, hu4, ho4, b4, hlo4⟩
      have HF := Lib.hid (And.intro (HV.out.1.trans (b4.mono HV.out.1.size)) (And.intro hp4 (And.intro hu4 (And.intro ho4 hlo4))))
      clear hp4 hu4 ho4 b4 hlo4 HCl
      go_wp2_with fail
      go_ret2
      exact ⟨A4, k4, outL, by unfold nxtE; rw [HL.out.2.2, if_pos rfl, HV.out.2.2.1, HV.out.2.1]; rfl, by unfold nxtL; rw [HL.out.2.2, if_pos rfl, HV.out.2.2.1]; exact HF.out.2.1, HF.out.2.2.1, HF.out.2.2.2.1, HF.out.1, ⟨fun b o e => Nat.le_trans HV.out.2.2.2 (HF.out.2.2.2.2.1 b o e), fun u hu b o e => Nat.le_trans HV.out.2.2.2 (HF.out.2.2.2.2.2 u hu b o e)⟩⟩
end Go.Proofs.YtcfldgncmbcpmaaGreat
namespace Go.Proofs.YtcfldgncmbcpmaaGreat
open Go Go.RowKit

/-- a slice at A of as many rows as L has reads as L; all of it lies below block B; each row takes fewer than 2^47 bytes -/
def RowsAt (w : World) (B : Nat) (A : Option Addr) (L : List (List Vl)) : Prop :=
  0 < L.length → ∃ b o, A = some ⟨b, o, none⟩ ∧ b < B ∧ ∀ (i : Nat) (l : List Vl), L[i]? = some l → ∃ A' c', w.cell? ⟨b, o + i, none⟩ = some (.slice A' l.length c') ∧ Vals w B A' l
section
variable {w w' : World} {B B' : Nat} {A : Option Addr} {L : List (List Vl)}
theorem RowsAt.past (h : RowsAt w B A L) (hb : Below B' w w') (hB : B ≤ B') : RowsAt w' B A L := fun hn => by
  obtain ⟨b, o, e, hlt, hc⟩ := h hn
  refine ⟨b, o, e, hlt, fun i l hi => ?_⟩
  obtain ⟨A', c', h1, h2⟩ := hc i l hi
  exact ⟨A', c', (hb.cell (p := ⟨b, o + i, none⟩) (show b < B' by omega)).trans h1, h2.past hb hB⟩
theorem RowsAt.wide (h : RowsAt w B A L) (hB : B ≤ B') : RowsAt w B' A L := fun hn => by
  obtain ⟨b, o, e, hlt, hc⟩ := h hn
  refine ⟨b, o, e, by omega, fun i l hi => ?_⟩
  obtain ⟨A', c', h1, h2⟩ := hc i l hi
  exact ⟨A', c', h1, h2.wide hB⟩
end
theorem rowsAt_keep {a b : World} {A : Option Addr} {L : List (List Vl)} (h : RowsAt a a.heap.size A L) (hb : Below a.heap.size a b) : RowsAt b b.heap.size A L := (h.past hb (Nat.le_refl _)).wide hb.size
/-- the lengths, added up -/
def lens (L : List (List Vl)) : Nat := (L.map List.length).sum
theorem lens_flat (L : List (List Vl)) : L.flatten.length = lens L := by simp [lens, List.length_flatten]
theorem lens_snoc {L : List (List Vl)} {k : Nat} {l : List Vl} (h : L[k]? = some l) : lens (L.take (k + 1)) = lens (L.take k) + l.length := by
  rw [List.take_add_one, h]; simp [lens]
theorem flat_snoc {L : List (List Vl)} {k : Nat} {l : List Vl} (h : L[k]? = some l) : (L.take (k + 1)).flatten = (L.take k).flatten ++ l := by
  rw [List.take_add_one, h]; simp
theorem lens_take : ∀ (L : List (List Vl)) (k : Nat), lens (L.take k) ≤ lens L
  | [], k => by simp [lens]
  | l :: L, 0 => by simp [lens]
  | l :: L, k + 1 => by
    have := lens_take L k
    unfold lens at *
    simp only [List.take_succ_cons, List.map_cons, List.sum_cons]
    omega
end Go.Proofs.YtcfldgncmbcpmaaGreat
namespace Go.Proofs.YtcfldgncmbcpmaaGreat
open Go Go.RowKit

theorem zero_size (z : Array Value) (n : Nat) : (Builtin.zeroCells z n).size = n * z.size := by simp [Builtin.zeroCells]
theorem bytesVl : Tryz.t46.bytes = 32 := by kernel_rfl
theorem lens_one {L : List (List Vl)} {k : Nat} {l : List Vl} (h : L[k]? = some l) : lens (L.take k) + l.length ≤ lens L := by
  rw [← lens_snoc h]; exact lens_take L (k + 1)
end Go.Proofs.YtcfldgncmbcpmaaGreat
namespace Go.Proofs.YtcfldgncmbcpmaaGreat
open Go Go.RowKit

def inR (n : Nat) (c : Int) : Bool := decide (0 ≤ c) && decide (c < n)
def colsE (l : List Vl) (cs : List Int) : Int := if chkRow l = 0 then (if cs.all (inR l.length) then (if cs.length ≤ 8 then 0 else 2) else 1) else 4
def pick (l : List Vl) (c : Int) : Vl := l.getD c.toNat default
def colsL (l : List Vl) (cs : List Int) : List Vl := if colsE l cs = 0 then cs.map (pick l) else []
def ColsPost (l : List Vl) (cs : List Int) (w : World) (e : Ending) (w' : World) : Prop :=
  ∃ v, e = .returned (.tuple #[v, .int .i64 (colsE l cs)]) ∧ w'.ownsRow w.heap.size 46 3 v (colsL l cs).length ((colsL l cs).flatMap Vl.cells) ∧ Below w.heap.size w w'
theorem cols_none {l : List Vl} {cs : List Int} {w w' : World} {c : Int} (hE : colsE l cs = c) (hc : c ≠ 0) (hb : Below w.heap.size w w') : ColsPost l cs w (.returned (.tuple #[.slice none 0 0, .int .i64 c])) w' :=
  ⟨_, by rw [hE], by have : colsL l cs = [] := by unfold colsL; rw [if_neg (by rw [hE]; exact hc)]
                     rw [this]; exact World.ownsRow_nil _ _ _ _, hb⟩
theorem chk_cases (l : List Vl) : chkRow l = 0 ∨ chkRow l = 4 := by unfold chkRow; split <;> simp
theorem inR_snoc {cs : List Int} {n k : Nat} {c : Int} (h : cs[k]? = some c) : (cs.take (k + 1)).all (inR n) = ((cs.take k).all (inR n) && inR n c) := by
  rw [List.take_add_one, h]; simp
theorem inR_bad {cs : List Int} {n k : Nat} {c : Int} (h : cs[k]? = some c) (hc : inR n c = false) : cs.all (inR n) = false := by
  cases ho : cs.all (inR n) with
  | false => rfl
  | true => have := List.all_eq_true.1 ho c (List.mem_of_getElem? h); rw [hc] at this; cases this
theorem inR_at {cs : List Int} {n k : Nat} {c : Int} (ho : cs.all (inR n) = true) (h : cs[k]? = some c) : ∃ m : Nat, c = (m : Int) ∧ m < n := by
  have := List.all_eq_true.1 ho c (List.mem_of_getElem? h)
  unfold inR at this
  simp only [Bool.and_eq_true, decide_eq_true_eq] at this
  exact ⟨c.toNat, by omega, by omega⟩
theorem set_cells (pre rest : List Vl) (z x : Vl) (k : Nat) (hk : pre.length = k) :
    ((((pre ++ z :: rest).flatMap Vl.cells).set (k * 3) (.bool x.t)).set (k * 3 + 1) (.int .i64 x.n)).set (k * 3 + 2) (.string x.s) = (pre ++ x :: rest).flatMap Vl.cells := by
  have hl : (pre.flatMap Vl.cells).length = k * 3 := by rw [flat_size (size := 3) (fun _ => rfl), hk]
  rw [List.flatMap_append, List.flatMap_append, List.set_append_right _ _ (by omega), List.set_append_right _ _ (by omega), List.set_append_right _ _ (by omega), hl]
  rw [show k * 3 - k * 3 = 0 by omega, show k * 3 + 1 - k * 3 = 1 by omega, show k * 3 + 2 - k * 3 = 2 by omega]
  simp [Vl.cells]
theorem infoVl' : (Tryz.prog.info? 46).map (fun i => (i.zero, i.size, i.bytes)) = some (some (.agg #[.bool false, .int .i64 0, .string ⟨#[]⟩]), 3, 32) := infoVl
theorem made_cells (n : Nat) (h : n ≤ 8) : (madeCells #[Value.bool false, Value.int IntKind.i64 0, Value.string ⟨#[]⟩] (n * 3)).toList = (List.replicate n (⟨false, 0, ⟨#[]⟩⟩ : Vl)).flatMap Vl.cells := by
  rcases (show n = 0 ∨ n = 1 ∨ n = 2 ∨ n = 3 ∨ n = 4 ∨ n = 5 ∨ n = 6 ∨ n = 7 ∨ n = 8 by omega) with rfl | rfl | rfl | rfl | rfl | rfl | rfl | rfl | rfl <;> kernel_rfl
theorem own_madeV {w : World} {base g n : Nat} {e : TypeId} {xs : List Value} (h : w.ownsRow base e 3 (.slice (some ⟨g, 0, none⟩) n n) n xs) : Own w g e xs := by
  rcases h.2 with ⟨h0, _⟩ | ⟨g', cap, cur, hv, hb, hg, h1, h2, h3, h4⟩
  · cases h0
  · simp only [Value.slice.injEq, Option.some.injEq, Addr.mk.injEq, and_true] at hv
    obtain ⟨rfl, _, rfl⟩ := hv
    rw [List.take_of_length_le (by rw [Array.length_toList, h3]; exact Nat.le_refl _)] at h4
    subst h4
    unfold Own
    rw [hg]
theorem own_row {w : World} {base g n : Nat} {e : TypeId} {l : List Vl} (h : Own w g e (l.flatMap Vl.cells)) (hg : base ≤ g) (hn : l.length = n) (hm : n ≤ maxLen) : w.ownsRow base e 3 (.slice (some ⟨g, 0, none⟩) n n) n (l.flatMap Vl.cells) := by
  have hl : (l.flatMap Vl.cells).length = n * 3 := by rw [flat_size (size := 3) (fun _ => rfl), hn]
  exact ⟨hl, .inr ⟨g, n, _, rfl, hg, h, Nat.le_refl _, hm, by simpa using hl, by rw [List.toList_toArray, ← hl, List.take_length]⟩⟩

set_option maxRecDepth 100000 in
set_option maxHeartbeats 3200000 in
theorem cols_any (A : Option Addr) (c : Nat) (l : List Vl) (A' : Option Addr) (c' : Nat) (cs : List Int) (w : World) (hl : Vals w w.heap.size A l) (hn : l.length ≤ maxLen) (hok : ∀ v ∈ l, VOk v) (hcs : Ints w w.heap.size A' cs) (hn' : cs.length ≤ maxLen) :
    Calls Tryz.prog 24 #[.slice A l.length c, .slice A' cs.length c'] w (ColsPost l cs w) := by
  have hchk := Lib.hid (vcheck_any A c l w hl hn (fun v hv => (hok v hv).1))
  have hco := chk_cases l
  unfold maxLen at hn hn'
  have Hl := Lib.hid (And.intro hl hcs)
  clear hl hcs hok
  rcases hco with hz | hz
  · rw [hz] at hchk
    have HZ := Lib.hid hz
    clear hz
    go_enter Tryz.func24, Tryz.ntmps24
    go_wp2_with fail
    refine hchk.out.mono ?_
    rintro e w1 ⟨rfl, b1⟩
    have H1 := Lib.hid b1
    clear b1 hchk
    go_wp2_with fail
    go_loopw [19] (fun i wr => ∃ k : Nat, i = .int .i64 (k : Int) ∧ k ≤ cs.length ∧ (cs.take k).all (inR l.length) = true ∧ w1 = wr)
      (fun i _ => cs.length - (intOf i).toNat)
    case atStart => exact ⟨0, rfl, by omega, rfl, rfl⟩
    case round =>
      obtain ⟨k, rfl, hk, ha, rfl⟩ := hrel
      by_cases hlt : k < cs.length
      · have hx : cs[k]? = some cs[k] := List.getElem?_eq_getElem hlt
        obtain ⟨b, o, rfl, hB, hc⟩ := Hl.out.2 (by omega)
        have c0 := (H1.out.cell (p := ⟨b, o + k, none⟩) hB).trans (hc k _ hx)
        have hsn := fun n => inR_snoc (n := n) hx
        have hbad := fun n => inR_bad (n := n) hx
        generalize cs[k] = x at *
        have HH := Lib.hid (And.intro ha (And.intro hsn hbad))
        clear ha hsn hbad hx hc
        by_cases h0 : x < 0
        · have t1 : decide (x < 0) = true := by simpa using h0
          have hb : inR l.length x = false := by unfold inR; simp; omega
          have HB := Lib.hid hb
          clear hb
          go_wp2_with fail
          go_ret2
          exact cols_none (by unfold colsE; rw [if_pos HZ.out, if_neg (by rw [HH.out.2.2 _ HB.out]; decide)]) (by decide) H1.out
        · have t1 : decide (x < 0) = false := by simpa using h0
          by_cases h9 : x < (l.length : Int)
          · have t2 : decide ((l.length : Int) ≤ x) = false := by simp; omega
            have hb : inR l.length x = true := by unfold inR; simp; omega
            have HB := Lib.hid hb
            clear hb h0 h9
            go_wp2_with fail
            go_roundw
            case rel => exact ⟨k + 1, by go_num, by omega, by rw [HH.out.2.1, HH.out.1, HB.out]; rfl, by trivial⟩
            case measure => simp [intOf]; omega
          · have t2 : decide ((l.length : Int) ≤ x) = true := by simp; omega
            have hb : inR l.length x = false := by unfold inR; simp; omega
            have HB := Lib.hid hb
            clear hb h0 h9
            go_wp2_with fail
            go_ret2
            exact cols_none (by unfold colsE; rw [if_pos HZ.out, if_neg (by rw [HH.out.2.2 _ HB.out]; decide)]) (by decide) H1.out
      · have hk2 : k = cs.length := by omega
        subst hk2
        rw [List.take_length] at ha
        have HA := Lib.hid ha
        clear ha
        by_cases h8 : 8 < cs.length
        · have t1 : decide ((8 : Int) < (cs.length : Int)) = true := by simp; omega
          have H8 := Lib.hid h8
          clear h8
          go_wp2_with fail
          go_ret2
          exact cols_none (by have := H8.out; unfold colsE; rw [if_pos HZ.out, if_pos HA.out, if_neg (by omega)]) (by decide) H1.out
        · have t1 : decide ((8 : Int) < (cs.length : Int)) = false := by simp; omega
          have hle : cs.length ≤ 8 := by omega
          have hmk := made_cells cs.length hle
          have hE : colsE l cs = 0 := by unfold colsE; rw [if_pos HZ.out, if_pos HA.out, if_pos hle]
          have hL : colsL l cs = cs.map (pick l) := by unfold colsL; rw [if_pos hE]
          have HE := Lib.hid (And.intro hE (And.intro hL hmk))
          have hsz := H1.out.size
          clear h8 hE hL hmk
          obtain ⟨i0, hi, hz0, hz1, hz2⟩ := info_parts infoVl'
          go_wp2_with (refine wpList_make_full _ rfl (.tmp 36) (.tmp 36) 42 rfl w.heap.size 46 i0 _ 3 Tryz.underlying42 hi hz0 hz1 .i64 .i64 _ _ cs.length rfl rfl rfl rfl ?c1 ?c2 ?c3 ?_)
          case c1 => rw [hz2]; omega
          case c2 => unfold maxLen; omega
          case c3 => exact hsz
          intro w2 o2 g2
          have o2' : w2.ownsRow w.heap.size 46 3 (.slice (some ⟨w1.heap.size, 0, none⟩) cs.length cs.length) cs.length (madeCells #[Value.bool false, Value.int IntKind.i64 0, Value.string ⟨#[]⟩] (cs.length * 3)).toList := o2
          have ho2 := own_madeV o2'
          have hb2 : Below w.heap.size w w2 := H1.out.grown g2 H1.out.size (fun k hk => by simp at hk)
          have H2 := Lib.hid (And.intro (own_of ho2 HE.out.2.2) hb2)
          clear o2 o2' g2 ho2 hb2 hi hz0 hz1 hz2
          go_wp2_with fail
          go_loopw [40] (fun i wr => ∃ k : Nat, i = .int .i64 (k : Int) ∧ k ≤ cs.length ∧ Own wr w1.heap.size 46 (((cs.take k).map (pick l) ++ List.replicate (cs.length - k) (⟨false, 0, ⟨#[]⟩⟩ : Vl)).flatMap Vl.cells) ∧ Below w.heap.size w wr)
            (fun i _ => cs.length - (intOf i).toNat)
          case atStart => exact ⟨0, rfl, by omega, by simpa using H2.out.1, H2.out.2⟩
          case round =>
            obtain ⟨k, rfl, hk', ho, hb⟩ := hrel
            by_cases hlt' : k < cs.length
            · have hx : cs[k]? = some cs[k] := List.getElem?_eq_getElem hlt'
              obtain ⟨b, o, rfl, hB, hc⟩ := Hl.out.2 (by omega)
              have c0 := (hb.cell (p := ⟨b, o + k, none⟩) hB).trans (hc k _ hx)
              obtain ⟨m, hm, hml⟩ := inR_at HA.out hx
              have hmp : (cs.take (k + 1)).map (pick l) = (cs.take k).map (pick l) ++ [pick l cs[k]] := by rw [List.take_add_one, hx, List.map_append]; rfl
              have hrp : List.replicate (cs.length - k) (⟨false, 0, ⟨#[]⟩⟩ : Vl) = ⟨false, 0, ⟨#[]⟩⟩ :: List.replicate (cs.length - (k + 1)) ⟨false, 0, ⟨#[]⟩⟩ := by
                rw [show cs.length - k = (cs.length - (k + 1)) + 1 by omega]; rfl
              have hpk : pick l cs[k] = l[m] := by unfold pick; rw [hm]; simp [hml]
              have hy : l[m]? = some l[m] := List.getElem?_eq_getElem hml
              obtain ⟨b', o', rfl, hB', hc'⟩ := Hl.out.1 (by omega)
              obtain ⟨d0, d1, d2⟩ := (hc' m _ hy).past hb hB'
              rw [hm] at c0
              rw [hpk] at hmp
              generalize l[m] = x at *
              have hlen : ((cs.take k).map (pick l)).length = k := by simp; omega
              rw [hrp] at ho
              have s0 := ho.open_ (k * 3)
              have s1 := ho.open_ (k * 3 + 1)
              have s2 := ho.open_ (k * 3 + 2)
              have hg := ho.inside
              obtain ⟨v0, z0⟩ : ∃ v, wr.cell? ⟨w1.heap.size, k * 3, none⟩ = some v := ⟨_, (ho.at_ _).trans (List.getElem?_eq_getElem (by rw [flat_size (size := 3) (fun _ => rfl)]; simp; omega))⟩
              obtain ⟨v1, z1⟩ : ∃ v, wr.cell? ⟨w1.heap.size, k * 3 + 1, none⟩ = some v := ⟨_, (ho.at_ _).trans (List.getElem?_eq_getElem (by rw [flat_size (size := 3) (fun _ => rfl)]; simp; omega))⟩
              obtain ⟨v2, z2⟩ : ∃ v, wr.cell? ⟨w1.heap.size, k * 3 + 2, none⟩ = some v := ⟨_, (ho.at_ _).trans (List.getElem?_eq_getElem (by rw [flat_size (size := 3) (fun _ => rfl)]; simp; omega))⟩
              have HH := Lib.hid (And.intro hb (And.intro ho (And.intro hmp hlen)))
              clear hb ho hmp hlen hrp hpk hx hy hm hc hc'
              go_wp2_with fail
              go_roundw
              case rel =>
                obtain ⟨hb, ho, hmp, hlen⟩ := HH.out
                refine ⟨k + 1, by go_num, by omega, own_of (((ho.set_ (k * 3) _).set_ (k * 3 + 1) _).set_ (k * 3 + 2) _) ?_, ((hb.setCell hsz _).setCell hsz _).setCell hsz _⟩
                rw [set_cells _ _ _ _ k hlen, hmp, List.append_assoc]
                rfl
              case measure => simp [intOf]; omega
            · have hk3 : k = cs.length := by omega
              subst hk3
              rw [List.take_length, Nat.sub_self, List.replicate_zero, List.append_nil] at ho
              have H3 := Lib.hid (And.intro ho hb)
              clear ho hb
              go_wp2_with fail
              go_ret2
              obtain ⟨ho, hb⟩ := H3.out
              obtain ⟨hE, hL, _⟩ := HE.out
              refine ⟨_, by rw [hE]; rfl, ?_, hb⟩
              rw [hL]
              have hlm : (cs.map (pick l)).length = cs.length := by simp
              rw [hlm]
              exact own_row ho hsz hlm (by unfold maxLen; omega)
  · rw [hz] at hchk
    have HZ := Lib.hid hz
    clear hz
    go_enter Tryz.func24, Tryz.ntmps24
    go_wp2_with fail
    refine hchk.out.mono ?_
    rintro e w1 ⟨rfl, b1⟩
    go_wp2_with fail
    go_ret2
    exact cols_none (by unfold colsE; rw [if_neg (by rw [HZ.out]; decide)]) (by decide) b1
end Go.Proofs.YtcfldgncmbcpmaaGreat
namespace Go.Proofs.YtcfldgncmbcpmaaGreat
open Go Go.RowKit

/-- the first error of the columns -/
def arrErr (cs : List Int) : List Up → Int
  | [] => 0
  | u :: l => if colsE u.row cs = 0 then arrErr cs l else colsE u.row cs
theorem arrErr_take {cs : List Int} {l : List Up} {k : Nat} {u : Up} (h : l[k]? = some u) (h0 : arrErr cs (l.take k) = 0) : arrErr cs (l.take (k + 1)) = colsE u.row cs := by
  induction l generalizing k with
  | nil => simp at h
  | cons x l ih =>
    cases k with
    | zero =>
      obtain rfl : x = u := by simpa using h
      simp only [List.take_succ_cons, List.take_zero, arrErr]
      split <;> simp [*]
    | succ k =>
      simp only [List.take_succ_cons, arrErr] at h0 ⊢
      split at h0
      · rename_i hx
        rw [if_pos hx]
        exact ih (by simpa using h) h0
      · rename_i hx; exact absurd h0 hx
theorem arrErr_bad {cs : List Int} {l : List Up} {k : Nat} {u : Up} (h : l[k]? = some u) (h0 : arrErr cs (l.take k) = 0) (hu : colsE u.row cs ≠ 0) : arrErr cs l = colsE u.row cs := by
  induction l generalizing k with
  | nil => simp at h
  | cons x l ih =>
    cases k with
    | zero =>
      obtain rfl : x = u := by simpa using h
      simp only [arrErr]
      rw [if_neg hu]
    | succ k =>
      simp only [List.take_succ_cons, arrErr] at h0 ⊢
      split at h0
      · rename_i hx
        rw [if_pos hx]
        exact ih (by simpa using h) h0
      · rename_i hx; exact absurd h0 hx
theorem arrErr_all {cs : List Int} {l : List Up} (h : arrErr cs l = 0) : ∀ u ∈ l, colsE u.row cs = 0 := by
  induction l with
  | nil => intro u hu; cases hu
  | cons x l ih =>
    simp only [arrErr] at h
    split at h
    · rename_i hx
      intro u hu
      rcases List.mem_cons.1 hu with rfl | hu
      · exact hx
      · exact ih h u hu
    · rename_i hx; exact absurd h hx
def arrP (cs : List Int) (l : List Up) : List (Uk × Int) := l.map fun u => (⟨colsL u.row cs, u.row, u.t⟩, u.d)
theorem pick_mem {l : List Vl} {cs : List Int} (h : colsE l cs = 0) : colsL l cs = cs.map (pick l) ∧ cs.length ≤ 8 ∧ ∀ c ∈ cs, 0 ≤ c ∧ c < (l.length : Int) ∧ pick l c ∈ l := by
  refine ⟨by unfold colsL; rw [if_pos h], ?_, ?_⟩
  · unfold colsE at h
    split at h
    · split at h
      · split at h
        · assumption
        · omega
      · omega
    · omega
  · intro c hc
    unfold colsE at h
    split at h
    · split at h
      · rename_i h1
        have := List.all_eq_true.1 h1 c hc
        unfold inR at this
        simp only [Bool.and_eq_true, decide_eq_true_eq] at this
        refine ⟨this.1, this.2, ?_⟩
        unfold pick
        have hlt : c.toNat < l.length := by omega
        rw [List.getD_eq_getElem?_getD, List.getElem?_eq_getElem hlt]
        exact List.getElem_mem hlt
      · omega
    · omega
theorem cols_chk {l : List Vl} {cs : List Int} (h : colsE l cs = 0) (hl : chkRow l = 0) : chkRow (colsL l cs) = 0 := by
  obtain ⟨h1, h2, h3⟩ := pick_mem h
  obtain ⟨h4, h5⟩ := chkRow_zero hl
  unfold chkRow
  rw [if_pos]
  rw [Bool.and_eq_true, List.all_eq_true, h1]
  refine ⟨fun v hv => ?_, by simpa using h2⟩
  obtain ⟨c, hc, rfl⟩ := List.mem_map.1 hv
  exact List.all_eq_true.1 h4 _ (h3 c hc).2.2
theorem uin_own {w w' : World} {v : Value} {u : Up} (h : UIn w w.heap.size u) (ha : Awn (fun b => v.ownBlock ≠ some b) u) (hg : w.grownBy w' v.ownBlock) : UIn w' w'.heap.size u :=
  uin_pk (PB := w.heap.size) (v := v) h ((Awn.and ha (awn_lt h)).imp fun b hb => ⟨by have := hb.2; omega, hb.1⟩) ⟨hg.os, hg.tape, hg.output, hg.size, fun k hk _ hne => hg.block k hk fun e => hne e.symm⟩
/-- what Arrange tells -/
def arrE (cs : List Int) (l : List Up) : Int := if chkUs l = 0 then (if arrErr cs l = 0 then resE Uk.cmp (arrP cs l) else arrErr cs l) else chkUs l
def arrL (cs : List Int) (l : List Up) : List (Uk × Int) := if arrE cs l = 0 then nz Uk.cmp (arrP cs l) else []
set_option maxRecDepth 100000 in
set_option maxHeartbeats 8000000 in
theorem arrange_any (A' : Option Addr) (c' : Nat) (cs : List Int) (A : Option Addr) (c : Nat) (l : List Up) (w : World) (hcs : Ints w w.heap.size A' cs) (hn' : cs.length ≤ maxLen) (hl : Ups w w.heap.size A l) (hok : ∀ u ∈ l, UOk u) (hn : l.length ≤ 1099511627776) :
    Calls Tryz.prog 10 #[.slice A' cs.length c', .slice A l.length c] w (UpsNew (arrL cs l) (arrE cs l) w) := by
  obtain ⟨i0, hi, hz0, hz1, hz2⟩ := info_parts infoUp
  have HI := Lib.hid (And.intro Tryz.underlying22 (And.intro hi (And.intro hz0 (And.intro hz1 hz2))))
  have hck := dcheck_any A c l w hl (by omega) hok
  obtain ⟨K, hK⟩ : ∃ K, chkUs l = K := ⟨_, rfl⟩
  rw [hK] at hck
  have Hck := Lib.hid hck
  have HL := Lib.hid (And.intro hl (And.intro hok (And.intro hK (And.intro hcs hn'))))
  clear hl hok hK hck hi hz0 hz1 hz2 hcs hn'
  go_enter Tryz.func10, Tryz.ntmps10
  go_wp2_with fail
  refine Hck.out.mono ?_
  rintro _ w1 ⟨rfl, b1⟩
  have H1 := Lib.hid b1
  clear b1 Hck
  by_cases hK0 : K = 0
  case neg =>
    have t1 : (K != 0) = true := bne_iff_ne.2 hK0
    have HK0 := Lib.hid hK0
    clear hK0
    go_wp2_with fail
    go_ret2
    have hE : arrE cs l = K := by unfold arrE; rw [HL.out.2.2.1, if_neg HK0.out]
    exact ⟨none, 0, [], by rw [hE]; rfl, by unfold arrL; rw [hE, if_neg HK0.out]; rfl, ⟨Lies.nil_, fun u hu => (by cases hu)⟩, fun u hu => (by cases hu), H1.out, lo_nil _⟩
  subst hK0
  have HC := Lib.hid (chkUs_all.1 HL.out.2.2.1)
  go_wp2_with fail
  go_loopw [7, 19] (fun v7 v19 wr => ∃ (j : Nat) (M : List Up), v19 = .int .i64 (j : Int) ∧ j ≤ l.length ∧ wr.ownsRow w.heap.size 44 6 v7 M.length (M.flatMap Up.cells) ∧ Below w.heap.size w wr ∧ arrErr cs (l.take j) = 0 ∧ M.map Up.p = arrP cs (l.take j) ∧ ∀ u ∈ M, UIn wr wr.heap.size u ∧ UOk u ∧ Awn (fun b => v7.ownBlock ≠ some b) u ∧ chkU u = 0)
    (fun _ v19 _ => l.length - (intOf v19).toNat)
  case atStart => exact ⟨0, [], rfl, Nat.zero_le _, World.ownsRow_nil _ _ _ _, H1.out, rfl, rfl, fun u hu => (by cases hu)⟩
  case round =>
    obtain ⟨j, M, rfl, hj, hown, hb, her, hmap, hM⟩ := hrel
    obtain ⟨wi, hwi⟩ : ∃ wi, wi = wr := ⟨_, rfl⟩
    subst hwi
    have hMl : M.length = j := by
      have := congrArg List.length hmap
      unfold arrP at this
      rw [List.length_map, List.length_map, List.length_take] at this
      omega
    by_cases hlt : j < l.length
    · have hy : l[j]? = some l[j] := List.getElem?_eq_getElem hlt
      have hym := List.mem_of_getElem? hy
      have hbad := fun h => arrErr_bad (cs := cs) hy her h
      have hnx := arrErr_take (cs := cs) hy her
      generalize l[j] = u at *
      obtain ⟨b, o, rfl, hB, hys⟩ := lies_up HL.out.1.head (by omega)
      obtain ⟨e0, e1, e2, e3, e4, e5⟩ := ((hys j u hy).past_ hb hB).six
      obtain ⟨V3, hV3, hb3, hs3, ho3⟩ := upbox wi u
      have hin : UIn w w.heap.size u := HL.out.1.each_ u hym
      have hoku : UOk u := HL.out.2.1 u hym
      have hbV : Below w.heap.size w V3 := hb.trans (hb3.mono hb.size)
      have Hco := Lib.hid (cols_any u.rA u.rc u.row A' c' cs V3 (((hin.row.past hbV (Nat.le_refl _)).wide hbV.size)) (maxn hoku.rn) hoku.rs ((HL.out.2.2.2.1.past hbV (Nat.le_refl _)).wide hbV.size) HL.out.2.2.2.2)
      unfold ColsPost at Hco
      have htk : l.take (j + 1) = l.take j ++ [u] := by rw [List.take_add_one, hy]; rfl
      obtain ⟨E, hE⟩ : ∃ E, colsE u.row cs = E := ⟨_, rfl⟩
      rw [hE] at Hco hbad hnx
      have HJ := Lib.hid (And.intro hown (And.intro hb (And.intro hmap (And.intro hM (And.intro hbad (And.intro hnx (And.intro htk (And.intro hE (And.intro hin (And.intro hoku (And.intro (HC.out u hym) hMl)))))))))))
      have H3 := Lib.hid (And.intro hb3 (And.intro hs3 ho3))
      have q3 : (0 : Int) ≤ (j : Int) := by omega
      have q4 : (j : Int) < (l.length : Int) := by omega
      have q5 : decide ((j : Int) < (l.length : Int)) = true := decide_eq_true q4
      clear hy hym hys hin hoku hbV htk hown hb her hmap hM hbad hnx hE hb3 hs3 hMl
      go_upto_region 8 with fail
      rw [← hV3]
      clear hV3 e0 e1 e2 e3 e4 e5
      obtain ⟨e0, e1, e2, e3, e4, e5⟩ := own6 ho3
      clear ho3
      go_wp2_with fail
      refine Hco.out.mono ?_
      rintro _ w4 ⟨vk, rfl, hok4, b4⟩
      obtain ⟨kA, kc, rfl, _, _, hv4⟩ := vals_of_own rfl hok4
      have hk4 : ∀ b o, kA = some ⟨b, o, none⟩ → V3.heap.size ≤ b := fun b o e => by subst e; exact (hok4.lt b rfl).1
      have ho4 := H3.out.2.2.past b4 H3.out.2.2.inside
      have H4 := Lib.hid (And.intro b4 (And.intro hv4 (And.intro hk4 ho4)))
      clear e0 e1 e2 e3 e4 e5 hok4 hv4 hk4 b4 Hco
      by_cases hE0 : E = 0
      case neg =>
        have t1 : (E != 0) = true := bne_iff_ne.2 hE0
        have HE0 := Lib.hid hE0
        clear hE0 ho4
        go_wp2_with fail
        go_ret2
        have hA : arrErr cs l = E := HJ.out.2.2.2.2.1 HE0.out
        have hE : arrE cs l = E := by unfold arrE; rw [HL.out.2.2.1, if_pos rfl, hA, if_neg HE0.out]
        have hbf : Below w.heap.size w w4 := HJ.out.2.1.trans ((H3.out.1.trans (H4.out.1.mono H3.out.1.size)).mono HJ.out.2.1.size)
        exact ⟨none, 0, [], by rw [hE]; rfl, by unfold arrL; rw [hE, if_neg HE0.out]; rfl, ⟨Lies.nil_, fun u hu => (by cases hu)⟩, fun u hu => (by cases hu), hbf, lo_nil _⟩
      have t1 : (E != 0) = false := by simp [hE0]
      have HE0 := Lib.hid hE0
      obtain ⟨X, hX, hXo, hXb, hXs⟩ := own_zeroth ho4 (.slice kA (colsL u.row cs).length kc)
      have z0 := (own6 ho4).1
      have k0 := (own_frozen6 ho4).1
      have hb4X : Below wi.heap.size wi X := hXb _ _ (H3.out.1.trans (H4.out.1.mono H3.out.1.size)) (Nat.le_refl _)
      obtain ⟨y0, y1, y2, y3, y4, y5⟩ := own6 hXo
      have hpk : PKeep w4 X wi.heap.size (.slice none 0 0) := hX ▸ pk_set w4 wi.heap.size 0 _ _
      have hkeyX : Vals X X.heap.size kA (colsL u.row cs) := vals_pk H4.out.2.1 hpk fun _ b o e => ⟨by have := H4.out.2.2.1 b o e; have := H3.out.2.1; omega, by simp [Value.ownBlock]⟩
      obtain ⟨x, hx⟩ : ∃ x : Up, x = ⟨kA, kc, colsL u.row cs, u.rA, u.rc, u.row, u.t, u.d⟩ := ⟨_, rfl⟩
      have hxin : UIn X X.heap.size x := by
        have hbw : Below w.heap.size w X := HJ.out.2.1.trans (hb4X.mono HJ.out.2.1.size)
        have h := HJ.out.2.2.2.2.2.2.2.2.1
        rw [hx]
        exact ⟨hkeyX, (h.row.past hbw (Nat.le_refl _)).wide hbw.size⟩
      have hpm := pick_mem (HJ.out.2.2.2.2.2.2.2.1.trans hE0)
      have hxok : UOk x := by
        have h := HJ.out.2.2.2.2.2.2.2.2.2.1
        rw [hx]
        refine ⟨by show (colsL u.row cs).length ≤ _; rw [hpm.1, List.length_map]; omega, h.rn, fun v hv => ?_, h.rs, h.dn⟩
        change v ∈ colsL u.row cs at hv
        rw [hpm.1] at hv
        obtain ⟨d, hd, rfl⟩ := List.mem_map.1 hv
        exact h.rs _ (hpm.2.2 d hd).2.2
      have hxa : Awn (fun b => u7.ownBlock ≠ some b) x := by
        have h1 : Awn (fun b => u7.ownBlock ≠ some b) u := (awn_lt HJ.out.2.2.2.2.2.2.2.2.1).imp fun b hb e => by have := (HJ.out.1.lt b e).1; omega
        rw [hx]
        exact ⟨fun _ b o e e' => by have := H4.out.2.2.1 b o e; have := (HJ.out.1.lt b e').2; have := H3.out.2.1; omega, h1.2⟩
      have hxc : chkU x = 0 := by
        obtain ⟨k1, k2, k3⟩ := chkK_zero HJ.out.2.2.2.2.2.2.2.2.2.2.1
        change chkRow u.row = 0 at k2
        have hcc := cols_chk (HJ.out.2.2.2.2.2.2.2.1.trans hE0) k2
        rw [hx]
        unfold chkU chkK Up.k orI
        dsimp only
        rw [hcc, k2]
        exact k3
      have hrowX := own_below HJ.out.1 hb4X
      have HX := Lib.hid (And.intro hb4X (And.intro hxin (And.intro hxok (And.intro hxa (And.intro hxc (And.intro hrowX hx))))))
      have Hrow := Lib.hid (own_below hrowX ((Below.refl _ X).alloc (Nat.le_refl _) (.cells #[.slice kA (colsL u.row cs).length kc, .slice u.rA u.row.length u.rc, .int .u64 (u.t.e : Int), .int .u64 (u.t.a : Int), .int .u64 (u.t.b : Int), .int .i64 u.d] 44)))
      have hp := Lib.hid (up_made X x)
      rw [hx] at hp
      have hszX : w.heap.size ≤ X.heap.size := Nat.le_trans HJ.out.2.1.size hb4X.size
      have HMl := Lib.hid (show M.length = j from HJ.out.2.2.2.2.2.2.2.2.2.2.2)
      clear hE0 ho4 hXo hXb hXs hb4X hpk hkeyX hxin hpm hxok hxa hxc hrowX hx
      go_upto_region 12 with fail
      rw [← hX]
      clear hX z0 k0
      go_wp2_with (at_builtin; refine wpList_append_grown _ rfl (.tmp 35) (.tmp 37) 22 44 rfl i0 _ 80 HI.out.1 HI.out.2.1 HI.out.2.2.1 HI.out.2.2.2.1 HI.out.2.2.2.2 rfl (by decide) ucells_len ucells_one w.heap.size _ _ _ rfl Hrow.out 1 rfl hp.out ?m1 ?m2 ?m3 ?m4)
      case m1 => show M.length + 1 ≤ maxLen; have := HMl.out; unfold maxLen; omega
      case m2 => show (M.length + 1) * 80 ≤ 140737488355328; have := HMl.out; omega
      case m3 => simp; omega
      intro v' w' ho' hb' hob' hg'
      have hgr : ∀ y : Up, UIn X X.heap.size y → Awn (fun b => u7.ownBlock ≠ some b) y → UIn w' w'.heap.size y ∧ Awn (fun b => v'.ownBlock ≠ some b) y := fun y h1 h2 => by
        refine ⟨uin_own (h1.keep ((Below.refl _ X).alloc (Nat.le_refl _) _)) h2 hg', (Awn.and h2 (awn_lt h1)).imp fun b hb e => ?_⟩
        rcases hob' with e1 | e1
        · rw [e1] at e; exact hb.1 e
        · rw [e1] at e
          injection e with e
          have := hb.2
          first | omega | (simp at e; omega)
      have HA := Lib.hid (And.intro ho' (And.intro (((HJ.out.2.1.trans (HX.out.1.mono HJ.out.2.1.size)).alloc hszX _).trans hb') hgr))
      clear ho' hb' hob' hg' hgr y0 y1 y2 y3 y4 y5
      go_wp2_with fail
      go_roundw
      case rel =>
        obtain ⟨j1, j2, j3, j4, j5, j6, j7, j8, j9, j10, j11, j12⟩ := HJ.out
        refine ⟨j + 1, M ++ [x], by go_num, by omega, ?_, HA.out.2.1, by rw [j6, HE0.out], ?_, fun y hy => ?_⟩
        · rw [List.flatMap_append, List.length_append, HX.out.2.2.2.2.2.2]
          exact HA.out.1
        · rw [j7, List.map_append, j3]
          unfold arrP
          rw [List.map_append, List.map_cons, List.map_cons, List.map_nil, List.map_nil, HX.out.2.2.2.2.2.2]
          rfl
        · rcases List.mem_append.1 hy with hy | hy
          · obtain ⟨k1, k2, k3, k4⟩ := j4 y hy
            obtain ⟨g1, g2⟩ := HA.out.2.2 y (k1.keep HX.out.1) k3
            exact ⟨g1, k2, g2, k4⟩
          · obtain rfl : y = x := by simpa using hy
            obtain ⟨g1, g2⟩ := HA.out.2.2 y HX.out.2.1 HX.out.2.2.2.1
            exact ⟨g1, HX.out.2.2.1, g2, HX.out.2.2.2.2.1⟩
      case measure => simp [intOf]; omega
    · have hj2 : j = l.length := by omega
      have q5 : decide ((j : Int) < (l.length : Int)) = false := decide_eq_false (by omega)
      rw [hj2, List.take_length] at her hmap
      obtain ⟨A3, c3, rfl, _, _, h3⟩ := lies_of_own (size := 6) (cells := Up.cells) (by decide) ucells_len rfl hown
      have hu3 : Ups wi wi.heap.size A3 M := ⟨h3, fun x hx => (hM x hx).1⟩
      obtain ⟨V, hV, hvb, hvl⟩ := one_list wi A3 c3 M hu3
      have hcall := consolidate_new (some ⟨wi.heap.size, 0, none⟩) 1 [⟨A3, c3, M⟩] V hvl (fun s hs x hx => by
        obtain rfl : s = ⟨A3, c3, M⟩ := by simpa using hs
        exact (hM x hx).2.1) (by simp [flatR]; omega) (by simp)
      unfold UpsNew at hcall
      simp only [List.map_cons, List.map_nil] at hcall
      have hcg := cons_group (l := M) fun x hx => (hM x hx).2.2.2
      unfold fitU at hcg
      rw [hmap] at hcg
      have hEE : arrE cs l = consE [M] := by
        rw [hcg.1]
        unfold arrE
        rw [HL.out.2.2.1, if_pos rfl, her, if_pos rfl]
        rfl
      have hLL : arrL cs l = consL [M] := by
        unfold arrL
        rw [hEE, hcg.2, hcg.1]
        by_cases hf : ((asm Uk.cmp (arrP cs l)).all fun x => fits x.2) = true
        · rw [if_pos hf, if_pos hf, if_pos rfl]
        · rw [if_neg hf, if_neg hf, if_neg (by omega)]
      rw [← hEE, ← hLL] at hcall
      obtain ⟨E, hE⟩ : ∃ E, arrE cs l = E := ⟨_, rfl⟩
      rw [hE] at hcall
      have HE := Lib.hid hE
      have HCl := Lib.hid hcall
      have HV := Lib.hid (And.intro (hb.trans (hvb.mono hb.size)) (Nat.le_trans hb.size hvb.size))
      clear hown hb h3 hu3 hvb hvl hcall hE hj2 hcg hEE hLL hM hmap her hMl
      go_wp2_with fail
      rw [← hV]
      clear hV
      refine HCl.out.mono ?_
      rintro _ w4 ⟨A4, k4, outL, rfl, hp4, hu4, ho4, b4, hlo4⟩
      have HF := Lib.hid (And.intro (HV.out.1.trans (b4.mono HV.out.1.size)) (And.intro hp4 (And.intro hu4 (And.intro ho4 hlo4))))
      clear hp4 hu4 ho4 b4 hlo4 HCl
      go_wp2_with fail
      go_ret2
      exact ⟨A4, k4, outL, by rw [HE.out]; rfl, HF.out.2.1, HF.out.2.2.1, HF.out.2.2.2.1, HF.out.1, ⟨fun b o e => Nat.le_trans HV.out.2 (HF.out.2.2.2.2.1 b o e), fun u hu b o e => Nat.le_trans HV.out.2 (HF.out.2.2.2.2.2 u hu b o e)⟩⟩
end Go.Proofs.YtcfldgncmbcpmaaGreat
