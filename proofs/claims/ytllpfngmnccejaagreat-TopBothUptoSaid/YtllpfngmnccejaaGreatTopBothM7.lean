/- Part 7 of the texts on which TopBoth rests: facts and contracts. -/
import Derived.Test.YtllpfngmnccejaaGreatTopBothM6
import Derived.Deep.CutBlock
import Derived.WalkMore
import Derived.Maps.OwnSet
import Derived.Maps.Views
import Derived.Carry
namespace Go.Proofs.YtllpfngmnccejaaGreat
open Go Go.RowKit

theorem own_three {w : World} {P : Nat} {t : TypeId} {z0 z1 z2 : Value} (h : Own w P t [z0, z1, z2]) (a b c : Value) :
    ∃ X, X = ((w.setCell ⟨P, 0, none⟩ a).setCell ⟨P, 1, none⟩ b).setCell ⟨P, 2, none⟩ c ∧ Own X P t [a, b, c] ∧ PKeep w X P (.slice none 0 0) ∧ X.heap.size = w.heap.size := by
  refine ⟨_, rfl, ((h.set_ 0 a).set_ 1 b).set_ 2 c, ⟨rfl, rfl, rfl, by simp [World.setCell], fun k _ hk _ => ?_⟩, by simp [World.setCell]⟩
  have q := fun (W : World) (i : Nat) (v : Value) => Below.heap_setCell W ⟨P, i, none⟩ v k hk
  rw [q, q, q]
theorem zbox (w : World) : ∃ W, W = w.alloc (.cells #[.int .u64 0, .int .u64 0, .int .u64 0] 46) ∧ Below w.heap.size w W ∧ W.heap.size = w.heap.size + 1 ∧ Own W w.heap.size 46 [.int .u64 0, .int .u64 0, .int .u64 0] :=
  ⟨_, rfl, (Below.refl _ _).alloc (Nat.le_refl _) _, by simp, Own.made w 46 [.int .u64 0, .int .u64 0, .int .u64 0]⟩
theorem lies_taken {α : Type} {size : Nat} {cells : α → List Value} {w : World} {B : Nat} {A : Option Addr} {l : List α} (h : Lies size cells w B A l) (m : Nat) : Lies size cells w B A (l.take m) := fun hp => by
  obtain ⟨b, o, e, hB, hc⟩ := h (by rw [List.length_take] at hp; omega)
  refine ⟨b, o, e, hB, fun i x hi => hc i x ?_⟩
  rw [List.getElem?_take] at hi
  split at hi
  · exact hi
  · cases hi
theorem pk_then {a b c : World} {PB : Nat} {v : Value} {row : Option Nat} (h : PKeep a b PB v) (g : b.grownBy c row) (hr : ∀ j, row = some j → a.heap.size ≤ j) : PKeep a c PB v :=
  ⟨g.os.trans h.os, g.tape.trans h.tape, g.output.trans h.output, Nat.le_trans h.size g.size, fun k hk h1 h2 => (g.block k (Nat.lt_of_lt_of_le hk h.size) fun e => by have := hr k e.symm; omega).trans (h.block k hk h1 h2)⟩
/-- what End tells -/
def EndSays (PB : Nat) (why : Int) (v : Value) (M : List Up) (w : World) (x : Ending) (w' : World) : Prop :=
  ∃ A c, ∃ outL : List Up, ∃ t : Tm, ∃ E : Int, x = .returned (.tuple #[.slice A outL.length c, .agg #[.int .u64 (t.e : Int), .int .u64 (t.a : Int), .int .u64 (t.b : Int)], .int .i64 E]) ∧ (E = 0 ∨ E = 10) ∧ (E = 0 ↔ why = 0 ∧ fitU M = true) ∧
    (E = 0 → outL.map Up.p = nz Uk.cmp (M.map Up.p) ∧ t = ⟨0, 0, 0⟩) ∧ Ups w' w'.heap.size A outL ∧ (∀ u ∈ outL, UOk u) ∧ PKeep w w' PB v ∧ (∀ b o, A = some ⟨b, o, none⟩ → w.heap.size ≤ b) ∧ (∀ u ∈ outL, Awn (fun b => w.heap.size ≤ b) u) ∧ outL.length ≤ M.length
set_option maxRecDepth 100000 in
set_option maxHeartbeats 16000000 in
theorem end_any (PB : Nat) (t : Tm) (why : Int) (v : Value) (M : List Up) (w : World) (h : Prod w PB t why v M) (hw : why = 0 ∨ why = 10) (hc : ∀ u ∈ M, chkU u = 0) (hn : M.length ≤ 1099511627776) :
    Calls Tryz.prog 66 #[.pointer (some ⟨PB, 0, none⟩)] w (EndSays PB why v M w) := by
  obtain ⟨i0, hi, hz0, hz1, hz2⟩ := info_parts infoUp
  have HI := Lib.hid (And.intro Tryz.underlying22 (And.intro hi (And.intro hz0 (And.intro hz1 hz2))))
  obtain ⟨V, hV, hvb, hvs, hvo⟩ := zbox w
  have hP := h.quiet hvb
  have hlt := h.own.inside
  have hne : v.ownBlock ≠ some PB := fun e => by have := (h.later _ e).1; omega
  have hneR : v.ownBlock ≠ some w.heap.size := fun e => by have := (h.later _ e).2; omega
  obtain ⟨A, c, rfl, hnc, hcm, hsort⟩ := sortP_all v M.length (PB + 1) M V rfl hP.row (fun u hu => ⟨(hP.each_ u hu).1, (hP.each_ u hu).2.1, (hP.each_ u hu).2.2.imp fun b hb => hb.2⟩) (by omega)
  have Hsort := Lib.hid hsort
  have HM := Lib.hid (And.intro h (And.intro hP (And.intro hvb (And.intro hvo (And.intro hc (And.intro hne hneR))))))
  have hlt2 : PB < V.heap.size := by omega
  have HPB := Lib.hid (And.intro hlt hlt2)
  have c4 := hP.own.at_ 4
  simp only [List.getElem?_cons_zero, List.getElem?_cons_succ] at c4
  have HVS := Lib.hid hvs
  clear h hP hvb hvo hc hne hneR hsort hi hz0 hz1 hz2 hlt hlt2 hvs
  go_enter Tryz.func66, Tryz.ntmps66
  go_upto_region 1 with fail
  rw [← hV]
  clear hV
  go_wp2_with fail
  refine Hsort.out.mono ?_
  rintro _ w1 ⟨rfl, S, hp, hpw, hlies, hA, hpk⟩
  have hown1 : OwnP w1 PB [.int .u64 (t.e : Int), .int .u64 (t.a : Int), .int .u64 (t.b : Int), .int .i64 why, .slice A M.length c] := HM.out.2.1.own.kept ((hpk (PB + 1)).block PB HPB.out.2 (by omega) HM.out.2.2.2.2.2.1)
  have hres1 : Own w1 w.heap.size 46 [.int .u64 0, .int .u64 0, .int .u64 0] := ((hpk (w.heap.size + 1)).block w.heap.size HM.out.2.2.2.1.inside (by omega) HM.out.2.2.2.2.2.2).trans HM.out.2.2.2.1
  have hSn : S.length = M.length := hp.length_eq
  have hrows : ∀ u ∈ S, UIn w1 w1.heap.size u ∧ UOk u ∧ Awn (fun b => b ≠ PB) u := fun u hu => by
    obtain ⟨k1, k2, k3⟩ := HM.out.2.1.each_ u (hp.mem_iff.1 hu)
    exact ⟨uin_pk k1 k3 (hpk PB), k2, k3.imp fun b hb => hb.1⟩
  have hcS : ∀ u ∈ S, chkU u = 0 := fun u hu => HM.out.2.2.2.2.1 u (hp.mem_iff.1 hu)
  have hAb : ∀ b o, A = some ⟨b, o, none⟩ → PB + 1 ≤ b ∧ b < w1.heap.size := fun b o e => by
    have := HM.out.1.later b (hA b o e)
    have h2 := (hpk PB).size
    have h3 := HVS.out
    omega
  have hPB1 : PB < w1.heap.size := hown1.inside
  have HS := Lib.hid (And.intro hp (And.intro hpw (And.intro hlies (And.intro hAb (And.intro hSn (And.intro hrows hcS))))))
  have HK := Lib.hid (And.intro (fun PB' => PKeep.after HM.out.2.2.1 (hpk PB')) (And.intro hown1 (And.intro hres1 hPB1)))
  have c4 := hown1.at_ 4
  simp only [List.getElem?_cons_zero, List.getElem?_cons_succ] at c4
  clear hp hpw hlies hA hpk hown1 hres1 hSn hrows hcS hAb Hsort hPB1
  go_wp2_with fail
  go_loopw [5, 6] (fun v5 v6 wr => ∃ (k : Nat) (outL : List Up) (t' : Tm) (why' : Int) (A' : Option Addr) (c' : Nat), v6 = .slice A' (M.length - k) c' ∧ k ≤ M.length ∧ (M.length - k ≤ c' ∧ c' ≤ maxLen) ∧ (∀ g o, A = some ⟨g, o, none⟩ → k < M.length → A' = some ⟨g, o + k * 6, none⟩) ∧
      wr.ownsRow w1.heap.size 48 6 v5 outL.length (outL.flatMap Up.cells) ∧ (∀ u ∈ outL, UIn wr wr.heap.size u ∧ UOk u ∧ Aw PB v5 u ∧ Awn (fun b => w1.heap.size ≤ b) u) ∧
      OwnP wr PB [.int .u64 (t'.e : Int), .int .u64 (t'.a : Int), .int .u64 (t'.b : Int), .int .i64 why', .slice A M.length c] ∧ (why' = 0 ∨ why' = 10) ∧ (why' = 0 ↔ why = 0 ∧ fitU (S.take k) = true) ∧ (why' = 0 → t' = ⟨0, 0, 0⟩) ∧
      (fitU (S.take k) = true → outL.map Up.p = nz Uk.cmp ((S.take k).map Up.p)) ∧ PKeep w1 wr PB (.slice none 0 0) ∧ BdU S k ∧ outL.length ≤ k)
    (fun _ v6 _ => (match v6 with | .slice _ n _ => n | _ => 0))
  case atStart =>
    refine ⟨0, [], t, why, A, c, rfl, Nat.zero_le _, ⟨hnc, hcm⟩, fun g o e _ => by rw [e, Nat.zero_mul, Nat.add_zero], World.ownsRow_nil _ _ _ _, fun u hu => (by cases hu), HK.out.2.1, hw, ⟨fun e => ⟨e, rfl⟩, fun e => e.1⟩, HM.out.1.zero, fun _ => rfl, PKeep.refl, fun a ha => (by cases ha), Nat.le_refl _⟩
  case round =>
    obtain ⟨k, outL, t', why', A', c', rfl, hk, hcc, hadr, hown, hout, hpb, hwy, hwf, hwt, hmap, hpk, hbd, hlen⟩ := hrel
    obtain ⟨wi, hwi⟩ : ∃ wi, wi = wr := ⟨_, rfl⟩
    subst hwi
    by_cases hlt : k < M.length
    · obtain ⟨g, o, rfl, hB, hxs⟩ := HS.out.2.2.1 (by rw [HS.out.2.2.2.2.1]; omega)
      obtain rfl := hadr g o rfl hlt
      have hx : S[k]? = some (S[k]'(by rw [HS.out.2.2.2.2.1]; exact hlt)) := List.getElem?_eq_getElem _
      generalize (S[k]'(by rw [HS.out.2.2.2.2.1]; exact hlt)) = x at *
      have hg := HS.out.2.2.2.1 g o rfl
      have hgne : g ≠ PB := by omega
      have hdl : (S.drop k).length = M.length - k := by rw [List.length_drop, HS.out.2.2.2.2.1]
      have hx0 : (S.drop k)[0]? = some x := by rw [List.getElem?_drop]; exact hx
      have hliesk : Lies 6 Up.cells wi wi.heap.size (some ⟨g, o + k * 6, none⟩) (S.drop k) := fun _ => by
        refine ⟨g, o + k * 6, rfl, Nat.lt_of_lt_of_le hg.2 hpk.size, fun i y hy j u hj => ?_⟩
        rw [List.getElem?_drop] at hy
        have hb := hpk.block g hg.2 hgne (by simp [Value.ownBlock])
        rw [show o + k * 6 + i * 6 + j = o + (k + i) * 6 + j by omega]
        exact (cell_heap hb).trans (hxs (k + i) y hy j u hj)
      have hupsk : Ups wi wi.heap.size (some ⟨g, o + k * 6, none⟩) (S.drop k) := ⟨hliesk, fun u hu => by
        obtain ⟨k1, k2, k3⟩ := HS.out.2.2.2.2.2.1 u (List.mem_of_mem_drop hu)
        exact uin_pk k1 (k3.imp fun b hb => ⟨hb, by simp [Value.ownBlock]⟩) hpk⟩
      have hokk : ∀ u ∈ S.drop k, UOk u := fun u hu => (HS.out.2.2.2.2.2.1 u (List.mem_of_mem_drop hu)).2.1
      have hal := alike_any (some ⟨g, o + k * 6, none⟩) c' (S.drop k) x wi hupsk hokk (by rw [hdl]; omega) hx0
      rw [hdl] at hal
      unfold AlikeSays at hal
      have Hal := Lib.hid hal
      have HO := Lib.hid (And.intro hown (And.intro hout (And.intro hpb (And.intro hwy (And.intro hwf (And.intro hwt (And.intro hmap (And.intro hpk (And.intro hbd hlen)))))))))
      have HU := Lib.hid (And.intro hupsk (And.intro hokk (And.intro hdl (And.intro hx hx0))))
      have HQ := Lib.hid (And.intro hgne (And.intro hg (And.intro hcc (And.intro (HK.out.2.2.2) hlt))))
      have q1 : (0 : Int) < ((M.length - k : Nat) : Int) := by omega
      have q2 : decide ((0 : Int) < ((M.length - k : Nat) : Int)) = true := decide_eq_true q1
      clear hown hout hpb hwy hwf hwt hmap hpk hbd hlen hupsk hokk hdl hx hx0 hliesk hal hxs hB hadr hg hgne hcc
      go_wp2_with fail
      refine Hal.out.mono ?_
      rintro _ w2 ⟨n, rfl, hn1, hn2, heq, hmax, b2⟩
      have HN := Lib.hid (And.intro heq (And.intro hmax b2))
      have hnc' : n ≤ c' := by have := HQ.out.2.2.1.1; have := HU.out.2.2.1; omega
      have q3 : (0 : Int) ≤ (n : Int) := by omega
      have q4 : (n : Int) ≤ (c' : Int) := by omega
      have q5 : (n : Int) ≤ ((M.length - k : Nat) : Int) := by have := HU.out.2.2.1; omega
      have hlen2 : ((S.drop k).take n).length = n := by rw [List.length_take]; omega
      have hups2 : Ups w2 w2.heap.size (some ⟨g, o + k * 6, none⟩) ((S.drop k).take n) := ⟨lies_taken (HU.out.1.keep b2).head n, fun u hu => (HU.out.1.keep b2).each_ u (List.mem_of_mem_take hu)⟩
      obtain ⟨V3, hV3, hb3, hl3⟩ := one_list w2 (some ⟨g, o + k * 6, none⟩) c' ((S.drop k).take n) hups2
      rw [hlen2] at hV3
      have hcon := consolidate_new (some ⟨w2.heap.size, 0, none⟩) 1 [⟨some ⟨g, o + k * 6, none⟩, c', (S.drop k).take n⟩] V3 hl3 (fun s hs u hu => by
        obtain rfl : s = ⟨some ⟨g, o + k * 6, none⟩, c', (S.drop k).take n⟩ := by simpa using hs
        exact HU.out.2.1 u (List.mem_of_mem_take hu)) (by simp only [flatR, List.flatMap_cons, List.flatMap_nil, List.append_nil]; rw [hlen2]; omega) (by simp)
      unfold UpsNew at hcon
      simp only [List.map_cons, List.map_nil] at hcon
      obtain ⟨E, hE⟩ : ∃ E, consE [(S.drop k).take n] = E := ⟨_, rfl⟩
      obtain ⟨CL, hCL⟩ : ∃ CL, consL [(S.drop k).take n] = CL := ⟨_, rfl⟩
      rw [hE, hCL] at hcon
      have Hcon := Lib.hid hcon
      have HE := Lib.hid (And.intro hE hCL)
      have HB3 := Lib.hid (And.intro b2 hb3)
      clear hcon hE hCL hb3 hl3 hups2 b2 heq hmax Hal
      go_wp2_with fail
      rw [← hV3]
      clear hV3
      refine Hcon.out.mono ?_
      rintro _ w4 ⟨AX, cX, X, rfl, hpX, huX, hoX, hbX, hloX⟩
      have hown4 : OwnP w4 PB [.int .u64 (t'.e : Int), .int .u64 (t'.a : Int), .int .u64 (t'.b : Int), .int .i64 why', .slice (some ⟨g, o, none⟩) M.length c] := HO.out.2.2.1.past (belows HB3.out.1 (belows HB3.out.2 hbX)) HO.out.2.2.1.inside
      have H4 := Lib.hid (And.intro hpX (And.intro huX (And.intro hoX (And.intro hbX hloX))))
      have HO4 := Lib.hid hown4
      clear hpX huX hoX hbX hloX Hcon hown4
      by_cases hE0 : E = 0
      · have t1 : (E != 0) = false := by simp [hE0]
        have HE0 := Lib.hid hE0
        clear hE0
        have hbi4 : Below wi.heap.size wi w4 := belows HB3.out.1 (belows HB3.out.2 H4.out.2.2.2.1)
        have hpk5 : PKeep wi w4 PB (.slice none 0 0) := PKeep.after hbi4 (PKeep.refl : PKeep w4 w4 PB (.slice none 0 0))
        have hne5 : u5.ownBlock ≠ some PB := fun e => by have := (HO.out.1.lt _ e).1; have := HQ.out.2.2.2.1; omega
        have hsz3 : wi.heap.size ≤ V3.heap.size := Nat.le_trans HB3.out.1.size HB3.out.2.size
        have hszw : w1.heap.size ≤ wi.heap.size := HO.out.2.2.2.2.2.2.2.1.size
        have hrow5 := Lib.hid ((own_below HO.out.1 hbi4).kept ((PKeep.refl : PKeep w4 w4 PB (.slice none 0 0))).grown (.inr hne5))
        have hout5 : ∀ u ∈ outL, UIn w4 (w4).heap.size u ∧ UOk u ∧ Aw PB u5 u ∧ Awn (fun b => w1.heap.size ≤ b) u := fun u hu => by
          obtain ⟨k1, k2, k3, k4⟩ := HO.out.2.1 u hu
          exact ⟨uin_pk k1 (k3.imp fun b hb => ⟨hb.1, by simp [Value.ownBlock]⟩) hpk5, k2, k3, k4⟩
        have hX5 : ∀ u ∈ X, UIn w4 (w4).heap.size u ∧ UOk u ∧ Aw PB u5 u ∧ Awn (fun b => w1.heap.size ≤ b) u := fun u hu => by
          have hlo := awn_lo H4.out.2.2.2.2 hu
          have hqq := HQ.out.2.2.2.1
          exact ⟨uin_pk (H4.out.2.1.each_ u hu) (hlo.imp fun b hb => ⟨by omega, by simp [Value.ownBlock]⟩) (PKeep.refl : PKeep w4 w4 PB (.slice none 0 0)), H4.out.2.2.1 u hu, hlo.imp fun b hb => ⟨by omega, fun e => by have := (HO.out.1.lt _ e).2; omega⟩, hlo.imp fun b hb => by omega⟩
        have hlX := Lib.hid (lies_pk H4.out.2.1.head (PKeep.refl : PKeep w4 w4 PB (.slice none 0 0)) (fun _ b o e => ⟨by have h1 := H4.out.2.2.2.2.1 b o e; have h2 := HQ.out.2.2.2.1; omega, by simp [Value.ownBlock]⟩))
        have hXn : X.length ≤ n := by
          have h1 := consL_len [(S.drop k).take n]
          rw [HE.out.2, ← H4.out.1, List.length_map] at h1
          simp only [List.flatten_cons, List.flatten_nil, List.append_nil] at h1
          rw [hlen2] at h1
          exact h1
        have hoLn : outL.length ≤ k := HO.out.2.2.2.2.2.2.2.2.2
        have hkn : k + n ≤ M.length := by have := HU.out.2.2.1; omega
        have hsz5 : w1.heap.size ≤ (w4).heap.size := Nat.le_trans hszw hpk5.size
        have HT := Lib.hid (And.intro hpk5 (And.intro hne5 (And.intro hout5 (And.intro hX5 (And.intro hXn (And.intro hoLn hkn))))))
        have hsum : outL.length + X.length ≤ 1099511627776 := by omega
        clear hbi4 hpk5 hne5 hsz3 hszw hout5 hX5
        go_wp2_with (at_builtin; refine wpList_append_grown _ rfl (.tmp 42) (.tmp 43) 22 48 rfl i0 _ 80 HI.out.1 HI.out.2.1 HI.out.2.2.1 HI.out.2.2.2.1 HI.out.2.2.2.2 rfl (by decide) ucells_len ucells_one w1.heap.size _ _ _ rfl hrow5.out _ rfl hlX.out ?xa1 ?xa2 ?xa3 ?_)
        case xa1 => unfold maxLen; omega
        case xa2 => omega
        case xa3 => exact hsz5
        intro v7 w7 ho7 hb7 hob7 hg7
        have hgr : Grew w4 u5 v7 := by
          rcases hob7 with e | e
          · exact .inl e
          · exact .inr ⟨_, e, Nat.le_refl _⟩
        have hpk7 : PKeep w4 w7 PB u5 := pk_grown hg7
        have H7 := Lib.hid (And.intro ho7 (And.intro (fun u (hu : u ∈ outL ++ X) => (by
          rcases List.mem_append.1 hu with hu | hu
          · obtain ⟨k1, k2, k3, k4⟩ := HT.out.2.2.1 u hu
            exact ⟨uin_pk k1 k3 hpk7, k2, k3.grew k1 hgr, k4⟩
          · obtain ⟨k1, k2, k3, k4⟩ := HT.out.2.2.2.1 u hu
            exact ⟨uin_pk k1 k3 hpk7, k2, k3.grew k1 hgr, k4⟩ : UIn w7 w7.heap.size u ∧ UOk u ∧ Aw PB v7 u ∧ Awn (fun b => w1.heap.size ≤ b) u)) (And.intro (OwnP.kept HO4.out (hg7.block PB (HO4.out).inside (fun e => HT.out.2.1 e.symm)) : OwnP w7 PB _) (pk_then (HO.out.2.2.2.2.2.2.2.1.trans Grew.same HT.out.1) hg7 fun j e => (HO.out.1.lt j e).1))))
        clear ho7 hb7 hob7 hg7 hgr hpk7 hrow5 hlX hsz5
        go_wp2_with fail
        go_roundw
        case rel =>
          have hst := end_step HS.out.2.1 HS.out.2.2.2.2.2.2 HU.out.2.2.2.1 hn1 HN.out.1 HN.out.2.1 HO.out.2.2.2.2.2.2.2.2.1
          have hgp := cons_group (l := (S.drop k).take n) fun u hu => HS.out.2.2.2.2.2.2 u (List.mem_of_mem_drop (List.mem_of_mem_take hu))
          rw [HE.out.1, HE.out.2] at hgp
          refine ⟨k + n, outL ++ X, t', why', _, _, by rw [Nat.sub_sub], HT.out.2.2.2.2.2.2, ⟨by have := HQ.out.2.2.1; omega, by have := HQ.out.2.2.1; omega⟩, fun g' o' e hlt' => ?_, ?_, H7.out.2.1, H7.out.2.2.1, ?_, ?_, ?_, fun hf => ?_, H7.out.2.2.2, hst.1, ?_⟩
          · simp only [Option.some.injEq, Addr.mk.injEq, and_true] at e
            obtain ⟨rfl, rfl⟩ := e
            have hcn : ¬ c' = n := by have := HQ.out.2.2.1; omega
            first
              | rw [show o + k * 6 + n * 6 = o + (k + n) * 6 by omega, if_neg hcn]
              | rw [if_neg hcn, show o + k * 6 + n * 6 = o + (k + n) * 6 by omega]
              | rw [if_neg hcn]
          · rw [List.length_append, List.flatMap_append]
            exact H7.out.1
          · exact HO.out.2.2.2.1
          · rw [HO.out.2.2.2.2.1, hst.2.1]
            have : fitU ((S.drop k).take n) = true := by
              have h1 := hgp.1
              split at h1
              · assumption
              · have := HE0.out; omega
            rw [this, Bool.and_true]
          · exact HO.out.2.2.2.2.2.1
          · rw [hst.2.1, Bool.and_eq_true] at hf
            rw [List.map_append, HO.out.2.2.2.2.2.2.1 hf.1, hst.2.2, H4.out.1, hgp.2, if_pos hf.2]
          · rw [List.length_append]
            have := HT.out
            omega
        case measure => (simp [intOf]) <;> omega
      · have t1 : (E != 0) = true := bne_iff_ne.2 hE0
        have HE0 := Lib.hid hE0
        clear hE0
        have hxc := HU.out.1.head (by have := HU.out.2.2.1; omega)
        have hxat : UAt wi g (o + k * 6) x := by
          obtain ⟨b', o', e', _, hcc'⟩ := hxc
          simp only [Option.some.injEq, Addr.mk.injEq, and_true] at e'
          obtain ⟨rfl, rfl⟩ := e'
          exact fun j v hj => by have := hcc' 0 x HU.out.2.2.2.2 j v hj; rwa [Nat.zero_mul, Nat.add_zero] at this
        have hx4 := (hxat.past_ (belows HB3.out.1 (belows HB3.out.2 H4.out.2.2.2.1)) (Nat.lt_of_lt_of_le HQ.out.2.1.2 HO.out.2.2.2.2.2.2.2.1.size)).six
        obtain ⟨_, _, e2, e3, e4, _⟩ := hx4
        have y1 := fun (W : World) (hW : Below w4.heap.size w4 W) => Lib.hid (failL_any PB t' why' (.slice (some ⟨g, o, none⟩) M.length c) x.t W (HO4.out.past hW HO4.out.inside) HO.out.2.2.2.1)
        unfold FailSays at y1
        have hself : Below w4.heap.size w4 w4.drew := (Below.refl _ _).drew
        clear hxc hxat
        go_upto_region 8 with fail
        go_region_with (go_at_call 113; refine (y1 _ hself).out.mono ?_; rintro _ w5 ⟨rfl, t5, ho5, hk5⟩)
        all_goals
          have HF := Lib.hid (And.intro ho5 (PKeep.after (Below.refl _ _).drew hk5 : PKeep w4 w5 PB (.slice none 0 0)))
          clear ho5 hk5 e2 e3 e4 y1
          have hbi4 : Below wi.heap.size wi w4 := belows HB3.out.1 (belows HB3.out.2 H4.out.2.2.2.1)
          have hpk5 : PKeep wi w5 PB (.slice none 0 0) := PKeep.after hbi4 HF.out.2
          have hne5 : u5.ownBlock ≠ some PB := fun e => by have := (HO.out.1.lt _ e).1; have := HQ.out.2.2.2.1; omega
          have hsz3 : wi.heap.size ≤ V3.heap.size := Nat.le_trans HB3.out.1.size HB3.out.2.size
          have hszw : w1.heap.size ≤ wi.heap.size := HO.out.2.2.2.2.2.2.2.1.size
          have hrow5 := Lib.hid ((own_below HO.out.1 hbi4).kept (HF.out.2).grown (.inr hne5))
          have hout5 : ∀ u ∈ outL, UIn w5 (w5).heap.size u ∧ UOk u ∧ Aw PB u5 u ∧ Awn (fun b => w1.heap.size ≤ b) u := fun u hu => by
            obtain ⟨k1, k2, k3, k4⟩ := HO.out.2.1 u hu
            exact ⟨uin_pk k1 (k3.imp fun b hb => ⟨hb.1, by simp [Value.ownBlock]⟩) hpk5, k2, k3, k4⟩
          have hX5 : ∀ u ∈ X, UIn w5 (w5).heap.size u ∧ UOk u ∧ Aw PB u5 u ∧ Awn (fun b => w1.heap.size ≤ b) u := fun u hu => by
            have hlo := awn_lo H4.out.2.2.2.2 hu
            have hqq := HQ.out.2.2.2.1
            exact ⟨uin_pk (H4.out.2.1.each_ u hu) (hlo.imp fun b hb => ⟨by omega, by simp [Value.ownBlock]⟩) HF.out.2, H4.out.2.2.1 u hu, hlo.imp fun b hb => ⟨by omega, fun e => by have := (HO.out.1.lt _ e).2; omega⟩, hlo.imp fun b hb => by omega⟩
          have hlX := Lib.hid (lies_pk H4.out.2.1.head HF.out.2 (fun _ b o e => ⟨by have h1 := H4.out.2.2.2.2.1 b o e; have h2 := HQ.out.2.2.2.1; omega, by simp [Value.ownBlock]⟩))
          have hXn : X.length ≤ n := by
            have h1 := consL_len [(S.drop k).take n]
            rw [HE.out.2, ← H4.out.1, List.length_map] at h1
            simp only [List.flatten_cons, List.flatten_nil, List.append_nil] at h1
            rw [hlen2] at h1
            exact h1
          have hoLn : outL.length ≤ k := HO.out.2.2.2.2.2.2.2.2.2
          have hkn : k + n ≤ M.length := by have := HU.out.2.2.1; omega
          have hsz5 : w1.heap.size ≤ (w5).heap.size := Nat.le_trans hszw hpk5.size
          have HT := Lib.hid (And.intro hpk5 (And.intro hne5 (And.intro hout5 (And.intro hX5 (And.intro hXn (And.intro hoLn hkn))))))
          have hsum : outL.length + X.length ≤ 1099511627776 := by omega
          clear hbi4 hpk5 hne5 hsz3 hszw hout5 hX5
          go_wp2_with (at_builtin; refine wpList_append_grown _ rfl (.tmp 42) (.tmp 43) 22 48 rfl i0 _ 80 HI.out.1 HI.out.2.1 HI.out.2.2.1 HI.out.2.2.2.1 HI.out.2.2.2.2 rfl (by decide) ucells_len ucells_one w1.heap.size _ _ _ rfl hrow5.out _ rfl hlX.out ?xb1 ?xb2 ?xb3 ?_)
          case xb1 => unfold maxLen; omega
          case xb2 => omega
          case xb3 => exact hsz5
          intro v7 w7 ho7 hb7 hob7 hg7
          have hgr : Grew w5 u5 v7 := by
            rcases hob7 with e | e
            · exact .inl e
            · exact .inr ⟨_, e, Nat.le_refl _⟩
          have hpk7 : PKeep w5 w7 PB u5 := pk_grown hg7
          have H7 := Lib.hid (And.intro ho7 (And.intro (fun u (hu : u ∈ outL ++ X) => (by
            rcases List.mem_append.1 hu with hu | hu
            · obtain ⟨k1, k2, k3, k4⟩ := HT.out.2.2.1 u hu
              exact ⟨uin_pk k1 k3 hpk7, k2, k3.grew k1 hgr, k4⟩
            · obtain ⟨k1, k2, k3, k4⟩ := HT.out.2.2.2.1 u hu
              exact ⟨uin_pk k1 k3 hpk7, k2, k3.grew k1 hgr, k4⟩ : UIn w7 w7.heap.size u ∧ UOk u ∧ Aw PB v7 u ∧ Awn (fun b => w1.heap.size ≤ b) u)) (And.intro (OwnP.kept HF.out.1 (hg7.block PB (HF.out.1).inside (fun e => HT.out.2.1 e.symm)) : OwnP w7 PB _) (pk_then (HO.out.2.2.2.2.2.2.2.1.trans Grew.same HT.out.1) hg7 fun j e => (HO.out.1.lt j e).1))))
          clear ho7 hb7 hob7 hg7 hgr hpk7 hrow5 hlX hsz5
          go_wp2_with fail
          go_roundw
          case rel =>
            have hst := end_step HS.out.2.1 HS.out.2.2.2.2.2.2 HU.out.2.2.2.1 hn1 HN.out.1 HN.out.2.1 HO.out.2.2.2.2.2.2.2.2.1
            have hgp := cons_group (l := (S.drop k).take n) fun u hu => HS.out.2.2.2.2.2.2 u (List.mem_of_mem_drop (List.mem_of_mem_take hu))
            rw [HE.out.1, HE.out.2] at hgp
            refine ⟨k + n, outL ++ X, t5, 10, _, _, by rw [Nat.sub_sub], HT.out.2.2.2.2.2.2, ⟨by have := HQ.out.2.2.1; omega, by have := HQ.out.2.2.1; omega⟩, fun g' o' e hlt' => ?_, ?_, H7.out.2.1, H7.out.2.2.1, ?_, ?_, ?_, fun hf => ?_, H7.out.2.2.2, hst.1, ?_⟩
            · simp only [Option.some.injEq, Addr.mk.injEq, and_true] at e
              obtain ⟨rfl, rfl⟩ := e
              have hcn : ¬ c' = n := by have := HQ.out.2.2.1; omega
              first
                | rw [show o + k * 6 + n * 6 = o + (k + n) * 6 by omega, if_neg hcn]
                | rw [if_neg hcn, show o + k * 6 + n * 6 = o + (k + n) * 6 by omega]
                | rw [if_neg hcn]
            · rw [List.length_append, List.flatMap_append]
              exact H7.out.1
            · exact .inr rfl
            · have : fitU ((S.drop k).take n) = false := by
                have h1 := hgp.1
                split at h1
                · have := HE0.out; omega
                · rename_i h2; simpa using h2
              rw [hst.2.1, this, Bool.and_false]
              exact ⟨fun e => absurd e (by decide), fun e => absurd e.2 (by decide)⟩
            · intro e; exact absurd e (by decide)
            · rw [hst.2.1, Bool.and_eq_true] at hf
              have h1 := hgp.1
              rw [if_pos hf.2] at h1
              exact absurd h1 HE0.out
            · rw [List.length_append]
              have := HT.out
              omega
          case measure => (simp [intOf]) <;> omega
    · have hkM : k = M.length := by omega
      have htk : S.take k = S := by rw [hkM, ← HS.out.2.2.2.2.1, List.take_length]
      rw [htk] at hwf hmap
      have hpm := fitU_perm HS.out.1 HM.out.2.2.2.2.1
      rw [hpm.1] at hwf hmap
      rw [hpm.2] at hmap
      obtain ⟨A5, c5, rfl, _, _, h5⟩ := lies_of_own (size := 6) (cells := Up.cells) (l := outL) (by decide) ucells_len rfl hown
      have hRP : w.heap.size ≠ PB := by have := HPB.out.1; omega
      have hRlt : w.heap.size < w1.heap.size := HK.out.2.2.1.inside
      have hres : Own wi w.heap.size 46 [.int .u64 0, .int .u64 0, .int .u64 0] := (hpk.block _ hRlt hRP (by simp [Value.ownBlock])).trans HK.out.2.2.1
      obtain ⟨X0, hX, hXo0, hXk0, hXs⟩ := own_three hres (.int .u64 (t'.e : Int)) (.int .u64 (t'.a : Int)) (.int .u64 (t'.b : Int))
      obtain ⟨X, hXd⟩ : ∃ X, X = X0.drew := ⟨_, rfl⟩
      have hXo : Own X w.heap.size 46 [.int .u64 (t'.e : Int), .int .u64 (t'.a : Int), .int .u64 (t'.b : Int)] := hXd ▸ own_drew' hXo0
      have hXk : PKeep wi X w.heap.size (.slice none 0 0) := hXd ▸ hXk0.quiet (Below.refl _ _).drew
      have hown' : ∀ b o, A5 = some ⟨b, o, none⟩ → w1.heap.size ≤ b ∧ b < wi.heap.size := fun b o e => by subst e; exact hown.lt b rfl
      have hk2 : PKeep wi X w.heap.size (.slice none 0 0) := hXk
      have hu5 : Ups X X.heap.size A5 outL := ⟨lies_pk h5 hk2 fun hp b o e => ⟨by have := hown' b o e; omega, by simp [Value.ownBlock]⟩, fun u hu => uin_pk (hout u hu).1 ((hout u hu).2.2.2.imp fun b hb => ⟨by omega, by simp [Value.ownBlock]⟩) hk2⟩
      have hkk : PKeep w X PB (.slice A M.length c) := by
        have k1 := HK.out.1 PB
        refine ⟨hk2.os.trans (hpk.os.trans k1.os), hk2.tape.trans (hpk.tape.trans k1.tape), hk2.output.trans (hpk.output.trans k1.output), Nat.le_trans k1.size (Nat.le_trans hpk.size hk2.size), fun j hj h1 h2 => ?_⟩
        have hj1 : j < w1.heap.size := Nat.lt_of_lt_of_le hj k1.size
        exact (hk2.block j (Nat.lt_of_lt_of_le hj1 hpk.size) (by omega) (by simp [Value.ownBlock])).trans ((hpk.block j hj1 h1 (by simp [Value.ownBlock])).trans (k1.block j hj h1 h2))
      have HR := Lib.hid (And.intro hu5 (And.intro hkk (And.intro (fun u hu => (hout u hu).2.1) (And.intro (fun b o e => Nat.le_trans (Nat.le_of_lt hRlt) (hown' b o e).1) (fun u hu => (hout u hu).2.2.2.imp fun b hb => Nat.le_trans (Nat.le_of_lt hRlt) hb)))))
      have HLn := Lib.hid (show outL.length ≤ M.length by omega)
      have HW := Lib.hid (And.intro hwy (And.intro hwf (And.intro hwt (And.intro hmap hkM))))
      have HSO := Lib.hid (fun W (h : OwnP W PB [.int .u64 (t'.e : Int), .int .u64 (t'.a : Int), .int .u64 (t'.b : Int), .int .i64 why', .slice A M.length c]) => (⟨h.at_ 0, h.at_ 1, h.at_ 2, h.at_ 3⟩ : W.cell? ⟨PB, 0, none⟩ = some (.int .u64 (t'.e : Int)) ∧ W.cell? ⟨PB, 1, none⟩ = some (.int .u64 (t'.a : Int)) ∧ W.cell? ⟨PB, 2, none⟩ = some (.int .u64 (t'.b : Int)) ∧ W.cell? ⟨PB, 3, none⟩ = some (.int .i64 why')))
      have q2 : decide ((0 : Int) < ((M.length - k : Nat) : Int)) = false := decide_eq_false (by omega)
      obtain ⟨d0, d1, d2, d3⟩ := HSO.out wi hpb
      have z0 := hres.at_ 0
      have z1 := hres.at_ 1
      have z2 := hres.at_ 2
      have f0 := hres.open_ 0
      have f1 := hres.open_ 1
      have f2 := hres.open_ 2
      have x0 := hXo.at_ 0
      have x1 := hXo.at_ 1
      have x2 := hXo.at_ 2
      simp only [List.getElem?_cons_zero, List.getElem?_cons_succ] at z0 z1 z2 x0 x1 x2
      clear hown hout hwy hwf hwt hmap hpk hbd hlen hpm htk h5 hres hXo hXk hXs hXo0 hXk0 hown' hk2 hu5 hkk hadr hcc hkM hk
      go_upto_region 11 with fail
      go_region_held3 (fun w' => OwnP w' PB [.int .u64 (t'.e : Int), .int .u64 (t'.a : Int), .int .u64 (t'.b : Int), .int .i64 why', .slice A M.length c] ∧ (w'.cell? ⟨PB, 0, none⟩ = some (.int .u64 (t'.e : Int)) ∧ w'.cell? ⟨PB, 1, none⟩ = some (.int .u64 (t'.a : Int)) ∧ w'.cell? ⟨PB, 2, none⟩ = some (.int .u64 (t'.b : Int)) ∧ w'.cell? ⟨PB, 3, none⟩ = some (.int .i64 why')))
        ((refine (fun h => And.intro h (HSO.out _ h)) ?_; repeat (first | with_reducible exact hpb | with_reducible refine OwnP.other ?_ hRP _ | with_reducible refine OwnP.drew' ?_)))
        (first | fail)
      all_goals
        go_wp2_with fail
        rw [← hX, ← hXd]
        exact bodyPost_ret (v := .tuple #[.slice A5 outL.length c5, .agg #[.int .u64 (t'.e : Int), .int .u64 (t'.a : Int), .int .u64 (t'.b : Int)], .int .i64 why']) (by simp [results, Tryz.results66, go_sem, x0, x1, x2]) rfl ⟨A5, c5, outL, t', why', rfl, HW.out.1, HW.out.2.1, fun e => ⟨HW.out.2.2.2.1 (HW.out.2.1.1 e).2, HW.out.2.2.1 e⟩, HR.out.1, HR.out.2.2.1, HR.out.2.1, HR.out.2.2.2.1, HR.out.2.2.2.2, HLn.out⟩
end Go.Proofs.YtllpfngmnccejaaGreat
namespace Go.Proofs.YtllpfngmnccejaaGreat
open Go Go.RowKit

def MatchPost (PB : Nat) (a b : List Up) (w : World) (e : Ending) (w' : World) : Prop :=
  e = .returned (.tuple #[]) ∧ ∃ t why v M, Prod w' PB t why v M ∧ PKeep w w' PB (.slice none 0 0) ∧ (∀ j, v.ownBlock = some j → w.heap.size ≤ j) ∧ (why = 0 ∨ why = 10) ∧ (why = 0 ↔ okPairs a b = true) ∧ (why = 0 → (M.map Up.p).Perm (pairsP a b)) ∧ (∀ u ∈ M, chkU u = 0) ∧ M.length ≤ a.length * b.length
theorem slbox (w : World) (v : Value) : ∃ V, V = w.alloc (.cells #[v] 22) ∧ Below w.heap.size w V ∧ V.heap.size = w.heap.size + 1 ∧ Own V w.heap.size 22 [v] :=
  ⟨_, rfl, (Below.refl _ _).alloc (Nat.le_refl _) _, by simp, Own.made w _ _⟩
theorem lies_dropU {w : World} {B g o : Nat} {l : List Up} {q : Nat} (h : Lies 6 Up.cells w B (some ⟨g, o, none⟩) l) : Lies 6 Up.cells w B (some ⟨g, o + q * 6, none⟩) (l.drop q) := fun hp => by
  have hl : 0 < l.length := by rw [List.length_drop] at hp; omega
  obtain ⟨b', o', e, hb, hc⟩ := h hl
  obtain ⟨rfl, rfl⟩ : g = b' ∧ o = o' := by injection e with e; injection e with e1 e2; exact ⟨e1, e2⟩
  refine ⟨g, o + q * 6, rfl, hb, fun i x hi j u hj => ?_⟩
  have := hc (q + i) x (by rw [List.getElem?_drop] at hi; exact hi) j u hj
  rwa [show o + (q + i) * 6 + j = o + q * 6 + i * 6 + j by omega] at this
set_option maxRecDepth 100000 in
set_option maxHeartbeats 25600000 in
theorem match_any (PB : Nat) (A : Option Addr) (c : Nat) (a : List Up) (B : Option Addr) (d : Nat) (b : List Up) (w : World) (h : Prod w PB ⟨0, 0, 0⟩ 0 (.slice none 0 0) []) (ha : Ups w PB A a) (oa : ∀ u ∈ a, UOk u) (ca : chkUs a = 0) (hb : Ups w PB B b) (ob : ∀ u ∈ b, UOk u) (cb : chkUs b = 0) (na : a.length ≤ 1099511627776) (nb : b.length ≤ 1099511627776) (hn : a.length * b.length ≤ 1099511627776) :
    Calls Tryz.prog 67 #[.pointer (some ⟨PB, 0, none⟩), .slice A a.length c, .slice B b.length d] w (MatchPost PB a b w) := by
  have hPB := h.own.inside
  obtain ⟨V, hV, hVb, hVs, hVo⟩ := slbox w (.slice B b.length d)
  have hbw := hb.wide (Nat.le_of_lt hPB)
  have y1 := Lib.hid (cloneU_any B d b V (hbw.keep hVb).head nb)
  have HL := Lib.hid (And.intro ha (And.intro oa (And.intro ca (And.intro hb (And.intro ob cb)))))
  have HV := Lib.hid (And.intro hVb (And.intro hVo (And.intro (h.quiet hVb) (And.intro hPB hVs))))
  have HN := Lib.hid (And.intro na (And.intro nb hn))
  have d0 := hVo.at_ 0
  simp only [List.getElem?_cons_zero] at d0
  clear h ha oa ca hb ob cb na nb hn hPB hVb hVs hVo hbw
  go_enter Tryz.func67, Tryz.ntmps67
  go_upto_region 1 with fail
  rw [← hV]
  clear hV
  apply wp_scope_straight
  go_wp2_with fail
  refine y1.out.mono ?_
  rintro _ w1 ⟨A1, c1, rfl, ho1, b1⟩
  have o1 := HV.out.2.1.past b1 HV.out.2.1.inside
  have f0 := o1.open_ 0
  have g0 := o1.at_ 0
  simp only [List.getElem?_cons_zero] at g0
  obtain ⟨X, hX⟩ : ∃ X, X = w1.setCell ⟨w.heap.size, 0, none⟩ (.slice A1 b.length c1) := ⟨_, rfl⟩
  have oX : Own X w.heap.size 22 [.slice A1 b.length c1] := hX ▸ o1.set_ 0 _
  have hne : (Value.slice A1 b.length c1).ownBlock ≠ some w.heap.size := fun e => by have := (ho1.lt _ e).1; have := HV.out.2.2.2.2; omega
  have roX : X.ownsRow V.heap.size 48 6 (.slice A1 b.length c1) b.length (b.flatMap Up.cells) := hX ▸ ho1.kept (grown_set w1 w.heap.size 0 _) (.inr hne)
  have bX : Below w.heap.size w X := by
    rw [hX]
    exact (belows HV.out.1 b1).setCell (p := ⟨w.heap.size, 0, none⟩) (Nat.le_refl _) _
  have hPX : Prod X PB ⟨0, 0, 0⟩ 0 (.slice none 0 0) [] := ⟨(HV.out.2.2.1.own).past (hX ▸ (b1.mono (show w.heap.size ≤ V.heap.size by have := HV.out.2.2.2.2; omega)).setCell (p := ⟨w.heap.size, 0, none⟩) (Nat.le_refl _) _) HV.out.2.2.2.1, World.ownsRow_nil _ _ _ _, (fun u hu => by cases hu), fun _ => rfl⟩
  obtain ⟨A2, c2, e2, hc2, hm2, hsort⟩ := sortK_all (.slice A1 b.length c1) b.length V.heap.size b X rfl roX (fun u hu => ⟨((HL.out.2.2.2.1.each_ u hu).past bX (Nat.le_of_lt HV.out.2.2.2.1)).wide (Nat.le_trans (Nat.le_of_lt HV.out.2.2.2.1) bX.size), HL.out.2.2.2.2.1 u hu, (awn_lt (HL.out.2.2.2.1.each_ u hu)).imp fun j hj e => by have h1 := (ho1.lt _ e).1; have h2 := HV.out.2.2.2.1; have h3 := HV.out.2.2.2.2; omega⟩) (by have := HN.out.2.1; omega)
  obtain ⟨rfl, rfl⟩ : A1 = A2 ∧ c1 = c2 := by injection e2 with e2 _ e3; exact ⟨e2, e3⟩
  have Hsort := Lib.hid hsort
  have HX := Lib.hid (And.intro bX (And.intro oX (And.intro roX (And.intro hPX (And.intro hc2 hm2)))))
  have dX := oX.at_ 0
  simp only [List.getElem?_cons_zero] at dX
  clear d0 y1 o1 hne bX roX hPX e2 hc2 hm2 hsort oX ho1 b1
  go_upto_region 2 with fail
  rw [← hX]
  clear hX f0 g0
  go_wp2_with fail
  refine Hsort.out.mono ?_
  rintro _ w2 ⟨rfl, S, hp, hs, hS, hA, hk⟩
  have hSn : b.length = S.length := hp.length_eq.symm
  have hown : ∀ j, (Value.slice A1 b.length c1).ownBlock = some j → V.heap.size ≤ j := fun j hj => (HX.out.2.2.1.lt j hj).1
  have hXs : V.heap.size ≤ X.heap.size := by have h1 := HX.out.2.1.inside; have h2 := HV.out.2.2.2.2; omega
  have b2 : Below V.heap.size X w2 := (hk X.heap.size).below hXs hXs hown
  have bw2 : Below w.heap.size w w2 := HX.out.1.trans (b2.mono (by have := HV.out.2.2.2.2; omega))
  have o2 : Own w2 w.heap.size 22 [.slice A1 S.length c1] := by
    have := HX.out.2.1.past b2 (by have := HV.out.2.2.2.2; omega)
    rwa [hSn] at this
  have hP2 : Prod w2 PB ⟨0, 0, 0⟩ 0 (.slice none 0 0) [] := ⟨HX.out.2.2.2.1.own.past b2 (by have h1 := HV.out.2.2.2.1; have h2 := HV.out.2.2.2.2; omega), World.ownsRow_nil _ _ _ _, (fun u hu => by cases hu), fun _ => rfl⟩
  have hAg : ∀ g o, A1 = some ⟨g, o, none⟩ → w.heap.size < g := fun g o e => by have h1 := hown g (hA g o e); have h2 := HV.out.2.2.2.2; omega
  have hSok : ∀ u ∈ S, UOk u := fun u hu => HL.out.2.2.2.2.1 u (hp.mem_iff.1 hu)
  have hScu : ∀ u ∈ S, chkU u = 0 := fun u hu => chkUs_all.1 HL.out.2.2.2.2.2 u (hp.mem_iff.1 hu)
  have hSin : ∀ u ∈ S, UIn w PB u := fun u hu => HL.out.2.2.2.1.each_ u (hp.mem_iff.1 hu)
  have hcap : S.length ≤ c1 ∧ c1 ≤ maxLen := by have := HX.out.2.2.2.2; omega
  have H2 := Lib.hid (And.intro bw2 (And.intro o2 (And.intro hP2 (And.intro hAg hcap))))
  have HS := Lib.hid (And.intro hp (And.intro hs (And.intro hS (And.intro hSok (And.intro hScu (And.intro hSin hSn))))))
  -- S and a, wherever nothing but the producer's block and its row has turned
  have HW := Lib.hid (show ∀ W, PKeep w2 W PB (.slice none 0 0) → Below PB w W ∧ Ups W W.heap.size A1 S ∧ Own W w.heap.size 22 [.slice A1 S.length c1] from fun W k => by
    have k1 : Below PB w W := (bw2.mono (Nat.le_of_lt HV.out.2.2.2.1)).trans (k.below (by have h1 := HV.out.2.2.2.1; have h2 := bw2.size; omega) (Nat.le_refl _) (by simp [Value.ownBlock]))
    refine ⟨k1, ⟨lies_pk hS k (fun _ g o e => ⟨by have h1 := hAg g o e; have h2 := HV.out.2.2.2.1; omega, by simp [Value.ownBlock]⟩), fun u hu => ((hSin u hu).past k1 (Nat.le_refl _)).wide (Nat.le_trans (Nat.le_of_lt HV.out.2.2.2.1) (Nat.le_trans bw2.size k.size))⟩, (k.block _ o2.inside (by have h1 := HV.out.2.2.2.1; omega) (by simp [Value.ownBlock])).trans o2⟩)
  clear hp hs hS hA hk hSn hown hXs b2 bw2 o2 hP2 hAg hSok hScu hSin hcap dX Hsort
  go_wp2_with fail
  apply wp_label
  go_wp2_with fail
  go_loopw [17] (fun v17 wr => ∃ (k : Nat) (why : Int) (v : Value) (M : List Up), v17 = .int .i64 (k : Int) ∧ k ≤ a.length ∧ JM w2 wr PB a S k why v M)
    (fun v17 _ => a.length - (intOf v17).toNat)
  case atStart => exact ⟨0, 0, .slice none 0 0, [], rfl, Nat.zero_le _, ⟨_, H2.out.2.2.1⟩, PKeep.refl, by simp [Value.ownBlock], .inl rfl, ⟨fun _ => rfl, fun _ => rfl⟩, fun _ => rfl, (fun u hu => by cases hu), Nat.zero_le _⟩
  case round =>
    obtain ⟨k, why, v, M, rfl, hk, hjm⟩ := hrel
    obtain ⟨wi, hwi⟩ : ∃ wi, wi = wr := ⟨_, rfl⟩
    subst hwi
    have hna : a.length < 1099511627777 := by have := HN.out.1; omega
    have hnS : S.length < 1099511627777 := by have h1 := HN.out.2.1; have h2 := HS.out.2.2.2.2.2.2; omega
    by_cases hlt : k < a.length
    · obtain ⟨x, hx⟩ : ∃ x, a[k]? = some x := ⟨_, List.getElem?_eq_getElem hlt⟩
      have hxm := List.mem_of_getElem? hx
      obtain ⟨k1, k2, k3⟩ := HW.out wi hjm.keep
      obtain ⟨bA, oA, hA, hB, hxs⟩ := lies_up HL.out.1.head (by omega)
      obtain ⟨e0, e1, e2, e3, e4, e5⟩ := ((hxs k x hx).past_ k1 hB).six
      obtain ⟨V5, hV5, hb5, hs5, ho5⟩ := upbox wi x
      have hji := hjm.enter hb5 (Nat.le_refl _) ho5
      have hPQ : PB ≠ wi.heap.size := by obtain ⟨t, p⟩ := hjm.prod; have := p.own.inside; omega
      obtain ⟨m1, m2, m3⟩ := HW.out V5 hji.keep
      have hxi : ∀ W, Below PB w W → UIn W W.heap.size x := fun W hW => ((HL.out.1.each_ x hxm).past hW (Nat.le_refl _)).wide (Nat.le_trans (Nat.le_of_lt HV.out.2.2.2.1) hW.size)
      have hoku := HL.out.2.1 x hxm
      have hcu := chkUs_all.1 HL.out.2.2.1 x hxm
      have z1 := Lib.hid (searchJ_any w.heap.size wi.heap.size S x.key V5 HS.out.2.1 (by have h1 := HN.out.2.1; have h2 := HS.out.2.2.2.2.2.2; omega) (seeksJ_of m3 ho5 m2 (hxi V5 m1) hoku HS.out.2.2.2.1))
      have d5 := m3.at_ 0
      simp only [List.getElem?_cons_zero] at d5
      have HK := Lib.hid (And.intro hji (And.intro hPQ (And.intro hx (And.intro hxi (And.intro hoku hcu)))))
      have q0 : (0 : Int) ≤ (k : Int) := by omega
      have q1 : (k : Int) < (a.length : Int) := by omega
      have HA := Lib.hid hA
      rw [hA]
      clear hxm k1 k2 k3 hA hB hxs hb5 hs5 ho5 hji hPQ m1 m2 m3 hxi hoku hcu hx hjm
      go_upto_region 6 with fail
      rw [← hV5]
      clear hV5 e0 e1 e2 e3 e4 e5
      go_wp2_with fail
      refine z1.out.mono ?_
      rintro _ w6 ⟨rfl, b6⟩
      have hji6 := HK.out.1.past b6
      obtain ⟨m1, m2, m3⟩ := HW.out w6 hji6.keep
      clear d5 z1
      have d5 := m3.at_ 0
      simp only [List.getElem?_cons_zero] at d5
      obtain ⟨i, hi⟩ : ∃ i, seekB S x.key = i := ⟨_, rfl⟩
      have hin : i ≤ S.length := hi ▸ seek_len S x.key
      have HI := Lib.hid hi
      rw [hi]
      have H6 := Lib.hid (And.intro hji6 (And.intro m1 m2))
      clear b6 hji6 m1 m2 m3 hi
      by_cases hil : i < S.length
      · obtain ⟨g, o, hA1, hgB, hgs⟩ := lies_up H6.out.2.2.head (by omega)
        have hAo := hA1
        rw [hA1] at d5
        have hci : ¬ c1 = i := by have := H2.out.2.2.2.2.1; omega
        have hcl : S.length ≤ c1 := H2.out.2.2.2.2.1
        have hcm : c1 ≤ maxLen := H2.out.2.2.2.2.2
        have hlt2 : g < w2.heap.size := by
          obtain ⟨g', o', e, hB', _⟩ := lies_up HS.out.2.2.1 (by omega)
          rw [hA1] at e
          injection e with e
          injection e with e
          omega
        have HA1 := Lib.hid (And.intro hA1 hlt2)
        clear hgs hgB hA1 hAo hlt2
        go_wp2_with fail
        go_loopw [29] (fun v29 wq => ∃ (j : Nat) (why : Int) (v : Value) (M : List Up), v29 = .int .i64 (j : Int) ∧ j ≤ S.length - i ∧ JI w2 wq PB wi.heap.size a S k j x why v M)
          (fun v29 _ => S.length - i - (intOf v29).toNat)
        case atStart => exact ⟨0, why, v, M, rfl, Nat.zero_le _, H6.out.1⟩
        case round =>
          obtain ⟨j, why3, v3, M3, rfl, hj, hji⟩ := hrel
          have hxo := HK.out.2.2.2.2.1
          have hcx := HK.out.2.2.2.2.2
          have hkS := HS.out.2.1
          by_cases hjl : j < S.length - i
          · obtain ⟨y, hy⟩ : ∃ y, S[i + j]? = some y := ⟨_, List.getElem?_eq_getElem (by omega)⟩
            have hyd : (S.drop (seekB S x.key))[j]? = some y := by rw [HI.out, List.getElem?_drop]; exact hy
            have hym := List.mem_of_getElem? hy
            obtain ⟨k1, k2, k3⟩ := HW.out wr hji.keep
            obtain ⟨g', o', eA, hgB, hgs⟩ := lies_up k2.head (by omega)
            rw [HA1.out.1] at eA
            obtain ⟨rfl, rfl⟩ : g = g' ∧ o = o' := by injection eA with eA; injection eA with e1 e2; exact ⟨e1, e2⟩
            have hat : UAt wr g (o + i * 6 + j * 6) y := by
              have := hgs (i + j) y hy
              rwa [show o + (i + j) * 6 = o + i * 6 + j * 6 by omega] at this
            obtain ⟨e0, e1, e2, e3, e4, e5⟩ := hat.six
            obtain ⟨V9, hV9, hb9, hs9, ho9⟩ := upbox wr y
            have hj9 := hji.past hb9
            have hyi : ∀ W, Below PB w W → UIn W W.heap.size y := fun W hW => ((HS.out.2.2.2.2.2.1 y hym).past hW (Nat.le_refl _)).wide (Nat.le_trans (Nat.le_of_lt HV.out.2.2.2.1) hW.size)
            have hyo := HS.out.2.2.2.1 y hym
            have hcy := HS.out.2.2.2.2.1 y hym
            have k9 := (HW.out V9 hj9.keep).1
            have z1 := Lib.hid (bykey_gr x y V9 (HK.out.2.2.2.1 V9 k9) (hyi V9 k9) hxo hyo)
            obtain ⟨z, hz⟩ : ∃ z, cmpRows x.key y.key = z := ⟨_, rfl⟩
            rw [hz] at z1
            unfold Up.val at z1
            have hsw := row_lin.swap x.key y.key
            obtain ⟨f0, f1, f2, f3, f4, f5⟩ := own6 hj9.box
            obtain ⟨h0, h1, h2, h3, h4, h5⟩ := own6 ho9
            have H9 := Lib.hid (And.intro hj9 (And.intro ho9 (And.intro hyi (And.intro hyo (And.intro hcy (And.intro hyd (And.intro hz hsw)))))))
            have HJL := Lib.hid hjl
            have q4 : (0 : Int) ≤ (j : Int) := by omega
            have q5 : (j : Int) < ((S.length - i : Nat) : Int) := by omega
            clear hyd hym k1 k2 k3 hgB hgs hat hb9 hs9 ho9 hj9 hyi hyo hcy k9 hz hsw hji eA hy hxo hcx hkS
            go_upto_region 10 with fail
            rw [← hV9]
            clear hV9 e0 e1 e2 e3 e4 e5
            go_wp2_with fail
            refine z1.out.mono ?_
            rintro _ w10 ⟨rfl, g10⟩
            have hj10 := H9.out.1.past g10.below
            have ho10 := H9.out.2.1.past g10.below H9.out.2.1.inside
            clear g10 z1 f0 f1 f2 f3 f4 f5 h0 h1 h2 h3 h4 h5
            by_cases hz0 : z = 0
            · have t1 : (z != 0) = false := by simp [hz0]
              have hkey : cmpRows y.key x.key = 0 := by have h1 := H9.out.2.2.2.2.2.2.1; have h2 := H9.out.2.2.2.2.2.2.2; omega
              obtain ⟨t, hp⟩ := hj10.prod
              have k10 := (HW.out w10 hj10.keep).1
              have z2 := Lib.hid (pair_any PB t why3 v3 M3 x y w10 hp hj10.wy (HK.out.2.2.2.1 w10 k10) HK.out.2.2.2.2.1 HK.out.2.2.2.2.2 (H9.out.2.2.1 w10 k10) H9.out.2.2.2.1 H9.out.2.2.2.2.1 (by
                have h1 := hj10.len
                have h2 : (k + 1) * S.length ≤ a.length * S.length := Nat.mul_le_mul_right _ (by omega)
                rw [Nat.succ_mul] at h2
                have h3 := HN.out.2.2
                rw [HS.out.2.2.2.2.2.2] at h3
                have h4 := HJL.out
                omega))
              unfold PairPost at z2
              unfold Up.val at z2
              obtain ⟨f0, f1, f2, f3, f4, f5⟩ := own6 hj10.box
              obtain ⟨h0, h1, h2, h3, h4, h5⟩ := own6 ho10
              have H10 := Lib.hid (And.intro hj10 hkey)
              clear hkey hp k10 hj10 ho10 hz0
              go_wp2_with fail
              refine z2.out.mono ?_
              rintro _ w11 ⟨rfl, u, t', v', hu, hp', hk', hg'⟩
              have HNX := Lib.hid (JI.next H10.out.1 H9.out.2.2.2.2.2.1 H10.out.2 hu hp' hk' hg' HK.out.2.1)
              clear hu hp' hk' hg' z2 f0 f1 f2 f3 f4 f5 h0 h1 h2 h3 h4 h5
              go_wp2_with fail
              go_roundw
              case rel =>
                obtain ⟨why', M', hJ⟩ := HNX.out
                exact ⟨j + 1, why', v', M', by go_num, by have := HJL.out; omega, hJ⟩
              case measure => simp [intOf]; have := HJL.out; omega
            · have t1 : (z != 0) = true := bne_iff_ne.2 hz0
              have HLV := Lib.hid (hj10.leave HS.out.2.1 HK.out.2.2.1 (fun u hu => by
                have h0 := H9.out.2.2.2.2.2.1
                rw [h0] at hu
                injection hu with hu
                subst hu
                have h1 := H9.out.2.2.2.2.2.2.1; have h2 := H9.out.2.2.2.2.2.2.2; omega))
              clear hj10 ho10 hz0
              go_wp2_with fail
              go_roundw
              case rel => exact ⟨k + 1, why3, v3, M3, by go_num, by omega, HLV.out⟩
              case measure => simp [intOf]; omega
          · have hje : j = S.length - i := by omega
            have HLV := Lib.hid (hji.leave HS.out.2.1 HK.out.2.2.1 (fun u hu => by
              have h1 := (List.getElem?_eq_some_iff.1 hu).1
              rw [List.length_drop, HI.out] at h1
              omega))
            clear hji hjl hxo hcx hkS
            go_wp2_with fail
            go_roundw
            case rel => exact ⟨k + 1, why3, v3, M3, by go_num, by omega, HLV.out⟩
            case measure => simp [intOf]; omega
      · have hie : i = S.length := by omega
        have HLV := Lib.hid (H6.out.1.leave HS.out.2.1 HK.out.2.2.1 (fun u hu => by
          have h1 := (List.getElem?_eq_some_iff.1 hu).1
          rw [List.length_drop, HI.out] at h1
          omega))
        have hcl : S.length ≤ c1 := H2.out.2.2.2.2.1
        have hcm : c1 ≤ maxLen := H2.out.2.2.2.2.2
        have q6 : S.length - i = 0 := by omega
        have HIE := Lib.hid hie
        clear hil hie
        obtain ⟨q, hq⟩ : ∃ q : Prop, q = (c1 = i) := ⟨_, rfl⟩
        by_cases hci : c1 = i
        · have hcT : (c1 = i) = True := eq_true hci
          clear hci hq
          go_wp2_with fail
          go_loopw [29] (fun v29 wq => v29 = .int .i64 0 ∧ JM w2 wq PB a S (k + 1) why v M) (fun v29 _ => (intOf v29).toNat)
          case atStart => exact ⟨rfl, HLV.out⟩
          case round =>
            obtain ⟨rfl, hjm⟩ := hrel
            have HLV := Lib.hid hjm
            clear hjm
            go_wp2_with fail
            go_roundw
            case rel => exact ⟨k + 1, why, v, M, by go_num, by omega, HLV.out⟩
            case measure => simp [intOf]; omega
        · clear hq
          go_wp2_with fail
          go_loopw [29] (fun v29 wq => v29 = .int .i64 0 ∧ JM w2 wq PB a S (k + 1) why v M) (fun v29 _ => (intOf v29).toNat)
          case atStart => exact ⟨rfl, HLV.out⟩
          case round =>
            obtain ⟨rfl, hjm⟩ := hrel
            have HLV := Lib.hid hjm
            clear hjm
            go_wp2_with fail
            go_roundw
            case rel => exact ⟨k + 1, why, v, M, by go_num, by omega, HLV.out⟩
            case measure => simp [intOf]; omega
    · have hE : k = a.length := by omega
      have HJ := Lib.hid hjm
      clear hjm hlt
      go_wp2_with fail
      have hj := HJ.out
      rw [hE] at hj
      obtain ⟨t, hp⟩ := hj.prod
      have h1 := hj.ok
      have h2 := hj.made
      have h3 := hj.len
      rw [List.take_length] at h1 h2
      refine bodyPost_end (results_none rfl _ _ _) rfl ⟨rfl, t, why, v, M, hp, (PKeep.of_quiet H2.out.1).trans Grew.same hj.keep, fun j hj' => Nat.le_trans H2.out.1.size (hj.far j hj'), hj.wy, ?_, fun e => ?_, hj.chk, ?_⟩
      · rw [h1, okPairs_perm HS.out.1]
      · rw [h2 e]; exact pairsP_perm HS.out.1 a
      · rwa [← HS.out.2.2.2.2.2.2] at h3
end Go.Proofs.YtllpfngmnccejaaGreat
namespace Go.Proofs.YtllpfngmnccejaaGreat
open Go Go.RowKit Go.Maps

/-- how a function of the map reads: by its number -/
def fR (v : Value) : Option (DataW Unit × List MemPlace) :=
  match v with
  | .func (.func n) a b => if a = #[] ∧ b = #[] then some (.lit (.int .i64 (n : Int)), []) else none
  | .nilFunc => some (.lit (.bool false), [])
  | _ => none
theorem fR_fun (n : Nat) : fR (.func (.func n) #[] #[]) = some (.lit (.int .i64 (n : Int)), []) := by simp [fR]
theorem fR_inv {v : Value} {n : Nat} {ps : List MemPlace} (h : fR v = some (.lit (.int .i64 (n : Int)), ps)) : v = .func (.func n) #[] #[] := by
  unfold fR at h
  split at h
  · rename_i m a b
    split at h
    · rename_i hab
      simp only [Option.some.injEq, Prod.mk.injEq, DataW.lit.injEq, Lit.int.injEq, true_and] at h
      obtain ⟨rfl, rfl⟩ := hab
      have : m = n := Int.ofNat_inj.1 h.1
      rw [this]
    · cases h
  · simp at h
  · cases h
theorem fR_nil {v : Value} {ps : List MemPlace} (h : fR v = some (.lit (.bool false), ps)) : v = .nilFunc := by
  unfold fR at h
  split at h
  · rename_i m a b
    split at h
    · simp at h
    · cases h
  · rfl
  · cases h
/-- 'm[k] = v' in a composite literal -/
theorem wpList_insert_own {H : Type} {P : Program} (w : World) {ops : Array Oper} {rest : List Oper} {o : Oper} {a : Act} {Q : Exit → Act → World → Prop}
    (hg : o.guard = none) (m x v : Operand) (t : TypeId) (hop : o.op = Op.insert t m x v)
    (k e : TypeId) (K : Keyed P k) (ht : P.underlying t = some (.map k e)) (R : Value → Option (DataW H × List MemPlace)) (b n : Nat) (D : DataW H)
    (hm : a.eval m = .map (some b)) (hown : w.ownsMap P k R b n D) (hn : n < maxLen) (key val : Value) (kl : Lit) (hx : a.eval x = key) (hv : a.eval v = val) (hkey : keyOf P k key = some kl)
    (d : DataW H) (ps : List MemPlace) (hval : R val = some (d, ps))
    (hK : ∀ w', w'.ownsMap P k R b (n + 1) (D.put kl d) → w.grownBy w' (some b) → wpList P ops Q rest (a.put o.dst undef) w') :
    wpList P ops Q (o :: rest) a w := by
  refine wpList_plain hg fun K' hK' => ?_
  obtain ⟨w', hrun, r1, r2⟩ := hown.update K ht hn hkey hval
  unfold Oper.wp
  simp [execOp, hop, hm, hx, hv, hrun, Result.andThen]
  exact hK' _ _ (hK w' r1 r2)
theorem zeroMk (w : World) : (zeroValue 115).run Tryz.prog w = .ok .nilFunc w := by
  have h : (Tryz.prog.info? 115).map (fun i => i.zero) = some (some .nilFunc) := by kernel_rfl
  cases hq : Tryz.prog.info? 115 with
  | none => rw [hq] at h; cases h
  | some i =>
    rw [hq] at h
    have hz : i.zero = some .nilFunc := by simpa using h
    simp [zeroValue, typeInfo, hq, hz]
theorem keyedK : Keyed Tryz.prog 59 := int_keyed (q := .u8) Tryz.underlying59
theorem keyK (n : Int) (h : 0 ≤ n ∧ n ≤ 255) : keyOf Tryz.prog 59 (.int .u8 n) = some (.int .u8 n) :=
  keyOf_int_mk Tryz.underlying59 (by simp [Lit.wf, IntKind.min, IntKind.max, IntKind.signed, IntKind.bits]; omega)
def mkD : DataW Unit := ((((DataW.map []).put (.int .u8 3) (.lit (.int .i64 (109 : Nat)))).put (.int .u8 4) (.lit (.int .i64 (110 : Nat)))).put (.int .u8 5) (.lit (.int .i64 (111 : Nat)))).put (.int .u8 6) (.lit (.int .i64 (112 : Nat)))
/-- which function makes what a kind of plan makes -/
def mkF (k : Int) : Option Nat := if k = 3 then some 109 else if k = 4 then some 110 else if k = 5 then some 111 else if k = 6 then some 112 else none
theorem mkD_at (k : Int) (h : 0 ≤ k ∧ k ≤ 255) : Maps.has mkD (.int .u8 k) = (mkF k).isSome ∧ mkD.atKey (.int .u8 k) (.lit (.bool false)) = (match mkF k with | some n => .lit (.int .i64 (n : Int)) | none => .lit (.bool false)) := by
  by_cases h3 : k = 3
  · subst h3; exact ⟨by kernel_rfl, by kernel_rfl⟩
  by_cases h4 : k = 4
  · subst h4; exact ⟨by kernel_rfl, by kernel_rfl⟩
  by_cases h5 : k = 5
  · subst h5; exact ⟨by kernel_rfl, by kernel_rfl⟩
  by_cases h6 : k = 6
  · subst h6; exact ⟨by kernel_rfl, by kernel_rfl⟩
  have hf : mkF k = none := by unfold mkF; simp [h3, h4, h5, h6]
  rw [hf]
  have ne : ∀ m : Int, k ≠ m → (Lit.int .u8 k) ≠ .int .u8 m := fun m hm e => by injection e; contradiction
  unfold mkD
  rw [has_put_other (ne 6 h6), has_put_other (ne 5 h5), has_put_other (ne 4 h4), has_put_other (ne 3 h3), atKey_put_other (ne 6 h6), atKey_put_other (ne 5 h5), atKey_put_other (ne 4 h4), atKey_put_other (ne 3 h3)]
  exact ⟨rfl, rfl⟩
/-- what the makers' map tells of a kind -/
def mkV (k : Int) : Value := match mkF k with | some n => .func (.func n) #[] #[] | none => .nilFunc
def MakersSays (w : World) (e : Ending) (w' : World) : Prop :=
  ∃ G, e = .returned (.map (some G)) ∧ Below w.heap.size w w' ∧ ∀ (W : World), Below w'.heap.size w' W → ∀ k : Int, 0 ≤ k ∧ k ≤ 255 → (Instr.lookup 117 (.map (some G)) (.int .u8 k) true).run Tryz.prog W = .ok (.tuple #[mkV k, .bool (mkF k).isSome]) W
theorem owns_below {P : Program} {k : TypeId} {R : Value → Option (DataW Unit × List MemPlace)} {w W : World} {b n : Nat} {D : DataW Unit} (h : w.ownsMap P k R b n D) (hb : Below w.heap.size w W) : W.ownsMap P k R b n D :=
  h.kept (row := none) ⟨hb.os, hb.tape, hb.output, hb.size, fun j hj _ => hb.block j hj⟩ (by simp)
theorem makers_look {w' : World} {G : Nat} (h : w'.ownsMap Tryz.prog 59 fR G 4 mkD) (W : World) (hb : Below w'.heap.size w' W) (k : Int) (hk : 0 ≤ k ∧ k ≤ 255) :
    (Instr.lookup 117 (.map (some G)) (.int .u8 k) true).run Tryz.prog W = .ok (.tuple #[mkV k, .bool (mkF k).isSome]) W := by
  obtain ⟨v, ps, hrun, hv⟩ := (owns_below h hb).look_ok keyedK Tryz.underlying117 (zeroMk W) (zd := .lit (.bool false)) (zp := []) rfl (keyK k hk)
  obtain ⟨h1, h2⟩ := mkD_at k hk
  rw [h1] at hrun
  rw [h2] at hv
  unfold mkV
  cases hq : mkF k with
  | none =>
    rw [hq] at hv hrun
    rw [fR_nil hv] at hrun
    exact hrun
  | some n =>
    rw [hq] at hv hrun
    rw [fR_inv hv] at hrun
    exact hrun
set_option maxRecDepth 100000 in
set_option maxHeartbeats 1600000 in
theorem makers_any (w : World) : Calls Tryz.prog 64 #[] w (MakersSays w) := by
  have hmm := @run_makeMap Tryz.prog
  have h0 := World.ownsMap_made w Tryz.prog 59 fR
  obtain ⟨W, hW⟩ : ∃ W, W = w.alloc (.map #[] 0) := ⟨_, rfl⟩
  have hb0 : Below w.heap.size w W := hW ▸ (Below.refl _ _).alloc (Nat.le_refl _) _
  have hs0 : W.heap.size = w.heap.size + 1 := by rw [hW]; simp
  rw [← hW] at h0
  have HB := Lib.hid (And.intro hb0 hs0)
  clear hb0 hs0
  go_enter Tryz.func64, Tryz.ntmps64
  go_wp2_with (first | (rw [← hW]; refine wpList_insert_own _ rfl _ _ _ 117 rfl 59 115 keyedK Tryz.underlying117 fR w.heap.size 0 _ rfl h0 (by decide) _ _ (.int .u8 3) rfl rfl (keyK 3 (by decide)) _ [] (fR_fun 109) ?_))
  intro w1 h1 g1
  go_wp2_with (first | (refine wpList_insert_own _ rfl _ _ _ 117 rfl 59 115 keyedK Tryz.underlying117 fR w.heap.size 1 _ rfl h1 (by decide) _ _ (.int .u8 4) rfl rfl (keyK 4 (by decide)) _ [] (fR_fun 110) ?_))
  intro w2 h2 g2
  go_wp2_with (first | (refine wpList_insert_own _ rfl _ _ _ 117 rfl 59 115 keyedK Tryz.underlying117 fR w.heap.size 2 _ rfl h2 (by decide) _ _ (.int .u8 5) rfl rfl (keyK 5 (by decide)) _ [] (fR_fun 111) ?_))
  intro w3 h3 g3
  go_wp2_with (first | (refine wpList_insert_own _ rfl _ _ _ 117 rfl 59 115 keyedK Tryz.underlying117 fR w.heap.size 3 _ rfl h3 (by decide) _ _ (.int .u8 6) rfl rfl (keyK 6 (by decide)) _ [] (fR_fun 112) ?_))
  intro w4 h4 g4
  go_wp2_with fail
  go_ret
  have hbb : ∀ {a b : World}, Below w.heap.size w a → a.grownBy b (some w.heap.size) → Below w.heap.size w b := fun h g => h.grown g h.size fun j hj => by cases hj; exact Nat.le_refl _
  exact ⟨_, rfl, hbb (hbb (hbb (hbb ((Below.refl _ _).alloc (Nat.le_refl _) _) g1) g2) g3) g4, fun W hW k hk => makers_look h4 W hW k hk⟩
end Go.Proofs.YtllpfngmnccejaaGreat
namespace Go.Proofs.YtllpfngmnccejaaGreat
open Go Go.RowKit

/-- what is made of one update: a row, a number, an error -/
abbrev Mk := Up → List Vl × Int × Int
def mkNeg : Mk := fun u => (u.row, fitN (u.d * -1), fitE (u.d * -1))
def mkKeep : Mk := fun u => (u.row, u.d, 0)
def madeP (mk : Mk) (u : Up) : Uk × Int := (⟨[], (mk u).1, u.t⟩, (mk u).2.1)
def okAll (mk : Mk) (l : List Up) : Bool := l.all fun u => (mk u).2.2 == 0
def fitP (l : List (Uk × Int)) : Bool := (asm Uk.cmp l).all fun x => fits x.2
/-- what Do tells -/
def DoSays (mk : Mk) (l : List Up) (w : World) (x : Ending) (w' : World) : Prop :=
  ∃ A c, ∃ outL : List Up, ∃ t : Tm, ∃ E : Int, x = .returned (.tuple #[.slice A outL.length c, .agg #[.int .u64 (t.e : Int), .int .u64 (t.a : Int), .int .u64 (t.b : Int)], .int .i64 E]) ∧ (E = 0 ↔ chkUs l = 0 ∧ okAll mk l = true ∧ fitP (l.map (madeP mk)) = true) ∧
    (E = 0 → outL.map Up.p = nz Uk.cmp (l.map (madeP mk)) ∧ t = ⟨0, 0, 0⟩) ∧ Ups w' w'.heap.size A outL ∧ (∀ u ∈ outL, UOk u) ∧ Below w.heap.size w w' ∧ (∀ b o, A = some ⟨b, o, none⟩ → w.heap.size ≤ b) ∧ (∀ u ∈ outL, Awn (fun b => w.heap.size ≤ b) u) ∧ outL.length ≤ l.length
theorem own_zeroth {w : World} {P : Nat} {t : TypeId} {z0 z1 z2 z3 z4 z5 : Value} (h : Own w P t [z0, z1, z2, z3, z4, z5]) (f : Value) :
    ∃ X, X = w.setCell ⟨P, 0, none⟩ f ∧ Own X P t [f, z1, z2, z3, z4, z5] ∧ (∀ B u, Below B u w → B ≤ P → Below B u X) ∧ X.heap.size = w.heap.size :=
  ⟨_, rfl, h.set_ 0 f, fun B u hb hB => hb.setCell (p := ⟨P, 0, none⟩) hB _, by simp [World.setCell]⟩
def nokey (u : Up) : Up := ⟨none, 0, [], u.rA, u.rc, u.row, u.t, u.d⟩
theorem chk_nokey {u : Up} (h : chkRow u.row = 0) (ht : chk [u.t] = 0) : chkU (nokey u) = 0 := by
  unfold chkU chkK nokey Up.k orI
  dsimp only
  rw [h, ht]
  rfl
theorem pbox (w : World) (k n a r : Int) (A1 A2 A3 A4 : Option Addr) (l1 l2 l3 l4 c1 c2 c3 c4 : Nat) :
    ∃ V, V = (w.alloc (.cells #[.int .u8 k, .int .i64 n, .slice A1 l1 c1, .slice A2 l2 c2, .slice A3 l3 c3, .slice A4 l4 c4, .int .u8 a, .int .i64 r] 64)).alloc (.cells #[.int .u64 0, .int .u64 0, .int .u64 0] 46) ∧
      Below w.heap.size w V ∧ V.heap.size = w.heap.size + 2 ∧ Own V w.heap.size 64 [.int .u8 k, .int .i64 n, .slice A1 l1 c1, .slice A2 l2 c2, .slice A3 l3 c3, .slice A4 l4 c4, .int .u8 a, .int .i64 r] ∧ Own V (w.heap.size + 1) 46 [.int .u64 0, .int .u64 0, .int .u64 0] := by
  obtain ⟨W1, e1, s1, b1, o1⟩ := boxd w [.int .u8 k, .int .i64 n, .slice A1 l1 c1, .slice A2 l2 c2, .slice A3 l3 c3, .slice A4 l4 c4, .int .u8 a, .int .i64 r] 64
  obtain ⟨W2, e2, s2, b2, o2⟩ := boxd W1 [.int .u64 0, .int .u64 0, .int .u64 0] 46
  rw [s1] at o2
  exact ⟨W2, by rw [e2, e1], belows b1 b2, by omega, o1.past b2 o1.inside, o2⟩
theorem prbox (w : World) : ∃ V, V = w.alloc (.cells #[.int .u64 0, .int .u64 0, .int .u64 0, .int .i64 0, .slice none 0 0] 122) ∧ Below w.heap.size w V ∧ V.heap.size = w.heap.size + 1 ∧ Prod V w.heap.size ⟨0, 0, 0⟩ 0 (.slice none 0 0) [] := by
  obtain ⟨W, e1, s1, b1, o1⟩ := boxd w [.int .u64 0, .int .u64 0, .int .u64 0, .int .i64 0, .slice none 0 0] 122
  exact ⟨W, e1, b1, s1, ⟨⟨_, o1⟩, World.ownsRow_nil _ _ _ _, fun u hu => (by cases hu), fun _ => rfl⟩⟩
set_option maxRecDepth 100000 in
set_option maxHeartbeats 16000000 in
theorem do_negated (n a r : Int) (A1 A2 A3 A4 : Option Addr) (l1 l2 l3 l4 c1 c2 c3 c4 : Nat) (A : Option Addr) (c : Nat) (l : List Up) (w : World) (hl : Ups w w.heap.size A l) (hok : ∀ u ∈ l, UOk u) (hn : l.length ≤ 1099511627776) :
    Calls Tryz.prog 23 #[.agg #[.int .u8 6, .int .i64 n, .slice A1 l1 c1, .slice A2 l2 c2, .slice A3 l3 c3, .slice A4 l4 c4, .int .u8 a, .int .i64 r], .slice A l.length c] w (DoSays mkNeg l w) := by
  obtain ⟨V, hV, hvb, hvs, hvp, hvt⟩ := pbox w 6 n a r A1 A2 A3 A4 l1 l2 l3 l4 c1 c2 c3 c4
  have hck := dcheck_any A c l V (hl.keep hvb) (by omega) hok
  obtain ⟨K, hK⟩ : ∃ K, chkUs l = K := ⟨_, rfl⟩
  rw [hK] at hck
  have Hck := Lib.hid hck
  have HL := Lib.hid (And.intro hl (And.intro hok hK))
  have HV := Lib.hid (And.intro hvb (And.intro hvp (And.intro hvt hvs)))
  clear hl hok hK hck hvb hvp hvt hvs
  go_enter Tryz.func23, Tryz.ntmps23
  go_upto_region 1 with fail
  rw [← hV]
  clear hV
  go_wp2_with fail
  refine Hck.out.mono ?_
  rintro _ w1 ⟨rfl, b1⟩
  have H1 := Lib.hid (And.intro (belows HV.out.1 b1) (And.intro (HV.out.2.1.past b1 HV.out.2.1.inside) (And.intro (HV.out.2.2.1.past b1 HV.out.2.2.1.inside) (show w.heap.size + 2 ≤ w1.heap.size by have := HV.out.2.2.2; have := b1.size; omega))))
  clear b1 Hck
  by_cases hK0 : K = 0
  case neg =>
    have t1 : (K != 0) = true := bne_iff_ne.2 hK0
    obtain ⟨X, hX, hXo, hXk, hXs⟩ := own_three H1.out.2.2.1 (.int .u64 0) (.int .u64 0) (.int .u64 0)
    have hbX : Below w.heap.size w X := H1.out.1.trans (hXk.below (by have := H1.out.2.2.2; omega) (Nat.le_succ _) (fun k e => by simp [Value.ownBlock] at e))
    obtain ⟨z0, z1, z2⟩ : w1.cell? ⟨w.heap.size + 1, 0, none⟩ = some (.int .u64 0) ∧ w1.cell? ⟨w.heap.size + 1, 1, none⟩ = some (.int .u64 0) ∧ w1.cell? ⟨w.heap.size + 1, 2, none⟩ = some (.int .u64 0) := ⟨H1.out.2.2.1.at_ 0, H1.out.2.2.1.at_ 1, H1.out.2.2.1.at_ 2⟩
    have f0 := H1.out.2.2.1.open_ 0
    have f1 := H1.out.2.2.1.open_ 1
    have f2 := H1.out.2.2.1.open_ 2
    obtain ⟨x0, x1, x2⟩ : X.cell? ⟨w.heap.size + 1, 0, none⟩ = some (.int .u64 0) ∧ X.cell? ⟨w.heap.size + 1, 1, none⟩ = some (.int .u64 0) ∧ X.cell? ⟨w.heap.size + 1, 2, none⟩ = some (.int .u64 0) := ⟨hXo.at_ 0, hXo.at_ 1, hXo.at_ 2⟩
    have HB := Lib.hid hbX
    have HK0 := Lib.hid hK0
    clear hXo hXk hXs hbX hK0
    go_wp2_with fail
    rw [← hX]
    clear hX
    exact bodyPost_ret (v := .tuple #[.slice none 0 0, .agg #[.int .u64 0, .int .u64 0, .int .u64 0], .int .i64 K]) (by simp [results, Tryz.results23, go_sem, x0, x1, x2]) rfl
      ⟨none, 0, [], ⟨0, 0, 0⟩, K, rfl, ⟨fun e => absurd e HK0.out, fun e => absurd (HL.out.2.2.symm.trans e.1) HK0.out⟩, fun e => absurd e HK0.out, ⟨Lies.nil_, fun u hu => (by cases hu)⟩, fun u hu => (by cases hu), HB.out, fun b o e => (by cases e), fun u hu => (by cases hu), Nat.zero_le _⟩
  subst hK0
  have hchk := chkUs_all.1 HL.out.2.2
  have HC := Lib.hid hchk
  obtain ⟨p0, p1, p2, p3, p4, p5, p6, p7⟩ : w1.cell? ⟨w.heap.size, 0, none⟩ = some (.int .u8 6) ∧ w1.cell? ⟨w.heap.size, 1, none⟩ = some (.int .i64 n) ∧ w1.cell? ⟨w.heap.size, 2, none⟩ = some (.slice A1 l1 c1) ∧ w1.cell? ⟨w.heap.size, 3, none⟩ = some (.slice A2 l2 c2) ∧ w1.cell? ⟨w.heap.size, 4, none⟩ = some (.slice A3 l3 c3) ∧ w1.cell? ⟨w.heap.size, 5, none⟩ = some (.slice A4 l4 c4) ∧ w1.cell? ⟨w.heap.size, 6, none⟩ = some (.int .u8 a) ∧ w1.cell? ⟨w.heap.size, 7, none⟩ = some (.int .i64 r) :=
    ⟨H1.out.2.1.at_ 0, H1.out.2.1.at_ 1, H1.out.2.1.at_ 2, H1.out.2.1.at_ 3, H1.out.2.1.at_ 4, H1.out.2.1.at_ 5, H1.out.2.1.at_ 6, H1.out.2.1.at_ 7⟩
  have hmk := fun W => Lib.hid (makers_any W)
  unfold MakersSays at hmk
  clear hchk
  go_upto_region 4 with fail
  have hself : Bl w1 w1 := Bl.refl _
  have HP := Lib.hid (fun W (h : Bl w1 W) => (H1.out.2.1.past h H1.out.2.1.inside).at_ 0)
  simp only [List.getElem?_cons_zero] at HP
  go_region_held3 (fun w' => Bl w1 w' ∧ (w'.cell? ⟨w.heap.size, 0, none⟩ = some (.int .u8 6)))
    ((refine (fun h => And.intro h (HP.out _ h)) ?_; repeat (first | with_reducible exact hb2 | with_reducible exact hself | with_reducible refine Bl.more ?_ _ | with_reducible refine Bl.drew ?_)))
    (first | (go_at_call 64; refine (hmk _).out.mono ?_; rintro _ w2 ⟨G, rfl, b2, hlook⟩; have hb2 : Bl w1 w2 := Bl.call (by repeat (first | with_reducible exact hself | with_reducible refine Bl.more ?_ _ | with_reducible refine Bl.drew ?_)) b2; have hlk := hlook w2 (Below.refl _ _) 6 (by decide); rw [show mkV 6 = .func (.func 112) #[] #[] from rfl, show (mkF 6).isSome = true from rfl] at hlk))
  clear hlook b2 hmk hlk p0 p1 p2 p3 p4 p5 p6 p7
  obtain ⟨V2, hV2, hb3, hs3, hpr⟩ := prbox w2
  have H2 := Lib.hid (And.intro (H1.out.1.trans (hb2.below.mono (Nat.le_trans (by have := H1.out.2.2.2; omega) (Nat.le_refl _)))) (And.intro (H1.out.2.1.past hb2 H1.out.2.1.inside) (And.intro (H1.out.2.2.1.past hb2 H1.out.2.2.1.inside) (show w.heap.size + 2 ≤ w2.heap.size from Nat.le_trans H1.out.2.2.2 hb2.size))))
  have HR := Lib.hid (And.intro hb3 (And.intro hs3 hpr))
  clear hb2 hb3 hs3 hpr hself
  go_upto_region 8 with fail
  rw [← hV2]
  clear hV2
  go_wp2_with fail
  go_loopw [33] (fun v33 wr => ∃ (j : Nat) (t' : Tm) (why' : Int) (v : Value) (M : List Up), v33 = .int .i64 (j : Int) ∧ j ≤ l.length ∧ Prod wr w2.heap.size t' why' v M ∧ Below w2.heap.size w2 wr ∧ (why' = 0 ∨ why' = 10) ∧ (why' = 0 ↔ okAll mkNeg (l.take j) = true) ∧ (okAll mkNeg (l.take j) = true → M.map Up.p = (l.take j).map (madeP mkNeg)) ∧ (∀ u ∈ M, chkU u = 0) ∧ M.length ≤ j)
    (fun v33 _ => l.length - (intOf v33).toNat)
  case atStart => exact ⟨0, ⟨0, 0, 0⟩, 0, .slice none 0 0, [], rfl, Nat.zero_le _, HR.out.2.2, HR.out.1, .inl rfl, ⟨fun _ => rfl, fun _ => rfl⟩, fun _ => rfl, fun u hu => (by cases hu), Nat.le_refl _⟩
  case round =>
    obtain ⟨j, t', why', v, M, rfl, hj, hpr, hbw, hwy, hwf, hmap, hcm, hlen⟩ := hrel
    obtain ⟨wi, hwi⟩ : ∃ wi, wi = wr := ⟨_, rfl⟩
    subst hwi
    have HO := Lib.hid (And.intro hpr (And.intro hbw (And.intro hwy (And.intro hwf (And.intro hmap (And.intro hcm hlen))))))
    clear hpr hbw hwy hwf hmap hcm hlen
    by_cases hlt : j < l.length
    · have hy : l[j]? = some l[j] := List.getElem?_eq_getElem hlt
      have hym := List.mem_of_getElem? hy
      generalize l[j] = u at *
      obtain ⟨b, o, rfl, hB, hys⟩ := lies_up HL.out.1.head (by omega)
      have hbwi : Below w.heap.size w wi := H2.out.1.trans (HO.out.2.1.mono (by have := H2.out.2.2.2; omega))
      obtain ⟨e0, e1, e2, e3, e4, e5⟩ := ((hys j u hy).past_ hbwi hB).six
      obtain ⟨V3, hV3, hb3, hs3, ho3⟩ := upbox wi u
      have hin : UIn w w.heap.size u := HL.out.1.each_ u hym
      have hoku : UOk u := HL.out.2.1 u hym
      have hchu : chkU u = 0 := HC.out u hym
      have hbV : Below wi.heap.size wi V3 := hb3
      have hpl : Own V3 w.heap.size 64 [.int .u8 6, .int .i64 n, .slice A1 l1 c1, .slice A2 l2 c2, .slice A3 l3 c3, .slice A4 l4 c4, .int .u8 a, .int .i64 r] := (H2.out.2.1.past HO.out.2.1 (by have := H2.out.2.2.2; omega)).past hb3 (by have := HO.out.2.1.size; have := H2.out.2.2.2; omega)
      have hinV : UIn V3 V3.heap.size u := ((hin.past hbwi (Nat.le_refl _)).wide hbwi.size).keep hb3
      have Hmade := Lib.hid (negated_any 6 n a r A1 A2 A3 A4 l1 l2 l3 l4 c1 c2 c3 c4 u V3 hinV hoku)
      have htk : l.take (j + 1) = l.take j ++ [u] := by rw [List.take_add_one, hy]; rfl
      rw [show u.val = .agg #[.slice u.kA u.key.length u.kc, .slice u.rA u.row.length u.rc, .int .u64 (u.t.e : Int), .int .u64 (u.t.a : Int), .int .u64 (u.t.b : Int), .int .i64 u.d] from rfl] at Hmade
      obtain ⟨E, hE⟩ : ∃ E, (mkNeg u).2.2 = E := ⟨_, rfl⟩
      obtain ⟨R, hR⟩ : ∃ R, (mkNeg u).1 = R := ⟨_, rfl⟩
      obtain ⟨D, hD⟩ : ∃ D, (mkNeg u).2.1 = D := ⟨_, rfl⟩
      have Hmade : Hid (Calls Tryz.prog 112 #[.agg #[.int .u8 6, .int .i64 n, .slice A1 l1 c1, .slice A2 l2 c2, .slice A3 l3 c3, .slice A4 l4 c4, .int .u8 a, .int .i64 r], .agg #[.slice u.kA u.key.length u.kc, .slice u.rA u.row.length u.rc, .int .u64 (u.t.e : Int), .int .u64 (u.t.a : Int), .int .u64 (u.t.b : Int), .int .i64 u.d]] V3 (MadeSays u R D E V3)) := by
        rw [← hE, ← hR, ← hD]
        exact Hmade
      unfold MadeSays at Hmade
      have hrow : E = 0 → chkRow R = 0 := fun _ => by
        rw [← hR]
        exact (chkK_zero hchu).2.1
      have HM := Lib.hid (And.intro hE (And.intro hR (And.intro hD (And.intro hrow (And.intro hchu (And.intro htk hin))))))
      have H3 := Lib.hid (And.intro hb3 (And.intro hs3 ho3))
      obtain ⟨p0, p1, p2, p3, p4, p5, p6, p7⟩ : V3.cell? ⟨w.heap.size, 0, none⟩ = some (.int .u8 6) ∧ V3.cell? ⟨w.heap.size, 1, none⟩ = some (.int .i64 n) ∧ V3.cell? ⟨w.heap.size, 2, none⟩ = some (.slice A1 l1 c1) ∧ V3.cell? ⟨w.heap.size, 3, none⟩ = some (.slice A2 l2 c2) ∧ V3.cell? ⟨w.heap.size, 4, none⟩ = some (.slice A3 l3 c3) ∧ V3.cell? ⟨w.heap.size, 5, none⟩ = some (.slice A4 l4 c4) ∧ V3.cell? ⟨w.heap.size, 6, none⟩ = some (.int .u8 a) ∧ V3.cell? ⟨w.heap.size, 7, none⟩ = some (.int .i64 r) :=
        ⟨hpl.at_ 0, hpl.at_ 1, hpl.at_ 2, hpl.at_ 3, hpl.at_ 4, hpl.at_ 5, hpl.at_ 6, hpl.at_ 7⟩
      have q3 : (0 : Int) ≤ (j : Int) := by omega
      have q4 : (j : Int) < (l.length : Int) := by omega
      have q5 : decide ((j : Int) < (l.length : Int)) = true := decide_eq_true q4
      clear hy hym hys hin hoku hchu hbV hpl hinV htk hE hR hD hrow hb3 hs3 hbwi
      go_upto_region 11 with fail
      rw [← hV3]
      clear hV3 e0 e1 e2 e3 e4 e5
      obtain ⟨e0, e1, e2, e3, e4, e5⟩ := own6 ho3
      clear ho3
      go_wp2_with fail
      refine Hmade.out.mono ?_
      rintro _ w4 ⟨u', rfl, hr', ht', hd', hin', hok', hQ, b4⟩
      rw [show u'.val = .agg #[.slice u'.kA u'.key.length u'.kc, .slice u'.rA u'.row.length u'.rc, .int .u64 (u'.t.e : Int), .int .u64 (u'.t.a : Int), .int .u64 (u'.t.b : Int), .int .i64 u'.d] from rfl]
      obtain ⟨V5, hV5, hb5, hs5, ho5⟩ := upbox w4 u'
      obtain ⟨X, hX, hXo, hXb, hXs⟩ := own_zeroth ho5 (.slice none 0 0)
      have z0 := (own6 ho5).1
      have k0 := (own_frozen6 ho5).1
      have hbX : Below wi.heap.size wi X := hXb _ _ (belows (belows H3.out.1 b4) hb5) (Nat.le_trans (belows H3.out.1 b4).size (Nat.le_refl _))
      have hb4X : Below w4.heap.size w4 X := hXb _ _ hb5 (Nat.le_refl _)
      have hprX := HO.out.1.quiet hbX
      have huX : UIn X X.heap.size (nokey u') := ⟨Vals.nil_, (hin'.keep hb4X).row⟩
      have hokX : UOk (nokey u') := ⟨Nat.zero_le _, hok'.rn, fun v hv => (by cases hv), hok'.rs, hok'.dn⟩
      have hPBi : w2.heap.size < wi.heap.size := HO.out.1.own.inside
      have haX : Aw w2.heap.size v (nokey u') := by
        have hq := hQ (fun b => b ≠ w2.heap.size ∧ v.ownBlock ≠ some b) (fun b hb => ⟨by have := H3.out.1.size; omega, fun e => by have := (HO.out.1.later b e).2; have := H3.out.1.size; omega⟩)
          ((awn_lt HM.out.2.2.2.2.2.2).imp fun b hb => ⟨by have := H2.out.2.2.2; omega, fun e => by have := (HO.out.1.later b e).1; have := H2.out.2.2.2; omega⟩)
        exact ⟨fun hp => absurd hp (by show ¬ 0 < 0; omega), hq.2⟩
      have Hpr := Lib.hid (produce_any w2.heap.size t' why' v M (nokey u') E X hprX HO.out.2.2.1 huX hokX haX (by have := HO.out.2.2.2.2.2.2; omega))
      unfold ProdSays at Hpr
      have Hpr : Hid (Calls Tryz.prog 65 #[.pointer (some ⟨w2.heap.size, 0, none⟩), .agg #[.slice none 0 0, .slice u'.rA u'.row.length u'.rc, .int .u64 (u'.t.e : Int), .int .u64 (u'.t.a : Int), .int .u64 (u'.t.b : Int), .int .i64 u'.d], .int .i64 E] X fun e w' => e = .returned (.tuple #[]) ∧ ∃ t'' v', Prod w' w2.heap.size t'' (if E = 0 then why' else 10) v' (if E = 0 then M ++ [nokey u'] else M) ∧ PKeep X w' w2.heap.size v ∧ Grew X v v') := Hpr
      have H5 := Lib.hid (And.intro hbX (And.intro hr' (And.intro ht' (And.intro hd' (And.intro hPBi hprX)))))
      obtain ⟨y0, y1, y2, y3, y4, y5⟩ := own6 hXo
      clear hr' ht' hd' hin' hok' hQ b4 hb5 hs5 hXo hXb hXs hbX hb4X hprX huX hokX hPBi haX e0 e1 e2 e3 e4 e5 p0 p1 p2 p3 p4 p5 p6 p7 Hmade
      go_upto_region 12 with fail
      rw [← hV5]
      clear hV5
      go_upto_region 13 with fail
      rw [← hX]
      clear hX z0 k0 ho5
      go_wp2_with fail
      refine Hpr.out.mono ?_
      rintro _ w6 ⟨rfl, t6, v6, hp6, hk6, hg6⟩
      have H6 := Lib.hid (And.intro hp6 hk6)
      clear hp6 hk6 hg6 Hpr y0 y1 y2 y3 y4 y5
      go_wp2_with fail
      go_roundw
      case rel =>
        obtain ⟨g1, g2⟩ := H6.out
        obtain ⟨m1, m2, m3, m4, m5, m6, m7⟩ := HM.out
        obtain ⟨n1, n2, n3, n4, n5, n6⟩ := H5.out
        obtain ⟨o1, o2, o3, o4, o5, o6, o7⟩ := HO.out
        have hb6 : Below w2.heap.size w2 w6 := o2.trans ((n1.mono (Nat.le_of_lt n5)).trans (g2.below (Nat.le_of_lt n6.own.inside) (Nat.le_refl _) fun k e => Nat.le_of_succ_le (n6.later k e).1))
        have hoks : okAll mkNeg (l.take (j + 1)) = (okAll mkNeg (l.take j) && (E == 0)) := by
          rw [m6]
          unfold okAll
          rw [List.all_append]
          simp [m1]
        by_cases hE0 : E = 0
        · rw [if_pos hE0, if_pos hE0] at g1
          refine ⟨j + 1, t6, why', v6, M ++ [nokey u'], by go_num, by omega, g1, hb6, o3, ?_, fun hf => ?_, fun y hy => ?_, by rw [List.length_append, List.length_singleton]; omega⟩
          · rw [hoks, hE0]
            simpa using o4
          · rw [hoks, hE0] at hf
            have hf' : okAll mkNeg (l.take j) = true := by simpa using hf
            rw [List.map_append, o5 hf', m6, List.map_append]
            congr 1
            rw [List.map_cons, List.map_cons, List.map_nil, List.map_nil]
            unfold madeP
            rw [m2, m3, ← n2, ← n4, ← n3]
            rfl
          · rcases List.mem_append.1 hy with hy | hy
            · exact o6 y hy
            · obtain rfl : y = nokey u' := by simpa using hy
              exact chk_nokey (by rw [n2]; exact m4 hE0) (by rw [n3]; exact (chkK_zero m5).2.2)
        · rw [if_neg hE0, if_neg hE0] at g1
          have hff : okAll mkNeg (l.take (j + 1)) = false := by
            rw [hoks]
            have : (E == 0) = false := by simpa using hE0
            rw [this, Bool.and_false]
          refine ⟨j + 1, t6, 10, v6, M, by go_num, by omega, g1, hb6, .inr rfl, ?_, fun hf => ?_, o6, by omega⟩
          · rw [hff]
            exact ⟨fun e => absurd e (by decide), fun e => absurd e (by decide)⟩
          · rw [hff] at hf
            cases hf
      case measure => simp [intOf]; omega
    · have hj2 : j = l.length := by omega
      have Hend := Lib.hid (end_any w2.heap.size t' why' v M wi HO.out.1 HO.out.2.2.1 HO.out.2.2.2.2.2.1 (by have := HO.out.2.2.2.2.2.2; omega))
      unfold EndSays at Hend
      have hRP : w.heap.size + 1 ≠ w2.heap.size := by have := H2.out.2.2.2; omega
      have hRB : Own wi (w.heap.size + 1) 46 [.int .u64 0, .int .u64 0, .int .u64 0] := H2.out.2.2.1.past HO.out.2.1 (by have := H2.out.2.2.2; omega)
      have HRB := Lib.hid hRB
      have HJ2 := Lib.hid hj2
      have q5 : decide ((j : Int) < (l.length : Int)) = false := decide_eq_false (by omega)
      clear hRB hj2
      go_wp2_with fail
      refine Hend.out.mono ?_
      rintro _ w7 ⟨A7, c7, outL, t7, E, rfl, hE7, hEi, hEo, hu7, hok7, hk7, hA7, hlo7, hln7⟩
      have hvne : ∀ b, v.ownBlock = some b → w2.heap.size + 1 ≤ b := fun b e => (HO.out.1.later b e).1
      have hR7 : Own w7 (w.heap.size + 1) 46 [.int .u64 0, .int .u64 0, .int .u64 0] := (hk7.block _ HRB.out.inside hRP (fun e => by have := hvne _ e; have := H2.out.2.2.2; omega)).trans HRB.out
      obtain ⟨X, hX, hXo, hXk, hXs⟩ := own_three hR7 (.int .u64 (t7.e : Int)) (.int .u64 (t7.a : Int)) (.int .u64 (t7.b : Int))
      obtain ⟨z0, z1, z2⟩ : w7.cell? ⟨w.heap.size + 1, 0, none⟩ = some (.int .u64 0) ∧ w7.cell? ⟨w.heap.size + 1, 1, none⟩ = some (.int .u64 0) ∧ w7.cell? ⟨w.heap.size + 1, 2, none⟩ = some (.int .u64 0) := ⟨hR7.at_ 0, hR7.at_ 1, hR7.at_ 2⟩
      have f0 := hR7.open_ 0
      have f1 := hR7.open_ 1
      have f2 := hR7.open_ 2
      obtain ⟨x0, x1, x2⟩ : X.cell? ⟨w.heap.size + 1, 0, none⟩ = some (.int .u64 (t7.e : Int)) ∧ X.cell? ⟨w.heap.size + 1, 1, none⟩ = some (.int .u64 (t7.a : Int)) ∧ X.cell? ⟨w.heap.size + 1, 2, none⟩ = some (.int .u64 (t7.b : Int)) := ⟨hXo.at_ 0, hXo.at_ 1, hXo.at_ 2⟩
      have hszi : w.heap.size + 2 ≤ wi.heap.size := Nat.le_trans H2.out.2.2.2 HO.out.2.1.size
      have huX : Ups X X.heap.size A7 outL := ⟨lies_pk hu7.head hXk fun _ b o e => ⟨by have := hA7 b o e; omega, by simp [Value.ownBlock]⟩, fun u hu => uin_pk (hu7.each_ u hu) ((hlo7 u hu).imp fun b hb => ⟨by omega, by simp [Value.ownBlock]⟩) hXk⟩
      have hb7 : Below w.heap.size w X := (H2.out.1.trans (HO.out.2.1.mono (by have := H2.out.2.2.2; omega))).trans ((hk7.below (by omega) (by have := H2.out.2.2.2; omega) fun b e => by have := hvne b e; have := H2.out.2.2.2; omega).trans (hXk.below (by have := hk7.size; omega) (Nat.le_succ _) fun b e => by simp [Value.ownBlock] at e))
      have HF := Lib.hid (And.intro huX (And.intro hb7 (And.intro hok7 (And.intro (fun b o e => by have := hA7 b o e; omega : ∀ b o, A7 = some ⟨b, o, none⟩ → w.heap.size ≤ b) (fun u hu => (hlo7 u hu).imp fun b hb => by omega : ∀ u ∈ outL, Awn (fun b => w.heap.size ≤ b) u)))))
      have HLn := Lib.hid (show outL.length ≤ l.length by have := HO.out.2.2.2.2.2.2; have := HJ2.out; omega)
      have HE := Lib.hid (And.intro hE7 (And.intro hEi hEo))
      clear hE7 hEi hEo hu7 hok7 hk7 hA7 hlo7 hln7 hvne hR7 hXo hXk hXs hszi huX hb7 Hend
      go_wp2_with fail
      rw [← hX]
      clear hX
      have htl : l.take j = l := by rw [HJ2.out, List.take_length]
      have hmm : okAll mkNeg l = true → M.map Up.p = l.map (madeP mkNeg) := by
        have := HO.out.2.2.2.2.1
        rwa [htl] at this
      have hwf : why' = 0 ↔ okAll mkNeg l = true := by
        have := HO.out.2.2.2.1
        rwa [htl] at this
      have hfu : okAll mkNeg l = true → fitU M = fitP (l.map (madeP mkNeg)) := fun h => by unfold fitU fitP; rw [hmm h]
      exact bodyPost_ret (v := .tuple #[.slice A7 outL.length c7, .agg #[.int .u64 (t7.e : Int), .int .u64 (t7.a : Int), .int .u64 (t7.b : Int)], .int .i64 E]) (by simp [results, Tryz.results23, go_sem, x0, x1, x2]) rfl
        ⟨A7, c7, outL, t7, E, rfl, ⟨fun e => by
          obtain ⟨h1, h2⟩ := HE.out.2.1.1 e
          have h3 := hwf.1 h1
          exact ⟨HL.out.2.2, h3, by rw [← hfu h3]; exact h2⟩, fun e => HE.out.2.1.2 ⟨hwf.2 e.2.1, by rw [hfu e.2.1]; exact e.2.2⟩⟩, fun e => by
          obtain ⟨h1, h2⟩ := HE.out.2.1.1 e
          have h3 := HE.out.2.2 e
          rw [hmm (hwf.1 h1)] at h3
          exact h3, HF.out.1, HF.out.2.2.1, HF.out.2.1, HF.out.2.2.2.1, HF.out.2.2.2.2, HLn.out⟩

set_option maxRecDepth 100000 in
set_option maxHeartbeats 16000000 in
theorem do_kept (n a r : Int) (A1 A2 A3 A4 : Option Addr) (l1 l2 l3 l4 c1 c2 c3 c4 : Nat) (A : Option Addr) (c : Nat) (l : List Up) (w : World) (hl : Ups w w.heap.size A l) (hok : ∀ u ∈ l, UOk u) (hn : l.length ≤ 1099511627776) :
    Calls Tryz.prog 23 #[.agg #[.int .u8 5, .int .i64 n, .slice A1 l1 c1, .slice A2 l2 c2, .slice A3 l3 c3, .slice A4 l4 c4, .int .u8 a, .int .i64 r], .slice A l.length c] w (DoSays mkKeep l w) := by
  obtain ⟨V, hV, hvb, hvs, hvp, hvt⟩ := pbox w 5 n a r A1 A2 A3 A4 l1 l2 l3 l4 c1 c2 c3 c4
  have hck := dcheck_any A c l V (hl.keep hvb) (by omega) hok
  obtain ⟨K, hK⟩ : ∃ K, chkUs l = K := ⟨_, rfl⟩
  rw [hK] at hck
  have Hck := Lib.hid hck
  have HL := Lib.hid (And.intro hl (And.intro hok hK))
  have HV := Lib.hid (And.intro hvb (And.intro hvp (And.intro hvt hvs)))
  clear hl hok hK hck hvb hvp hvt hvs
  go_enter Tryz.func23, Tryz.ntmps23
  go_upto_region 1 with fail
  rw [← hV]
  clear hV
  go_wp2_with fail
  refine Hck.out.mono ?_
  rintro _ w1 ⟨rfl, b1⟩
  have H1 := Lib.hid (And.intro (belows HV.out.1 b1) (And.intro (HV.out.2.1.past b1 HV.out.2.1.inside) (And.intro (HV.out.2.2.1.past b1 HV.out.2.2.1.inside) (show w.heap.size + 2 ≤ w1.heap.size by have := HV.out.2.2.2; have := b1.size; omega))))
  clear b1 Hck
  by_cases hK0 : K = 0
  case neg =>
    have t1 : (K != 0) = true := bne_iff_ne.2 hK0
    obtain ⟨X, hX, hXo, hXk, hXs⟩ := own_three H1.out.2.2.1 (.int .u64 0) (.int .u64 0) (.int .u64 0)
    have hbX : Below w.heap.size w X := H1.out.1.trans (hXk.below (by have := H1.out.2.2.2; omega) (Nat.le_succ _) (fun k e => by simp [Value.ownBlock] at e))
    obtain ⟨z0, z1, z2⟩ : w1.cell? ⟨w.heap.size + 1, 0, none⟩ = some (.int .u64 0) ∧ w1.cell? ⟨w.heap.size + 1, 1, none⟩ = some (.int .u64 0) ∧ w1.cell? ⟨w.heap.size + 1, 2, none⟩ = some (.int .u64 0) := ⟨H1.out.2.2.1.at_ 0, H1.out.2.2.1.at_ 1, H1.out.2.2.1.at_ 2⟩
    have f0 := H1.out.2.2.1.open_ 0
    have f1 := H1.out.2.2.1.open_ 1
    have f2 := H1.out.2.2.1.open_ 2
    obtain ⟨x0, x1, x2⟩ : X.cell? ⟨w.heap.size + 1, 0, none⟩ = some (.int .u64 0) ∧ X.cell? ⟨w.heap.size + 1, 1, none⟩ = some (.int .u64 0) ∧ X.cell? ⟨w.heap.size + 1, 2, none⟩ = some (.int .u64 0) := ⟨hXo.at_ 0, hXo.at_ 1, hXo.at_ 2⟩
    have HB := Lib.hid hbX
    have HK0 := Lib.hid hK0
    clear hXo hXk hXs hbX hK0
    go_wp2_with fail
    rw [← hX]
    clear hX
    exact bodyPost_ret (v := .tuple #[.slice none 0 0, .agg #[.int .u64 0, .int .u64 0, .int .u64 0], .int .i64 K]) (by simp [results, Tryz.results23, go_sem, x0, x1, x2]) rfl
      ⟨none, 0, [], ⟨0, 0, 0⟩, K, rfl, ⟨fun e => absurd e HK0.out, fun e => absurd (HL.out.2.2.symm.trans e.1) HK0.out⟩, fun e => absurd e HK0.out, ⟨Lies.nil_, fun u hu => (by cases hu)⟩, fun u hu => (by cases hu), HB.out, fun b o e => (by cases e), fun u hu => (by cases hu), Nat.zero_le _⟩
  subst hK0
  have hchk := chkUs_all.1 HL.out.2.2
  have HC := Lib.hid hchk
  obtain ⟨p0, p1, p2, p3, p4, p5, p6, p7⟩ : w1.cell? ⟨w.heap.size, 0, none⟩ = some (.int .u8 5) ∧ w1.cell? ⟨w.heap.size, 1, none⟩ = some (.int .i64 n) ∧ w1.cell? ⟨w.heap.size, 2, none⟩ = some (.slice A1 l1 c1) ∧ w1.cell? ⟨w.heap.size, 3, none⟩ = some (.slice A2 l2 c2) ∧ w1.cell? ⟨w.heap.size, 4, none⟩ = some (.slice A3 l3 c3) ∧ w1.cell? ⟨w.heap.size, 5, none⟩ = some (.slice A4 l4 c4) ∧ w1.cell? ⟨w.heap.size, 6, none⟩ = some (.int .u8 a) ∧ w1.cell? ⟨w.heap.size, 7, none⟩ = some (.int .i64 r) :=
    ⟨H1.out.2.1.at_ 0, H1.out.2.1.at_ 1, H1.out.2.1.at_ 2, H1.out.2.1.at_ 3, H1.out.2.1.at_ 4, H1.out.2.1.at_ 5, H1.out.2.1.at_ 6, H1.out.2.1.at_ 7⟩
  have hmk := fun W => Lib.hid (makers_any W)
  unfold MakersSays at hmk
  clear hchk
  go_upto_region 4 with fail
  have hself : Bl w1 w1 := Bl.refl _
  have HP := Lib.hid (fun W (h : Bl w1 W) => (H1.out.2.1.past h H1.out.2.1.inside).at_ 0)
  simp only [List.getElem?_cons_zero] at HP
  go_region_held3 (fun w' => Bl w1 w' ∧ (w'.cell? ⟨w.heap.size, 0, none⟩ = some (.int .u8 5)))
    ((refine (fun h => And.intro h (HP.out _ h)) ?_; repeat (first | with_reducible exact hb2 | with_reducible exact hself | with_reducible refine Bl.more ?_ _ | with_reducible refine Bl.drew ?_)))
    (first | (go_at_call 64; refine (hmk _).out.mono ?_; rintro _ w2 ⟨G, rfl, b2, hlook⟩; have hb2 : Bl w1 w2 := Bl.call (by repeat (first | with_reducible exact hself | with_reducible refine Bl.more ?_ _ | with_reducible refine Bl.drew ?_)) b2; have hlk := hlook w2 (Below.refl _ _) 5 (by decide); rw [show mkV 5 = .func (.func 111) #[] #[] from rfl, show (mkF 5).isSome = true from rfl] at hlk))
  clear hlook b2 hmk hlk p0 p1 p2 p3 p4 p5 p6 p7
  obtain ⟨V2, hV2, hb3, hs3, hpr⟩ := prbox w2
  have H2 := Lib.hid (And.intro (H1.out.1.trans (hb2.below.mono (Nat.le_trans (by have := H1.out.2.2.2; omega) (Nat.le_refl _)))) (And.intro (H1.out.2.1.past hb2 H1.out.2.1.inside) (And.intro (H1.out.2.2.1.past hb2 H1.out.2.2.1.inside) (show w.heap.size + 2 ≤ w2.heap.size from Nat.le_trans H1.out.2.2.2 hb2.size))))
  have HR := Lib.hid (And.intro hb3 (And.intro hs3 hpr))
  clear hb2 hb3 hs3 hpr hself
  go_upto_region 8 with fail
  rw [← hV2]
  clear hV2
  go_wp2_with fail
  go_loopw [33] (fun v33 wr => ∃ (j : Nat) (t' : Tm) (why' : Int) (v : Value) (M : List Up), v33 = .int .i64 (j : Int) ∧ j ≤ l.length ∧ Prod wr w2.heap.size t' why' v M ∧ Below w2.heap.size w2 wr ∧ (why' = 0 ∨ why' = 10) ∧ (why' = 0 ↔ okAll mkKeep (l.take j) = true) ∧ (okAll mkKeep (l.take j) = true → M.map Up.p = (l.take j).map (madeP mkKeep)) ∧ (∀ u ∈ M, chkU u = 0) ∧ M.length ≤ j)
    (fun v33 _ => l.length - (intOf v33).toNat)
  case atStart => exact ⟨0, ⟨0, 0, 0⟩, 0, .slice none 0 0, [], rfl, Nat.zero_le _, HR.out.2.2, HR.out.1, .inl rfl, ⟨fun _ => rfl, fun _ => rfl⟩, fun _ => rfl, fun u hu => (by cases hu), Nat.le_refl _⟩
  case round =>
    obtain ⟨j, t', why', v, M, rfl, hj, hpr, hbw, hwy, hwf, hmap, hcm, hlen⟩ := hrel
    obtain ⟨wi, hwi⟩ : ∃ wi, wi = wr := ⟨_, rfl⟩
    subst hwi
    have HO := Lib.hid (And.intro hpr (And.intro hbw (And.intro hwy (And.intro hwf (And.intro hmap (And.intro hcm hlen))))))
    clear hpr hbw hwy hwf hmap hcm hlen
    by_cases hlt : j < l.length
    · have hy : l[j]? = some l[j] := List.getElem?_eq_getElem hlt
      have hym := List.mem_of_getElem? hy
      generalize l[j] = u at *
      obtain ⟨b, o, rfl, hB, hys⟩ := lies_up HL.out.1.head (by omega)
      have hbwi : Below w.heap.size w wi := H2.out.1.trans (HO.out.2.1.mono (by have := H2.out.2.2.2; omega))
      obtain ⟨e0, e1, e2, e3, e4, e5⟩ := ((hys j u hy).past_ hbwi hB).six
      obtain ⟨V3, hV3, hb3, hs3, ho3⟩ := upbox wi u
      have hin : UIn w w.heap.size u := HL.out.1.each_ u hym
      have hoku : UOk u := HL.out.2.1 u hym
      have hchu : chkU u = 0 := HC.out u hym
      have hbV : Below wi.heap.size wi V3 := hb3
      have hpl : Own V3 w.heap.size 64 [.int .u8 5, .int .i64 n, .slice A1 l1 c1, .slice A2 l2 c2, .slice A3 l3 c3, .slice A4 l4 c4, .int .u8 a, .int .i64 r] := (H2.out.2.1.past HO.out.2.1 (by have := H2.out.2.2.2; omega)).past hb3 (by have := HO.out.2.1.size; have := H2.out.2.2.2; omega)
      have hinV : UIn V3 V3.heap.size u := ((hin.past hbwi (Nat.le_refl _)).wide hbwi.size).keep hb3
      have Hmade := Lib.hid (kept_any 5 n a r A1 A2 A3 A4 l1 l2 l3 l4 c1 c2 c3 c4 u V3 hinV hoku)
      have htk : l.take (j + 1) = l.take j ++ [u] := by rw [List.take_add_one, hy]; rfl
      rw [show u.val = .agg #[.slice u.kA u.key.length u.kc, .slice u.rA u.row.length u.rc, .int .u64 (u.t.e : Int), .int .u64 (u.t.a : Int), .int .u64 (u.t.b : Int), .int .i64 u.d] from rfl] at Hmade
      obtain ⟨E, hE⟩ : ∃ E, (mkKeep u).2.2 = E := ⟨_, rfl⟩
      obtain ⟨R, hR⟩ : ∃ R, (mkKeep u).1 = R := ⟨_, rfl⟩
      obtain ⟨D, hD⟩ : ∃ D, (mkKeep u).2.1 = D := ⟨_, rfl⟩
      have Hmade : Hid (Calls Tryz.prog 111 #[.agg #[.int .u8 5, .int .i64 n, .slice A1 l1 c1, .slice A2 l2 c2, .slice A3 l3 c3, .slice A4 l4 c4, .int .u8 a, .int .i64 r], .agg #[.slice u.kA u.key.length u.kc, .slice u.rA u.row.length u.rc, .int .u64 (u.t.e : Int), .int .u64 (u.t.a : Int), .int .u64 (u.t.b : Int), .int .i64 u.d]] V3 (MadeSays u R D E V3)) := by
        rw [← hE, ← hR, ← hD]
        exact Hmade
      unfold MadeSays at Hmade
      have hrow : E = 0 → chkRow R = 0 := fun _ => by
        rw [← hR]
        exact (chkK_zero hchu).2.1
      have HM := Lib.hid (And.intro hE (And.intro hR (And.intro hD (And.intro hrow (And.intro hchu (And.intro htk hin))))))
      have H3 := Lib.hid (And.intro hb3 (And.intro hs3 ho3))
      obtain ⟨p0, p1, p2, p3, p4, p5, p6, p7⟩ : V3.cell? ⟨w.heap.size, 0, none⟩ = some (.int .u8 5) ∧ V3.cell? ⟨w.heap.size, 1, none⟩ = some (.int .i64 n) ∧ V3.cell? ⟨w.heap.size, 2, none⟩ = some (.slice A1 l1 c1) ∧ V3.cell? ⟨w.heap.size, 3, none⟩ = some (.slice A2 l2 c2) ∧ V3.cell? ⟨w.heap.size, 4, none⟩ = some (.slice A3 l3 c3) ∧ V3.cell? ⟨w.heap.size, 5, none⟩ = some (.slice A4 l4 c4) ∧ V3.cell? ⟨w.heap.size, 6, none⟩ = some (.int .u8 a) ∧ V3.cell? ⟨w.heap.size, 7, none⟩ = some (.int .i64 r) :=
        ⟨hpl.at_ 0, hpl.at_ 1, hpl.at_ 2, hpl.at_ 3, hpl.at_ 4, hpl.at_ 5, hpl.at_ 6, hpl.at_ 7⟩
      have q3 : (0 : Int) ≤ (j : Int) := by omega
      have q4 : (j : Int) < (l.length : Int) := by omega
      have q5 : decide ((j : Int) < (l.length : Int)) = true := decide_eq_true q4
      clear hy hym hys hin hoku hchu hbV hpl hinV htk hE hR hD hrow hb3 hs3 hbwi
      go_upto_region 11 with fail
      rw [← hV3]
      clear hV3 e0 e1 e2 e3 e4 e5
      obtain ⟨e0, e1, e2, e3, e4, e5⟩ := own6 ho3
      clear ho3
      go_wp2_with fail
      refine Hmade.out.mono ?_
      rintro _ w4 ⟨u', rfl, hr', ht', hd', hin', hok', hQ, b4⟩
      rw [show u'.val = .agg #[.slice u'.kA u'.key.length u'.kc, .slice u'.rA u'.row.length u'.rc, .int .u64 (u'.t.e : Int), .int .u64 (u'.t.a : Int), .int .u64 (u'.t.b : Int), .int .i64 u'.d] from rfl]
      obtain ⟨V5, hV5, hb5, hs5, ho5⟩ := upbox w4 u'
      obtain ⟨X, hX, hXo, hXb, hXs⟩ := own_zeroth ho5 (.slice none 0 0)
      have z0 := (own6 ho5).1
      have k0 := (own_frozen6 ho5).1
      have hbX : Below wi.heap.size wi X := hXb _ _ (belows (belows H3.out.1 b4) hb5) (Nat.le_trans (belows H3.out.1 b4).size (Nat.le_refl _))
      have hb4X : Below w4.heap.size w4 X := hXb _ _ hb5 (Nat.le_refl _)
      have hprX := HO.out.1.quiet hbX
      have huX : UIn X X.heap.size (nokey u') := ⟨Vals.nil_, (hin'.keep hb4X).row⟩
      have hokX : UOk (nokey u') := ⟨Nat.zero_le _, hok'.rn, fun v hv => (by cases hv), hok'.rs, hok'.dn⟩
      have hPBi : w2.heap.size < wi.heap.size := HO.out.1.own.inside
      have haX : Aw w2.heap.size v (nokey u') := by
        have hq := hQ (fun b => b ≠ w2.heap.size ∧ v.ownBlock ≠ some b) (fun b hb => ⟨by have := H3.out.1.size; omega, fun e => by have := (HO.out.1.later b e).2; have := H3.out.1.size; omega⟩)
          ((awn_lt HM.out.2.2.2.2.2.2).imp fun b hb => ⟨by have := H2.out.2.2.2; omega, fun e => by have := (HO.out.1.later b e).1; have := H2.out.2.2.2; omega⟩)
        exact ⟨fun hp => absurd hp (by show ¬ 0 < 0; omega), hq.2⟩
      have Hpr := Lib.hid (produce_any w2.heap.size t' why' v M (nokey u') E X hprX HO.out.2.2.1 huX hokX haX (by have := HO.out.2.2.2.2.2.2; omega))
      unfold ProdSays at Hpr
      have Hpr : Hid (Calls Tryz.prog 65 #[.pointer (some ⟨w2.heap.size, 0, none⟩), .agg #[.slice none 0 0, .slice u'.rA u'.row.length u'.rc, .int .u64 (u'.t.e : Int), .int .u64 (u'.t.a : Int), .int .u64 (u'.t.b : Int), .int .i64 u'.d], .int .i64 E] X fun e w' => e = .returned (.tuple #[]) ∧ ∃ t'' v', Prod w' w2.heap.size t'' (if E = 0 then why' else 10) v' (if E = 0 then M ++ [nokey u'] else M) ∧ PKeep X w' w2.heap.size v ∧ Grew X v v') := Hpr
      have H5 := Lib.hid (And.intro hbX (And.intro hr' (And.intro ht' (And.intro hd' (And.intro hPBi hprX)))))
      obtain ⟨y0, y1, y2, y3, y4, y5⟩ := own6 hXo
      clear hr' ht' hd' hin' hok' hQ b4 hb5 hs5 hXo hXb hXs hbX hb4X hprX huX hokX hPBi haX e0 e1 e2 e3 e4 e5 p0 p1 p2 p3 p4 p5 p6 p7 Hmade
      go_upto_region 12 with fail
      rw [← hV5]
      clear hV5
      go_upto_region 13 with fail
      rw [← hX]
      clear hX z0 k0 ho5
      go_wp2_with fail
      refine Hpr.out.mono ?_
      rintro _ w6 ⟨rfl, t6, v6, hp6, hk6, hg6⟩
      have H6 := Lib.hid (And.intro hp6 hk6)
      clear hp6 hk6 hg6 Hpr y0 y1 y2 y3 y4 y5
      go_wp2_with fail
      go_roundw
      case rel =>
        obtain ⟨g1, g2⟩ := H6.out
        obtain ⟨m1, m2, m3, m4, m5, m6, m7⟩ := HM.out
        obtain ⟨n1, n2, n3, n4, n5, n6⟩ := H5.out
        obtain ⟨o1, o2, o3, o4, o5, o6, o7⟩ := HO.out
        have hb6 : Below w2.heap.size w2 w6 := o2.trans ((n1.mono (Nat.le_of_lt n5)).trans (g2.below (Nat.le_of_lt n6.own.inside) (Nat.le_refl _) fun k e => Nat.le_of_succ_le (n6.later k e).1))
        have hoks : okAll mkKeep (l.take (j + 1)) = (okAll mkKeep (l.take j) && (E == 0)) := by
          rw [m6]
          unfold okAll
          rw [List.all_append]
          simp [m1]
        by_cases hE0 : E = 0
        · rw [if_pos hE0, if_pos hE0] at g1
          refine ⟨j + 1, t6, why', v6, M ++ [nokey u'], by go_num, by omega, g1, hb6, o3, ?_, fun hf => ?_, fun y hy => ?_, by rw [List.length_append, List.length_singleton]; omega⟩
          · rw [hoks, hE0]
            simpa using o4
          · rw [hoks, hE0] at hf
            have hf' : okAll mkKeep (l.take j) = true := by simpa using hf
            rw [List.map_append, o5 hf', m6, List.map_append]
            congr 1
            rw [List.map_cons, List.map_cons, List.map_nil, List.map_nil]
            unfold madeP
            rw [m2, m3, ← n2, ← n4, ← n3]
            rfl
          · rcases List.mem_append.1 hy with hy | hy
            · exact o6 y hy
            · obtain rfl : y = nokey u' := by simpa using hy
              exact chk_nokey (by rw [n2]; exact m4 hE0) (by rw [n3]; exact (chkK_zero m5).2.2)
        · rw [if_neg hE0, if_neg hE0] at g1
          have hff : okAll mkKeep (l.take (j + 1)) = false := by
            rw [hoks]
            have : (E == 0) = false := by simpa using hE0
            rw [this, Bool.and_false]
          refine ⟨j + 1, t6, 10, v6, M, by go_num, by omega, g1, hb6, .inr rfl, ?_, fun hf => ?_, o6, by omega⟩
          · rw [hff]
            exact ⟨fun e => absurd e (by decide), fun e => absurd e (by decide)⟩
          · rw [hff] at hf
            cases hf
      case measure => simp [intOf]; omega
    · have hj2 : j = l.length := by omega
      have Hend := Lib.hid (end_any w2.heap.size t' why' v M wi HO.out.1 HO.out.2.2.1 HO.out.2.2.2.2.2.1 (by have := HO.out.2.2.2.2.2.2; omega))
      unfold EndSays at Hend
      have hRP : w.heap.size + 1 ≠ w2.heap.size := by have := H2.out.2.2.2; omega
      have hRB : Own wi (w.heap.size + 1) 46 [.int .u64 0, .int .u64 0, .int .u64 0] := H2.out.2.2.1.past HO.out.2.1 (by have := H2.out.2.2.2; omega)
      have HRB := Lib.hid hRB
      have HJ2 := Lib.hid hj2
      have q5 : decide ((j : Int) < (l.length : Int)) = false := decide_eq_false (by omega)
      clear hRB hj2
      go_wp2_with fail
      refine Hend.out.mono ?_
      rintro _ w7 ⟨A7, c7, outL, t7, E, rfl, hE7, hEi, hEo, hu7, hok7, hk7, hA7, hlo7, hln7⟩
      have hvne : ∀ b, v.ownBlock = some b → w2.heap.size + 1 ≤ b := fun b e => (HO.out.1.later b e).1
      have hR7 : Own w7 (w.heap.size + 1) 46 [.int .u64 0, .int .u64 0, .int .u64 0] := (hk7.block _ HRB.out.inside hRP (fun e => by have := hvne _ e; have := H2.out.2.2.2; omega)).trans HRB.out
      obtain ⟨X, hX, hXo, hXk, hXs⟩ := own_three hR7 (.int .u64 (t7.e : Int)) (.int .u64 (t7.a : Int)) (.int .u64 (t7.b : Int))
      obtain ⟨z0, z1, z2⟩ : w7.cell? ⟨w.heap.size + 1, 0, none⟩ = some (.int .u64 0) ∧ w7.cell? ⟨w.heap.size + 1, 1, none⟩ = some (.int .u64 0) ∧ w7.cell? ⟨w.heap.size + 1, 2, none⟩ = some (.int .u64 0) := ⟨hR7.at_ 0, hR7.at_ 1, hR7.at_ 2⟩
      have f0 := hR7.open_ 0
      have f1 := hR7.open_ 1
      have f2 := hR7.open_ 2
      obtain ⟨x0, x1, x2⟩ : X.cell? ⟨w.heap.size + 1, 0, none⟩ = some (.int .u64 (t7.e : Int)) ∧ X.cell? ⟨w.heap.size + 1, 1, none⟩ = some (.int .u64 (t7.a : Int)) ∧ X.cell? ⟨w.heap.size + 1, 2, none⟩ = some (.int .u64 (t7.b : Int)) := ⟨hXo.at_ 0, hXo.at_ 1, hXo.at_ 2⟩
      have hszi : w.heap.size + 2 ≤ wi.heap.size := Nat.le_trans H2.out.2.2.2 HO.out.2.1.size
      have huX : Ups X X.heap.size A7 outL := ⟨lies_pk hu7.head hXk fun _ b o e => ⟨by have := hA7 b o e; omega, by simp [Value.ownBlock]⟩, fun u hu => uin_pk (hu7.each_ u hu) ((hlo7 u hu).imp fun b hb => ⟨by omega, by simp [Value.ownBlock]⟩) hXk⟩
      have hb7 : Below w.heap.size w X := (H2.out.1.trans (HO.out.2.1.mono (by have := H2.out.2.2.2; omega))).trans ((hk7.below (by omega) (by have := H2.out.2.2.2; omega) fun b e => by have := hvne b e; have := H2.out.2.2.2; omega).trans (hXk.below (by have := hk7.size; omega) (Nat.le_succ _) fun b e => by simp [Value.ownBlock] at e))
      have HF := Lib.hid (And.intro huX (And.intro hb7 (And.intro hok7 (And.intro (fun b o e => by have := hA7 b o e; omega : ∀ b o, A7 = some ⟨b, o, none⟩ → w.heap.size ≤ b) (fun u hu => (hlo7 u hu).imp fun b hb => by omega : ∀ u ∈ outL, Awn (fun b => w.heap.size ≤ b) u)))))
      have HLn := Lib.hid (show outL.length ≤ l.length by have := HO.out.2.2.2.2.2.2; have := HJ2.out; omega)
      have HE := Lib.hid (And.intro hE7 (And.intro hEi hEo))
      clear hE7 hEi hEo hu7 hok7 hk7 hA7 hlo7 hln7 hvne hR7 hXo hXk hXs hszi huX hb7 Hend
      go_wp2_with fail
      rw [← hX]
      clear hX
      have htl : l.take j = l := by rw [HJ2.out, List.take_length]
      have hmm : okAll mkKeep l = true → M.map Up.p = l.map (madeP mkKeep) := by
        have := HO.out.2.2.2.2.1
        rwa [htl] at this
      have hwf : why' = 0 ↔ okAll mkKeep l = true := by
        have := HO.out.2.2.2.1
        rwa [htl] at this
      have hfu : okAll mkKeep l = true → fitU M = fitP (l.map (madeP mkKeep)) := fun h => by unfold fitU fitP; rw [hmm h]
      exact bodyPost_ret (v := .tuple #[.slice A7 outL.length c7, .agg #[.int .u64 (t7.e : Int), .int .u64 (t7.a : Int), .int .u64 (t7.b : Int)], .int .i64 E]) (by simp [results, Tryz.results23, go_sem, x0, x1, x2]) rfl
        ⟨A7, c7, outL, t7, E, rfl, ⟨fun e => by
          obtain ⟨h1, h2⟩ := HE.out.2.1.1 e
          have h3 := hwf.1 h1
          exact ⟨HL.out.2.2, h3, by rw [← hfu h3]; exact h2⟩, fun e => HE.out.2.1.2 ⟨hwf.2 e.2.1, by rw [hfu e.2.1]; exact e.2.2⟩⟩, fun e => by
          obtain ⟨h1, h2⟩ := HE.out.2.1.1 e
          have h3 := HE.out.2.2 e
          rw [hmm (hwf.1 h1)] at h3
          exact h3, HF.out.1, HF.out.2.2.1, HF.out.2.1, HF.out.2.2.2.1, HF.out.2.2.2.2, HLn.out⟩
end Go.Proofs.YtllpfngmnccejaaGreat
namespace Go.Proofs.YtllpfngmnccejaaGreat
open Go Go.RowKit

theorem okPairs_right {a b : List Up} (ca : chkUs a = 0) (cb : chkUs b = 0) (h : okPairs a b = true) : ∀ q ∈ pairsP a b, UkR q.1 := fun q hq => by
  obtain ⟨x, hx, hq⟩ := List.mem_flatMap.1 hq
  obtain ⟨y, hy, rfl⟩ := List.mem_map.1 hq
  have h1 := List.all_eq_true.1 (List.all_eq_true.1 h x hx) y hy
  unfold goodP at h1
  rw [Bool.and_eq_true, decide_eq_true_eq] at h1
  exact joinP_right (chkUs_all.1 ca x hx) (chkUs_all.1 cb y (List.mem_filter.1 hy).1) h1.1
/-- what Pairs tells -/
def PairsSays (a b : List Up) (w : World) (x : Ending) (w' : World) : Prop :=
  ∃ A c, ∃ outL : List Up, ∃ t : Tm, ∃ E : Int, x = .returned (.tuple #[.slice A outL.length c, .agg #[.int .u64 (t.e : Int), .int .u64 (t.a : Int), .int .u64 (t.b : Int)], .int .i64 E]) ∧ (E = 0 ↔ chkUs a = 0 ∧ chkUs b = 0 ∧ okPairs a b = true ∧ fitP (pairsP a b) = true) ∧
    (E = 0 → outL.map Up.p = nz Uk.cmp (pairsP a b) ∧ t = ⟨0, 0, 0⟩) ∧ Ups w' w'.heap.size A outL ∧ (∀ u ∈ outL, UOk u) ∧ Below w.heap.size w w' ∧ (∀ b o, A = some ⟨b, o, none⟩ → w.heap.size ≤ b) ∧ (∀ u ∈ outL, Awn (fun b => w.heap.size ≤ b) u) ∧ outL.length ≤ a.length * b.length
theorem fitU_pairs {M : List Up} {P : List (Uk × Int)} (hM : ∀ u ∈ M, chkU u = 0) (hP : ∀ q ∈ P, UkR q.1) (h : (M.map Up.p).Perm P) : fitU M = fitP P ∧ nz Uk.cmp (M.map Up.p) = nz Uk.cmp P := by
  have hr := keys_right hM
  have hs : ∀ k, sumOf Uk.cmp (M.map Up.p) k = sumOf Uk.cmp P k := fun k => sumOf_perm h k
  refine ⟨?_, nz_ext uk_lin (R := UkR) hr hP hs⟩
  have := (resL_ext uk_lin (R := UkR) hr hP hs).2
  unfold resE at this
  unfold fitU fitP
  rw [Bool.eq_iff_iff]
  constructor <;> intro h1
  · rw [if_pos h1] at this
    apply Decidable.byContradiction
    intro h2
    rw [if_neg h2] at this
    cases this
  · rw [if_pos h1] at this
    apply Decidable.byContradiction
    intro h2
    rw [if_neg h2] at this
    cases this
theorem jbox (w : World) : ∃ V, V = w.alloc (.cells #[.int .u64 0, .int .u64 0, .int .u64 0, .int .i64 0, .slice none 0 0] 127) ∧ Below w.heap.size w V ∧ V.heap.size = w.heap.size + 1 ∧ Prod V w.heap.size ⟨0, 0, 0⟩ 0 (.slice none 0 0) [] := by
  obtain ⟨W, e1, s1, b1, o1⟩ := boxd w [.int .u64 0, .int .u64 0, .int .u64 0, .int .i64 0, .slice none 0 0] 127
  exact ⟨W, e1, b1, s1, ⟨⟨_, o1⟩, World.ownsRow_nil _ _ _ _, (fun u hu => by cases hu), fun _ => rfl⟩⟩
set_option maxRecDepth 100000 in
set_option maxHeartbeats 6400000 in
theorem pairs_any (A : Option Addr) (c : Nat) (a : List Up) (B : Option Addr) (d : Nat) (b : List Up) (w : World) (ha : Ups w w.heap.size A a) (oa : ∀ u ∈ a, UOk u) (hb : Ups w w.heap.size B b) (ob : ∀ u ∈ b, UOk u) (na : a.length ≤ 1099511627776) (nb : b.length ≤ 1099511627776) (hn : a.length * b.length ≤ 1099511627776) :
    Calls Tryz.prog 24 #[.slice A a.length c, .slice B b.length d] w (PairsSays a b w) := by
  obtain ⟨V, hV, hVb, hVs, hVo⟩ := zbox w
  have y1 := Lib.hid (dcheck_any A c a V (ha.keep hVb) (by omega) oa)
  have y2 := fun W (h : Below V.heap.size V W) => Lib.hid (dcheck_any B d b W ((hb.keep hVb).keep h) (by omega) ob)
  have y3 := fun W g p q h0 h1 => Lib.hid (orE2_any g p q W h0 h1)
  obtain ⟨Ea, hEa⟩ : ∃ E, chkUs a = E := ⟨_, rfl⟩
  obtain ⟨Eb, hEb⟩ : ∃ E, chkUs b = E := ⟨_, rfl⟩
  rw [hEa] at y1
  simp only [hEb] at y2
  have HL := Lib.hid (And.intro ha (And.intro oa (And.intro hb (And.intro ob (And.intro hEa hEb)))))
  have HN := Lib.hid (And.intro na (And.intro nb hn))
  have HV := Lib.hid (And.intro hVb (And.intro hVo hVs))
  clear ha oa hb ob na nb hn hVb hVo hVs hEa hEb
  go_enter Tryz.func24, Tryz.ntmps24
  go_upto_region 1 with fail
  rw [← hV]
  clear hV
  go_wp2_with fail
  refine y1.out.mono ?_
  rintro _ w1 ⟨rfl, b1⟩
  have H1 := Lib.hid b1
  clear b1 y1
  go_wp2_with fail
  refine (y2 _ H1.out).out.mono ?_
  rintro _ w2 ⟨rfl, b2⟩
  obtain ⟨V3, hV3, hb3, hs3, hc0, hc1⟩ : ∃ V3, V3 = w2.alloc (.cells #[.int .i64 Ea, .int .i64 Eb] 29) ∧ Below w2.heap.size w2 V3 ∧ V3.heap.size = w2.heap.size + 1 ∧ V3.cell? ⟨w2.heap.size, 0, none⟩ = some (.int .i64 Ea) ∧ V3.cell? ⟨w2.heap.size, 1, none⟩ = some (.int .i64 Eb) := by
    obtain ⟨W, e1, s1, b1, o1⟩ := boxd w2 [.int .i64 Ea, .int .i64 Eb] 29
    exact ⟨W, e1, b1, s1, o1.at_ 0, o1.at_ 1⟩
  have z3 := Lib.hid ((y3 V3 w2.heap.size Ea Eb hc0 hc1).out)
  have hbV3 : Below V.heap.size V V3 := belows (belows H1.out b2) hb3
  have H3 := Lib.hid (And.intro (belows HV.out.1 hbV3) (HV.out.2.1.past hbV3 HV.out.2.1.inside))
  have hsz := H3.out.1.size
  clear b2 hb3 hs3 hc0 hc1 hbV3 y2 y3
  go_wp2_with fail
  rw [← hV3]
  clear hV3
  refine z3.out.mono ?_
  rintro _ w4 ⟨rfl, rfl⟩
  obtain ⟨K, hK⟩ : ∃ K, orI Ea Eb = K := ⟨_, rfl⟩
  have HK := Lib.hid (show K = 0 ↔ Ea = 0 ∧ Eb = 0 by rw [← hK]; unfold orI; by_cases h : Ea = 0 <;> simp [h])
  rw [hK]
  clear hK z3
  have hRo := H3.out.2
  by_cases hK0 : K = 0
  case neg =>
    have t1 : (K != 0) = true := bne_iff_ne.2 hK0
    obtain ⟨X, hX, hXo, hXk, hXs⟩ := own_three hRo (.int .u64 0) (.int .u64 0) (.int .u64 0)
    have hbX : Below w.heap.size w X := H3.out.1.trans (hXk.below hsz (Nat.le_refl _) (fun k e => by simp [Value.ownBlock] at e))
    have z0 := hRo.at_ 0
    have z1 := hRo.at_ 1
    have z2 := hRo.at_ 2
    have f0 := hRo.open_ 0
    have f1 := hRo.open_ 1
    have f2 := hRo.open_ 2
    have x0 := hXo.at_ 0
    have x1 := hXo.at_ 1
    have x2 := hXo.at_ 2
    simp only [List.getElem?_cons_zero, List.getElem?_cons_succ] at z0 z1 z2 x0 x1 x2
    have HB := Lib.hid hbX
    have HK0 := Lib.hid hK0
    clear hXo hXk hXs hbX hK0 hRo
    go_wp2_with fail
    rw [← hX]
    clear hX
    exact bodyPost_ret (v := .tuple #[.slice none 0 0, .agg #[.int .u64 0, .int .u64 0, .int .u64 0], .int .i64 K]) (by simp [results, Tryz.results24, go_sem, x0, x1, x2]) rfl
      ⟨none, 0, [], ⟨0, 0, 0⟩, K, rfl, ⟨fun e => absurd e HK0.out, fun e => absurd (HK.out.2 ⟨HL.out.2.2.2.2.1.symm.trans e.1, HL.out.2.2.2.2.2.symm.trans e.2.1⟩) HK0.out⟩, fun e => absurd e HK0.out, ⟨Lies.nil_, fun u hu => (by cases hu)⟩, fun u hu => (by cases hu), HB.out, fun b o e => (by cases e), fun u hu => (by cases hu), Nat.zero_le _⟩
  subst hK0
  obtain ⟨hea, heb⟩ := HK.out.1 rfl
  have hca : chkUs a = 0 := HL.out.2.2.2.2.1.trans hea
  have hcb : chkUs b = 0 := HL.out.2.2.2.2.2.trans heb
  obtain ⟨V5, hV5, hb5, hs5, hp5⟩ := jbox V3
  have hb05 : Below w.heap.size w V5 := belows H3.out.1 hb5
  have z5 := Lib.hid (match_any V3.heap.size A c a B d b V5 hp5 ((HL.out.1.past hb05 (Nat.le_refl _)).wide hsz) HL.out.2.1 hca ((HL.out.2.2.1.past hb05 (Nat.le_refl _)).wide hsz) HL.out.2.2.2.1 hcb HN.out.1 HN.out.2.1 HN.out.2.2)
  have H5 := Lib.hid (And.intro hb05 (And.intro (hRo.past hb5 hRo.inside) (And.intro hs5 (And.intro hca hcb))))
  clear hb5 hs5 hp5 hb05 hRo hca hcb hea heb
  go_upto_region 5 with fail
  rw [← hV5]
  clear hV5
  go_wp2_with fail
  refine z5.out.mono ?_
  rintro _ w6 ⟨rfl, t6, why, v, M, hp6, hk6, hf6, hy6, ho6, hm6, hc6, hn6⟩
  have z6 := Lib.hid (end_any V3.heap.size t6 why v M w6 hp6 hy6 hc6 (Nat.le_trans hn6 HN.out.2.2))
  unfold EndSays at z6
  have hr6 : Own w6 w.heap.size 46 [.int .u64 0, .int .u64 0, .int .u64 0] := (hk6.block _ H5.out.2.1.inside (by have := H3.out.2.inside; omega) (by simp [Value.ownBlock])).trans H5.out.2.1
  have hb6 : Below w.heap.size w w6 := H5.out.1.trans (hk6.below (by have := H5.out.1.size; omega) hsz (by simp [Value.ownBlock]))
  have hlate : ∀ j, v.ownBlock = some j → w.heap.size < j := fun j hj => by have h1 := hf6 j hj; have h2 := H5.out.2.2.1; omega
  have hw4 := H3.out.2.inside
  have H6 := Lib.hid (And.intro hr6 (And.intro hb6 (And.intro hlate (And.intro ho6 (And.intro hm6 (And.intro hc6 (And.intro hn6 hw4)))))))
  clear hp6 hk6 hf6 hy6 ho6 hm6 hc6 hn6 hr6 hb6 hlate z5 hw4
  go_wp2_with fail
  refine z6.out.mono ?_
  rintro _ w7 ⟨A7, c7, outL, t7, E, rfl, hE7, hEi, hEo, hu7, hok7, hk7, hA7, hlo7, hln7⟩
  have hR7 : Own w7 w.heap.size 46 [.int .u64 0, .int .u64 0, .int .u64 0] := (hk7.block _ H6.out.1.inside (by have := H6.out.2.2.2.2.2.2.2; omega) (fun e => by have := H6.out.2.2.1 _ e; omega)).trans H6.out.1
  obtain ⟨X, hX, hXo, hXk, hXs⟩ := own_three hR7 (.int .u64 (t7.e : Int)) (.int .u64 (t7.a : Int)) (.int .u64 (t7.b : Int))
  have hb67 : Below w.heap.size w w7 := H6.out.2.1.trans (hk7.below H6.out.2.1.size (Nat.le_of_lt H6.out.2.2.2.2.2.2.2) (fun j hj => Nat.le_of_lt (H6.out.2.2.1 j hj)))
  have hbX : Below w.heap.size w X := hb67.trans (hXk.below hb67.size (Nat.le_refl _) (fun k e => by simp [Value.ownBlock] at e))
  have hsz6 : w.heap.size < w6.heap.size := H6.out.1.inside
  have huX : Ups X X.heap.size A7 outL := ⟨lies_pk hu7.head hXk (fun _ g o e => ⟨by have := hA7 g o e; omega, by simp [Value.ownBlock]⟩), fun u hu => uin_pk (hu7.each_ u hu) ((hlo7 u hu).imp fun j hj => ⟨by omega, by simp [Value.ownBlock]⟩) hXk⟩
  have HX := Lib.hid (And.intro hbX (And.intro huX (And.intro hok7 (And.intro (fun g o e => Nat.le_trans (Nat.le_of_lt hsz6) (hA7 g o e)) (And.intro (fun u hu => (hlo7 u hu).imp fun j hj => Nat.le_trans (Nat.le_of_lt hsz6) hj) (And.intro hEi (And.intro hEo hln7)))))))
  have z0 := hR7.at_ 0
  have z1 := hR7.at_ 1
  have z2 := hR7.at_ 2
  have f0 := hR7.open_ 0
  have f1 := hR7.open_ 1
  have f2 := hR7.open_ 2
  have x0 := hXo.at_ 0
  have x1 := hXo.at_ 1
  have x2 := hXo.at_ 2
  simp only [List.getElem?_cons_zero, List.getElem?_cons_succ] at z0 z1 z2 x0 x1 x2
  clear hEi hEo hu7 hok7 hk7 hA7 hlo7 hln7 hR7 hXo hXk hXs hb67 hbX hsz6 huX z6 hE7
  go_wp2_with fail
  rw [← hX]
  clear hX
  have hcc := H5.out.2.2.2
  have hfm : why = 0 → fitU M = fitP (pairsP a b) ∧ nz Uk.cmp (M.map Up.p) = nz Uk.cmp (pairsP a b) := fun e => fitU_pairs H6.out.2.2.2.2.2.1 (okPairs_right hcc.1 hcc.2 (H6.out.2.2.2.1.1 e)) (H6.out.2.2.2.2.1 e)
  refine bodyPost_ret (v := .tuple #[.slice A7 outL.length c7, .agg #[.int .u64 (t7.e : Int), .int .u64 (t7.a : Int), .int .u64 (t7.b : Int)], .int .i64 E]) (by simp [results, Tryz.results24, go_sem, x0, x1, x2]) rfl
    ⟨A7, c7, outL, t7, E, rfl, ?_, fun e => ?_, HX.out.2.1, HX.out.2.2.1, HX.out.1, HX.out.2.2.2.1, HX.out.2.2.2.2.1, Nat.le_trans HX.out.2.2.2.2.2.2.2 H6.out.2.2.2.2.2.2.1⟩
  · rw [HX.out.2.2.2.2.2.1]
    constructor
    · rintro ⟨e1, e2⟩
      exact ⟨hcc.1, hcc.2, H6.out.2.2.2.1.1 e1, by rw [← (hfm e1).1]; exact e2⟩
    · rintro ⟨_, _, e3, e4⟩
      have e1 := H6.out.2.2.2.1.2 e3
      exact ⟨e1, by rw [(hfm e1).1]; exact e4⟩
  · obtain ⟨e1, e2⟩ := HX.out.2.2.2.2.2.2.1 e
    exact ⟨by rw [e1]; exact (hfm (HX.out.2.2.2.2.2.1.1 e).1).2, e2⟩
end Go.Proofs.YtllpfngmnccejaaGreat
