/- Part 5 of the texts on which LinearParts rests: facts and contracts. -/
import Derived.Test.YtcfldgncmbcpmaaGreatLinearPartsM4
import Derived.Deep.CutBlock
import Derived.Maps.OwnSet
import Derived.Maps.Views
import Derived.Carry
import Derived.StillTail
import Derived.Deep.Quiet
import Derived.Deep.QuietTactic
import Derived.BigQuiet
import Derived.Test.YtcfldgncmbcpmaaGreatShelf
namespace Go.Proofs.YtcfldgncmbcpmaaGreat
open Go Go.RowKit

theorem own_three {w : World} {P : Nat} {t : TypeId} {z0 z1 z2 : Value} (h : Own w P t [z0, z1, z2]) (a b c : Value) :
    ∃ X, X = ((w.setCell ⟨P, 0, none⟩ a).setCell ⟨P, 1, none⟩ b).setCell ⟨P, 2, none⟩ c ∧ Own X P t [a, b, c] ∧ PKeep w X P (.slice none 0 0) ∧ X.heap.size = w.heap.size := by
  refine ⟨_, rfl, ((h.set_ 0 a).set_ 1 b).set_ 2 c, ⟨rfl, rfl, rfl, by simp [World.setCell], fun k _ hk _ => ?_⟩, by simp [World.setCell]⟩
  have q := fun (W : World) (i : Nat) (v : Value) => Below.heap_setCell W ⟨P, i, none⟩ v k hk
  rw [q, q, q]
theorem zbox (w : World) : ∃ W, W = w.alloc (.cells #[.int .u64 0, .int .u64 0, .int .u64 0] 27) ∧ Below w.heap.size w W ∧ W.heap.size = w.heap.size + 1 ∧ Own W w.heap.size 27 [.int .u64 0, .int .u64 0, .int .u64 0] :=
  ⟨_, rfl, (Below.refl _ _).alloc (Nat.le_refl _) _, by simp, Own.made w 27 [.int .u64 0, .int .u64 0, .int .u64 0]⟩
theorem lies_taken {α : Type} {size : Nat} {cells : α → List Value} {w : World} {B : Nat} {A : Option Addr} {l : List α} (h : Lies size cells w B A l) (m : Nat) : Lies size cells w B A (l.take m) := fun hp => by
  obtain ⟨b, o, e, hB, hc⟩ := h (by rw [List.length_take] at hp; omega)
  refine ⟨b, o, e, hB, fun i x hi => hc i x ?_⟩
  rw [List.getElem?_take] at hi
  split at hi
  · exact hi
  · cases hi
theorem pk_then {a b c : World} {PB : Nat} {v : Value} {row : Option Nat} (h : PKeep a b PB v) (g : b.grownBy c row) (hr : ∀ j, row = some j → a.heap.size ≤ j) : PKeep a c PB v :=
  ⟨g.os.trans h.os, g.tape.trans h.tape, g.output.trans h.output, Nat.le_trans h.size g.size, fun k hk h1 h2 => (g.block k (Nat.lt_of_lt_of_le hk h.size) fun e => by have := hr k e.symm; omega).trans (h.block k hk h1 h2)⟩
/-- what End tells -/
def EndSays (PB : Nat) (why : Int) (v : Value) (M : List Up) (w : World) (x : Ending) (w' : World) : Prop :=
  ∃ A c, ∃ outL : List Up, ∃ t : Tm, ∃ E : Int, x = .returned (.tuple #[.slice A outL.length c, .agg #[.int .u64 (t.e : Int), .int .u64 (t.a : Int), .int .u64 (t.b : Int)], .int .i64 E]) ∧ (E = 0 ∨ E = 10) ∧ (E = 0 ↔ why = 0 ∧ fitU M = true) ∧
    (E = 0 → outL.map Up.p = nz Uk.cmp (M.map Up.p) ∧ t = ⟨0, 0, 0⟩) ∧ Ups w' w'.heap.size A outL ∧ (∀ u ∈ outL, UOk u) ∧ PKeep w w' PB v ∧ (∀ b o, A = some ⟨b, o, none⟩ → w.heap.size ≤ b) ∧ (∀ u ∈ outL, Awn (fun b => w.heap.size ≤ b) u) ∧ outL.length ≤ M.length
set_option maxRecDepth 100000 in
set_option maxHeartbeats 16000000 in
theorem end_any (PB : Nat) (t : Tm) (why : Int) (v : Value) (M : List Up) (w : World) (h : Prod w PB t why v M) (hw : why = 0 ∨ why = 10) (hc : ∀ u ∈ M, chkU u = 0) (hn : M.length ≤ 1099511627776) :
    Calls Tryz.prog 22 #[.pointer (some ⟨PB, 0, none⟩)] w (EndSays PB why v M w) := by
  obtain ⟨i0, hi, hz0, hz1, hz2⟩ := info_parts infoUp
  have HI := Lib.hid (And.intro Tryz.underlying22 (And.intro hi (And.intro hz0 (And.intro hz1 hz2))))
  obtain ⟨V, hV, hvb, hvs, hvo⟩ := zbox w
  have hP := h.quiet hvb
  have hlt := h.own.inside
  have hne : v.ownBlock ≠ some PB := fun e => by have := (h.later _ e).1; omega
  have hneR : v.ownBlock ≠ some w.heap.size := fun e => by have := (h.later _ e).2; omega
  obtain ⟨A, c, rfl, hnc, hcm, hsort⟩ := sortP_all v M.length (PB + 1) M V rfl hP.row (fun u hu => ⟨(hP.each_ u hu).1, (hP.each_ u hu).2.1, (hP.each_ u hu).2.2.imp fun b hb => hb.2⟩) (by omega)
  have Hsort := Lib.hid hsort
  have HM := Lib.hid (And.intro h (And.intro hP (And.intro hvb (And.intro hvo (And.intro hc (And.intro hne hneR))))))
  have hlt2 : PB < V.heap.size := by omega
  have HPB := Lib.hid (And.intro hlt hlt2)
  have c4 := hP.own.at_ 4
  simp only [List.getElem?_cons_zero, List.getElem?_cons_succ] at c4
  have HVS := Lib.hid hvs
  clear h hP hvb hvo hc hne hneR hsort hi hz0 hz1 hz2 hlt hlt2 hvs
  go_enter Tryz.func22, Tryz.ntmps22
  go_upto_region 1 with fail
  rw [← hV]
  clear hV
  go_wp2_with fail
  refine Hsort.out.mono ?_
  rintro _ w1 ⟨rfl, S, hp, hpw, hlies, hA, hpk⟩
  have hown1 : Own w1 PB 68 [.int .u64 (t.e : Int), .int .u64 (t.a : Int), .int .u64 (t.b : Int), .int .i64 why, .slice A M.length c] := ((hpk (PB + 1)).block PB HPB.out.2 (by omega) HM.out.2.2.2.2.2.1).trans HM.out.2.1.own
  have hres1 : Own w1 w.heap.size 27 [.int .u64 0, .int .u64 0, .int .u64 0] := ((hpk (w.heap.size + 1)).block w.heap.size HM.out.2.2.2.1.inside (by omega) HM.out.2.2.2.2.2.2).trans HM.out.2.2.2.1
  have hSn : S.length = M.length := hp.length_eq
  have hrows : ∀ u ∈ S, UIn w1 w1.heap.size u ∧ UOk u ∧ Awn (fun b => b ≠ PB) u := fun u hu => by
    obtain ⟨k1, k2, k3⟩ := HM.out.2.1.each_ u (hp.mem_iff.1 hu)
    exact ⟨uin_pk k1 k3 (hpk PB), k2, k3.imp fun b hb => hb.1⟩
  have hcS : ∀ u ∈ S, chkU u = 0 := fun u hu => HM.out.2.2.2.2.1 u (hp.mem_iff.1 hu)
  have hAb : ∀ b o, A = some ⟨b, o, none⟩ → PB + 1 ≤ b ∧ b < w1.heap.size := fun b o e => by
    have := HM.out.1.later b (hA b o e)
    have h2 := (hpk PB).size
    have h3 := HVS.out
    omega
  have hPB1 : PB < w1.heap.size := hown1.inside
  have HS := Lib.hid (And.intro hp (And.intro hpw (And.intro hlies (And.intro hAb (And.intro hSn (And.intro hrows hcS))))))
  have HK := Lib.hid (And.intro (fun PB' => PKeep.after HM.out.2.2.1 (hpk PB')) (And.intro hown1 (And.intro hres1 hPB1)))
  have c4 := hown1.at_ 4
  simp only [List.getElem?_cons_zero, List.getElem?_cons_succ] at c4
  clear hp hpw hlies hA hpk hown1 hres1 hSn hrows hcS hAb Hsort hPB1
  go_wp2_with fail
  go_loopw [5, 6] (fun v5 v6 wr => ∃ (k : Nat) (outL : List Up) (t' : Tm) (why' : Int) (A' : Option Addr) (c' : Nat), v6 = .slice A' (M.length - k) c' ∧ k ≤ M.length ∧ (M.length - k ≤ c' ∧ c' ≤ maxLen) ∧ (∀ g o, A = some ⟨g, o, none⟩ → k < M.length → A' = some ⟨g, o + k * 6, none⟩) ∧
      wr.ownsRow w1.heap.size 44 6 v5 outL.length (outL.flatMap Up.cells) ∧ (∀ u ∈ outL, UIn wr wr.heap.size u ∧ UOk u ∧ Aw PB v5 u ∧ Awn (fun b => w1.heap.size ≤ b) u) ∧
      Own wr PB 68 [.int .u64 (t'.e : Int), .int .u64 (t'.a : Int), .int .u64 (t'.b : Int), .int .i64 why', .slice A M.length c] ∧ (why' = 0 ∨ why' = 10) ∧ (why' = 0 ↔ why = 0 ∧ fitU (S.take k) = true) ∧ (why' = 0 → t' = ⟨0, 0, 0⟩) ∧
      (fitU (S.take k) = true → outL.map Up.p = nz Uk.cmp ((S.take k).map Up.p)) ∧ PKeep w1 wr PB (.slice none 0 0) ∧ BdU S k ∧ outL.length ≤ k)
    (fun _ v6 _ => (match v6 with | .slice _ n _ => n | _ => 0))
  case atStart =>
    refine ⟨0, [], t, why, A, c, rfl, Nat.zero_le _, ⟨hnc, hcm⟩, fun g o e _ => by rw [e, Nat.zero_mul, Nat.add_zero], World.ownsRow_nil _ _ _ _, fun u hu => (by cases hu), HK.out.2.1, hw, ⟨fun e => ⟨e, rfl⟩, fun e => e.1⟩, HM.out.1.zero, fun _ => rfl, PKeep.refl, fun a ha => (by cases ha), Nat.le_refl _⟩
  case round =>
    obtain ⟨k, outL, t', why', A', c', rfl, hk, hcc, hadr, hown, hout, hpb, hwy, hwf, hwt, hmap, hpk, hbd, hlen⟩ := hrel
    obtain ⟨wi, hwi⟩ : ∃ wi, wi = wr := ⟨_, rfl⟩
    subst hwi
    by_cases hlt : k < M.length
    · obtain ⟨g, o, rfl, hB, hxs⟩ := HS.out.2.2.1 (by rw [HS.out.2.2.2.2.1]; omega)
      obtain rfl := hadr g o rfl hlt
      have hx : S[k]? = some (S[k]'(by rw [HS.out.2.2.2.2.1]; exact hlt)) := List.getElem?_eq_getElem _
      generalize (S[k]'(by rw [HS.out.2.2.2.2.1]; exact hlt)) = x at *
      have hg := HS.out.2.2.2.1 g o rfl
      have hgne : g ≠ PB := by omega
      have hdl : (S.drop k).length = M.length - k := by rw [List.length_drop, HS.out.2.2.2.2.1]
      have hx0 : (S.drop k)[0]? = some x := by rw [List.getElem?_drop]; exact hx
      have hliesk : Lies 6 Up.cells wi wi.heap.size (some ⟨g, o + k * 6, none⟩) (S.drop k) := fun _ => by
        refine ⟨g, o + k * 6, rfl, Nat.lt_of_lt_of_le hg.2 hpk.size, fun i y hy j u hj => ?_⟩
        rw [List.getElem?_drop] at hy
        have hb := hpk.block g hg.2 hgne (by simp [Value.ownBlock])
        rw [show o + k * 6 + i * 6 + j = o + (k + i) * 6 + j by omega]
        exact (cell_heap hb).trans (hxs (k + i) y hy j u hj)
      have hupsk : Ups wi wi.heap.size (some ⟨g, o + k * 6, none⟩) (S.drop k) := ⟨hliesk, fun u hu => by
        obtain ⟨k1, k2, k3⟩ := HS.out.2.2.2.2.2.1 u (List.mem_of_mem_drop hu)
        exact uin_pk k1 (k3.imp fun b hb => ⟨hb, by simp [Value.ownBlock]⟩) hpk⟩
      have hokk : ∀ u ∈ S.drop k, UOk u := fun u hu => (HS.out.2.2.2.2.2.1 u (List.mem_of_mem_drop hu)).2.1
      have hal := alike_any (some ⟨g, o + k * 6, none⟩) c' (S.drop k) x wi hupsk hokk (by rw [hdl]; omega) hx0
      rw [hdl] at hal
      unfold AlikeSays at hal
      have Hal := Lib.hid hal
      have HO := Lib.hid (And.intro hown (And.intro hout (And.intro hpb (And.intro hwy (And.intro hwf (And.intro hwt (And.intro hmap (And.intro hpk (And.intro hbd hlen)))))))))
      have HU := Lib.hid (And.intro hupsk (And.intro hokk (And.intro hdl (And.intro hx hx0))))
      have HQ := Lib.hid (And.intro hgne (And.intro hg (And.intro hcc (And.intro (HK.out.2.2.2) hlt))))
      have q1 : (0 : Int) < ((M.length - k : Nat) : Int) := by omega
      have q2 : decide ((0 : Int) < ((M.length - k : Nat) : Int)) = true := decide_eq_true q1
      clear hown hout hpb hwy hwf hwt hmap hpk hbd hlen hupsk hokk hdl hx hx0 hliesk hal hxs hB hadr hg hgne hcc
      go_wp2_with fail
      refine Hal.out.mono ?_
      rintro _ w2 ⟨n, rfl, hn1, hn2, heq, hmax, b2⟩
      have HN := Lib.hid (And.intro heq (And.intro hmax b2))
      have hnc' : n ≤ c' := by have := HQ.out.2.2.1.1; have := HU.out.2.2.1; omega
      have q3 : (0 : Int) ≤ (n : Int) := by omega
      have q4 : (n : Int) ≤ (c' : Int) := by omega
      have q5 : (n : Int) ≤ ((M.length - k : Nat) : Int) := by have := HU.out.2.2.1; omega
      have hlen2 : ((S.drop k).take n).length = n := by rw [List.length_take]; omega
      have hups2 : Ups w2 w2.heap.size (some ⟨g, o + k * 6, none⟩) ((S.drop k).take n) := ⟨lies_taken (HU.out.1.keep b2).head n, fun u hu => (HU.out.1.keep b2).each_ u (List.mem_of_mem_take hu)⟩
      obtain ⟨V3, hV3, hb3, hl3⟩ := one_list w2 (some ⟨g, o + k * 6, none⟩) c' ((S.drop k).take n) hups2
      rw [hlen2] at hV3
      have hcon := consolidate_new (some ⟨w2.heap.size, 0, none⟩) 1 [⟨some ⟨g, o + k * 6, none⟩, c', (S.drop k).take n⟩] V3 hl3 (fun s hs u hu => by
        obtain rfl : s = ⟨some ⟨g, o + k * 6, none⟩, c', (S.drop k).take n⟩ := by simpa using hs
        exact HU.out.2.1 u (List.mem_of_mem_take hu)) (by simp only [flatR, List.flatMap_cons, List.flatMap_nil, List.append_nil]; rw [hlen2]; omega) (by simp)
      unfold UpsNew at hcon
      simp only [List.map_cons, List.map_nil] at hcon
      obtain ⟨E, hE⟩ : ∃ E, consE [(S.drop k).take n] = E := ⟨_, rfl⟩
      obtain ⟨CL, hCL⟩ : ∃ CL, consL [(S.drop k).take n] = CL := ⟨_, rfl⟩
      rw [hE, hCL] at hcon
      have Hcon := Lib.hid hcon
      have HE := Lib.hid (And.intro hE hCL)
      have HB3 := Lib.hid (And.intro b2 hb3)
      clear hcon hE hCL hb3 hl3 hups2 b2 heq hmax Hal
      go_wp2_with fail
      rw [← hV3]
      clear hV3
      refine Hcon.out.mono ?_
      rintro _ w4 ⟨AX, cX, X, rfl, hpX, huX, hoX, hbX, hloX⟩
      have hown4 : Own w4 PB 68 [.int .u64 (t'.e : Int), .int .u64 (t'.a : Int), .int .u64 (t'.b : Int), .int .i64 why', .slice (some ⟨g, o, none⟩) M.length c] := HO.out.2.2.1.past (belows HB3.out.1 (belows HB3.out.2 hbX)) HO.out.2.2.1.inside
      have H4 := Lib.hid (And.intro hpX (And.intro huX (And.intro hoX (And.intro hbX hloX))))
      have HO4 := Lib.hid hown4
      clear hpX huX hoX hbX hloX Hcon hown4
      by_cases hE0 : E = 0
      · have t1 : (E != 0) = false := by simp [hE0]
        have HE0 := Lib.hid hE0
        clear hE0
        have hbi4 : Below wi.heap.size wi w4 := belows HB3.out.1 (belows HB3.out.2 H4.out.2.2.2.1)
        have hpk5 : PKeep wi w4 PB (.slice none 0 0) := PKeep.after hbi4 (PKeep.refl : PKeep w4 w4 PB (.slice none 0 0))
        have hne5 : u5.ownBlock ≠ some PB := fun e => by have := (HO.out.1.lt _ e).1; have := HQ.out.2.2.2.1; omega
        have hsz3 : wi.heap.size ≤ V3.heap.size := Nat.le_trans HB3.out.1.size HB3.out.2.size
        have hszw : w1.heap.size ≤ wi.heap.size := HO.out.2.2.2.2.2.2.2.1.size
        have hrow5 := Lib.hid ((own_below HO.out.1 hbi4).kept ((PKeep.refl : PKeep w4 w4 PB (.slice none 0 0))).grown (.inr hne5))
        have hout5 : ∀ u ∈ outL, UIn w4 (w4).heap.size u ∧ UOk u ∧ Aw PB u5 u ∧ Awn (fun b => w1.heap.size ≤ b) u := fun u hu => by
          obtain ⟨k1, k2, k3, k4⟩ := HO.out.2.1 u hu
          exact ⟨uin_pk k1 (k3.imp fun b hb => ⟨hb.1, by simp [Value.ownBlock]⟩) hpk5, k2, k3, k4⟩
        have hX5 : ∀ u ∈ X, UIn w4 (w4).heap.size u ∧ UOk u ∧ Aw PB u5 u ∧ Awn (fun b => w1.heap.size ≤ b) u := fun u hu => by
          have hlo := awn_lo H4.out.2.2.2.2 hu
          have hqq := HQ.out.2.2.2.1
          exact ⟨uin_pk (H4.out.2.1.each_ u hu) (hlo.imp fun b hb => ⟨by omega, by simp [Value.ownBlock]⟩) (PKeep.refl : PKeep w4 w4 PB (.slice none 0 0)), H4.out.2.2.1 u hu, hlo.imp fun b hb => ⟨by omega, fun e => by have := (HO.out.1.lt _ e).2; omega⟩, hlo.imp fun b hb => by omega⟩
        have hlX := Lib.hid (lies_pk H4.out.2.1.head (PKeep.refl : PKeep w4 w4 PB (.slice none 0 0)) (fun _ b o e => ⟨by have h1 := H4.out.2.2.2.2.1 b o e; have h2 := HQ.out.2.2.2.1; omega, by simp [Value.ownBlock]⟩))
        have hXn : X.length ≤ n := by
          have h1 := consL_len [(S.drop k).take n]
          rw [HE.out.2, ← H4.out.1, List.length_map] at h1
          simp only [List.flatten_cons, List.flatten_nil, List.append_nil] at h1
          rw [hlen2] at h1
          exact h1
        have hoLn : outL.length ≤ k := HO.out.2.2.2.2.2.2.2.2.2
        have hkn : k + n ≤ M.length := by have := HU.out.2.2.1; omega
        have hsz5 : w1.heap.size ≤ (w4).heap.size := Nat.le_trans hszw hpk5.size
        have HT := Lib.hid (And.intro hpk5 (And.intro hne5 (And.intro hout5 (And.intro hX5 (And.intro hXn (And.intro hoLn hkn))))))
        have hsum : outL.length + X.length ≤ 1099511627776 := by omega
        clear hbi4 hpk5 hne5 hsz3 hszw hout5 hX5
        go_wp2_with (at_builtin; refine wpList_append_grown _ rfl (.tmp 42) (.tmp 43) 22 44 rfl i0 _ 80 HI.out.1 HI.out.2.1 HI.out.2.2.1 HI.out.2.2.2.1 HI.out.2.2.2.2 rfl (by decide) ucells_len ucells_one w1.heap.size _ _ _ rfl hrow5.out _ rfl hlX.out ?xa1 ?xa2 ?xa3 ?_)
        case xa1 => unfold maxLen; omega
        case xa2 => omega
        case xa3 => exact hsz5
        intro v7 w7 ho7 hb7 hob7 hg7
        have hgr : Grew w4 u5 v7 := by
          rcases hob7 with e | e
          · exact .inl e
          · exact .inr ⟨_, e, Nat.le_refl _⟩
        have hpk7 : PKeep w4 w7 PB u5 := pk_grown hg7
        have H7 := Lib.hid (And.intro ho7 (And.intro (fun u (hu : u ∈ outL ++ X) => (by
          rcases List.mem_append.1 hu with hu | hu
          · obtain ⟨k1, k2, k3, k4⟩ := HT.out.2.2.1 u hu
            exact ⟨uin_pk k1 k3 hpk7, k2, k3.grew k1 hgr, k4⟩
          · obtain ⟨k1, k2, k3, k4⟩ := HT.out.2.2.2.1 u hu
            exact ⟨uin_pk k1 k3 hpk7, k2, k3.grew k1 hgr, k4⟩ : UIn w7 w7.heap.size u ∧ UOk u ∧ Aw PB v7 u ∧ Awn (fun b => w1.heap.size ≤ b) u)) (And.intro ((hg7.block PB (HO4.out).inside (fun e => HT.out.2.1 e.symm)).trans HO4.out : Own w7 PB 68 _) (pk_then (HO.out.2.2.2.2.2.2.2.1.trans Grew.same HT.out.1) hg7 fun j e => (HO.out.1.lt j e).1))))
        clear ho7 hb7 hob7 hg7 hgr hpk7 hrow5 hlX hsz5
        go_wp2_with fail
        go_roundw
        case rel =>
          have hst := end_step HS.out.2.1 HS.out.2.2.2.2.2.2 HU.out.2.2.2.1 hn1 HN.out.1 HN.out.2.1 HO.out.2.2.2.2.2.2.2.2.1
          have hgp := cons_group (l := (S.drop k).take n) fun u hu => HS.out.2.2.2.2.2.2 u (List.mem_of_mem_drop (List.mem_of_mem_take hu))
          rw [HE.out.1, HE.out.2] at hgp
          refine ⟨k + n, outL ++ X, t', why', _, _, by rw [Nat.sub_sub], HT.out.2.2.2.2.2.2, ⟨by have := HQ.out.2.2.1; omega, by have := HQ.out.2.2.1; omega⟩, fun g' o' e hlt' => ?_, ?_, H7.out.2.1, H7.out.2.2.1, ?_, ?_, ?_, fun hf => ?_, H7.out.2.2.2, hst.1, ?_⟩
          · simp only [Option.some.injEq, Addr.mk.injEq, and_true] at e
            obtain ⟨rfl, rfl⟩ := e
            have hcn : ¬ c' = n := by have := HQ.out.2.2.1; omega
            first
              | rw [show o + k * 6 + n * 6 = o + (k + n) * 6 by omega, if_neg hcn]
              | rw [if_neg hcn, show o + k * 6 + n * 6 = o + (k + n) * 6 by omega]
              | rw [if_neg hcn]
          · rw [List.length_append, List.flatMap_append]
            exact H7.out.1
          · exact HO.out.2.2.2.1
          · rw [HO.out.2.2.2.2.1, hst.2.1]
            have : fitU ((S.drop k).take n) = true := by
              have h1 := hgp.1
              split at h1
              · assumption
              · have := HE0.out; omega
            rw [this, Bool.and_true]
          · exact HO.out.2.2.2.2.2.1
          · rw [hst.2.1, Bool.and_eq_true] at hf
            rw [List.map_append, HO.out.2.2.2.2.2.2.1 hf.1, hst.2.2, H4.out.1, hgp.2, if_pos hf.2]
          · rw [List.length_append]
            have := HT.out
            omega
        case measure => (simp [intOf]) <;> omega
      · have t1 : (E != 0) = true := bne_iff_ne.2 hE0
        have HE0 := Lib.hid hE0
        clear hE0
        have hxc := HU.out.1.head (by have := HU.out.2.2.1; omega)
        have hxat : UAt wi g (o + k * 6) x := by
          obtain ⟨b', o', e', _, hcc'⟩ := hxc
          simp only [Option.some.injEq, Addr.mk.injEq, and_true] at e'
          obtain ⟨rfl, rfl⟩ := e'
          exact fun j v hj => by have := hcc' 0 x HU.out.2.2.2.2 j v hj; rwa [Nat.zero_mul, Nat.add_zero] at this
        have hx4 := (hxat.past_ (belows HB3.out.1 (belows HB3.out.2 H4.out.2.2.2.1)) (Nat.lt_of_lt_of_le HQ.out.2.1.2 HO.out.2.2.2.2.2.2.2.1.size)).six
        obtain ⟨_, _, e2, e3, e4, _⟩ := hx4
        have y1 := fun (W : World) (hW : Below w4.heap.size w4 W) => Lib.hid (failL_any PB t' why' (.slice (some ⟨g, o, none⟩) M.length c) x.t W (HO4.out.past hW HO4.out.inside) HO.out.2.2.2.1)
        unfold FailSays at y1
        have hself : Below w4.heap.size w4 w4.drew := (Below.refl _ _).drew
        clear hxc hxat
        go_upto_region 8 with fail
        go_region_with (go_at_call 31; refine (y1 _ hself).out.mono ?_; rintro _ w5 ⟨rfl, t5, ho5, hk5⟩)
        all_goals
          have HF := Lib.hid (And.intro ho5 (PKeep.after (Below.refl _ _).drew hk5 : PKeep w4 w5 PB (.slice none 0 0)))
          clear ho5 hk5 e2 e3 e4 y1
          have hbi4 : Below wi.heap.size wi w4 := belows HB3.out.1 (belows HB3.out.2 H4.out.2.2.2.1)
          have hpk5 : PKeep wi w5 PB (.slice none 0 0) := PKeep.after hbi4 HF.out.2
          have hne5 : u5.ownBlock ≠ some PB := fun e => by have := (HO.out.1.lt _ e).1; have := HQ.out.2.2.2.1; omega
          have hsz3 : wi.heap.size ≤ V3.heap.size := Nat.le_trans HB3.out.1.size HB3.out.2.size
          have hszw : w1.heap.size ≤ wi.heap.size := HO.out.2.2.2.2.2.2.2.1.size
          have hrow5 := Lib.hid ((own_below HO.out.1 hbi4).kept (HF.out.2).grown (.inr hne5))
          have hout5 : ∀ u ∈ outL, UIn w5 (w5).heap.size u ∧ UOk u ∧ Aw PB u5 u ∧ Awn (fun b => w1.heap.size ≤ b) u := fun u hu => by
            obtain ⟨k1, k2, k3, k4⟩ := HO.out.2.1 u hu
            exact ⟨uin_pk k1 (k3.imp fun b hb => ⟨hb.1, by simp [Value.ownBlock]⟩) hpk5, k2, k3, k4⟩
          have hX5 : ∀ u ∈ X, UIn w5 (w5).heap.size u ∧ UOk u ∧ Aw PB u5 u ∧ Awn (fun b => w1.heap.size ≤ b) u := fun u hu => by
            have hlo := awn_lo H4.out.2.2.2.2 hu
            have hqq := HQ.out.2.2.2.1
            exact ⟨uin_pk (H4.out.2.1.each_ u hu) (hlo.imp fun b hb => ⟨by omega, by simp [Value.ownBlock]⟩) HF.out.2, H4.out.2.2.1 u hu, hlo.imp fun b hb => ⟨by omega, fun e => by have := (HO.out.1.lt _ e).2; omega⟩, hlo.imp fun b hb => by omega⟩
          have hlX := Lib.hid (lies_pk H4.out.2.1.head HF.out.2 (fun _ b o e => ⟨by have h1 := H4.out.2.2.2.2.1 b o e; have h2 := HQ.out.2.2.2.1; omega, by simp [Value.ownBlock]⟩))
          have hXn : X.length ≤ n := by
            have h1 := consL_len [(S.drop k).take n]
            rw [HE.out.2, ← H4.out.1, List.length_map] at h1
            simp only [List.flatten_cons, List.flatten_nil, List.append_nil] at h1
            rw [hlen2] at h1
            exact h1
          have hoLn : outL.length ≤ k := HO.out.2.2.2.2.2.2.2.2.2
          have hkn : k + n ≤ M.length := by have := HU.out.2.2.1; omega
          have hsz5 : w1.heap.size ≤ (w5).heap.size := Nat.le_trans hszw hpk5.size
          have HT := Lib.hid (And.intro hpk5 (And.intro hne5 (And.intro hout5 (And.intro hX5 (And.intro hXn (And.intro hoLn hkn))))))
          have hsum : outL.length + X.length ≤ 1099511627776 := by omega
          clear hbi4 hpk5 hne5 hsz3 hszw hout5 hX5
          go_wp2_with (at_builtin; refine wpList_append_grown _ rfl (.tmp 42) (.tmp 43) 22 44 rfl i0 _ 80 HI.out.1 HI.out.2.1 HI.out.2.2.1 HI.out.2.2.2.1 HI.out.2.2.2.2 rfl (by decide) ucells_len ucells_one w1.heap.size _ _ _ rfl hrow5.out _ rfl hlX.out ?xb1 ?xb2 ?xb3 ?_)
          case xb1 => unfold maxLen; omega
          case xb2 => omega
          case xb3 => exact hsz5
          intro v7 w7 ho7 hb7 hob7 hg7
          have hgr : Grew w5 u5 v7 := by
            rcases hob7 with e | e
            · exact .inl e
            · exact .inr ⟨_, e, Nat.le_refl _⟩
          have hpk7 : PKeep w5 w7 PB u5 := pk_grown hg7
          have H7 := Lib.hid (And.intro ho7 (And.intro (fun u (hu : u ∈ outL ++ X) => (by
            rcases List.mem_append.1 hu with hu | hu
            · obtain ⟨k1, k2, k3, k4⟩ := HT.out.2.2.1 u hu
              exact ⟨uin_pk k1 k3 hpk7, k2, k3.grew k1 hgr, k4⟩
            · obtain ⟨k1, k2, k3, k4⟩ := HT.out.2.2.2.1 u hu
              exact ⟨uin_pk k1 k3 hpk7, k2, k3.grew k1 hgr, k4⟩ : UIn w7 w7.heap.size u ∧ UOk u ∧ Aw PB v7 u ∧ Awn (fun b => w1.heap.size ≤ b) u)) (And.intro ((hg7.block PB (HF.out.1).inside (fun e => HT.out.2.1 e.symm)).trans HF.out.1 : Own w7 PB 68 _) (pk_then (HO.out.2.2.2.2.2.2.2.1.trans Grew.same HT.out.1) hg7 fun j e => (HO.out.1.lt j e).1))))
          clear ho7 hb7 hob7 hg7 hgr hpk7 hrow5 hlX hsz5
          go_wp2_with fail
          go_roundw
          case rel =>
            have hst := end_step HS.out.2.1 HS.out.2.2.2.2.2.2 HU.out.2.2.2.1 hn1 HN.out.1 HN.out.2.1 HO.out.2.2.2.2.2.2.2.2.1
            have hgp := cons_group (l := (S.drop k).take n) fun u hu => HS.out.2.2.2.2.2.2 u (List.mem_of_mem_drop (List.mem_of_mem_take hu))
            rw [HE.out.1, HE.out.2] at hgp
            refine ⟨k + n, outL ++ X, t5, 10, _, _, by rw [Nat.sub_sub], HT.out.2.2.2.2.2.2, ⟨by have := HQ.out.2.2.1; omega, by have := HQ.out.2.2.1; omega⟩, fun g' o' e hlt' => ?_, ?_, H7.out.2.1, H7.out.2.2.1, ?_, ?_, ?_, fun hf => ?_, H7.out.2.2.2, hst.1, ?_⟩
            · simp only [Option.some.injEq, Addr.mk.injEq, and_true] at e
              obtain ⟨rfl, rfl⟩ := e
              have hcn : ¬ c' = n := by have := HQ.out.2.2.1; omega
              first
                | rw [show o + k * 6 + n * 6 = o + (k + n) * 6 by omega, if_neg hcn]
                | rw [if_neg hcn, show o + k * 6 + n * 6 = o + (k + n) * 6 by omega]
                | rw [if_neg hcn]
            · rw [List.length_append, List.flatMap_append]
              exact H7.out.1
            · exact .inr rfl
            · have : fitU ((S.drop k).take n) = false := by
                have h1 := hgp.1
                split at h1
                · have := HE0.out; omega
                · rename_i h2; simpa using h2
              rw [hst.2.1, this, Bool.and_false]
              exact ⟨fun e => absurd e (by decide), fun e => absurd e.2 (by decide)⟩
            · intro e; exact absurd e (by decide)
            · rw [hst.2.1, Bool.and_eq_true] at hf
              have h1 := hgp.1
              rw [if_pos hf.2] at h1
              exact absurd h1 HE0.out
            · rw [List.length_append]
              have := HT.out
              omega
          case measure => (simp [intOf]) <;> omega
    · have hkM : k = M.length := by omega
      have htk : S.take k = S := by rw [hkM, ← HS.out.2.2.2.2.1, List.take_length]
      rw [htk] at hwf hmap
      have hpm := fitU_perm HS.out.1 HM.out.2.2.2.2.1
      rw [hpm.1] at hwf hmap
      rw [hpm.2] at hmap
      obtain ⟨A5, c5, rfl, _, _, h5⟩ := lies_of_own (size := 6) (cells := Up.cells) (l := outL) (by decide) ucells_len rfl hown
      have hRP : w.heap.size ≠ PB := by have := HPB.out.1; omega
      have hRlt : w.heap.size < w1.heap.size := HK.out.2.2.1.inside
      have hres : Own wi w.heap.size 27 [.int .u64 0, .int .u64 0, .int .u64 0] := (hpk.block _ hRlt hRP (by simp [Value.ownBlock])).trans HK.out.2.2.1
      obtain ⟨X0, hX, hXo0, hXk0, hXs⟩ := own_three hres (.int .u64 (t'.e : Int)) (.int .u64 (t'.a : Int)) (.int .u64 (t'.b : Int))
      obtain ⟨X, hXd⟩ : ∃ X, X = X0.drew := ⟨_, rfl⟩
      have hXo : Own X w.heap.size 27 [.int .u64 (t'.e : Int), .int .u64 (t'.a : Int), .int .u64 (t'.b : Int)] := hXd ▸ own_drew' hXo0
      have hXk : PKeep wi X w.heap.size (.slice none 0 0) := hXd ▸ hXk0.quiet (Below.refl _ _).drew
      have hown' : ∀ b o, A5 = some ⟨b, o, none⟩ → w1.heap.size ≤ b ∧ b < wi.heap.size := fun b o e => by subst e; exact hown.lt b rfl
      have hk2 : PKeep wi X w.heap.size (.slice none 0 0) := hXk
      have hu5 : Ups X X.heap.size A5 outL := ⟨lies_pk h5 hk2 fun hp b o e => ⟨by have := hown' b o e; omega, by simp [Value.ownBlock]⟩, fun u hu => uin_pk (hout u hu).1 ((hout u hu).2.2.2.imp fun b hb => ⟨by omega, by simp [Value.ownBlock]⟩) hk2⟩
      have hkk : PKeep w X PB (.slice A M.length c) := by
        have k1 := HK.out.1 PB
        refine ⟨hk2.os.trans (hpk.os.trans k1.os), hk2.tape.trans (hpk.tape.trans k1.tape), hk2.output.trans (hpk.output.trans k1.output), Nat.le_trans k1.size (Nat.le_trans hpk.size hk2.size), fun j hj h1 h2 => ?_⟩
        have hj1 : j < w1.heap.size := Nat.lt_of_lt_of_le hj k1.size
        exact (hk2.block j (Nat.lt_of_lt_of_le hj1 hpk.size) (by omega) (by simp [Value.ownBlock])).trans ((hpk.block j hj1 h1 (by simp [Value.ownBlock])).trans (k1.block j hj h1 h2))
      have HR := Lib.hid (And.intro hu5 (And.intro hkk (And.intro (fun u hu => (hout u hu).2.1) (And.intro (fun b o e => Nat.le_trans (Nat.le_of_lt hRlt) (hown' b o e).1) (fun u hu => (hout u hu).2.2.2.imp fun b hb => Nat.le_trans (Nat.le_of_lt hRlt) hb)))))
      have HLn := Lib.hid (show outL.length ≤ M.length by omega)
      have HW := Lib.hid (And.intro hwy (And.intro hwf (And.intro hwt (And.intro hmap hkM))))
      have HSO := Lib.hid (fun W (h : Own W PB 68 [.int .u64 (t'.e : Int), .int .u64 (t'.a : Int), .int .u64 (t'.b : Int), .int .i64 why', .slice A M.length c]) => (⟨h.at_ 0, h.at_ 1, h.at_ 2, h.at_ 3⟩ : W.cell? ⟨PB, 0, none⟩ = some (.int .u64 (t'.e : Int)) ∧ W.cell? ⟨PB, 1, none⟩ = some (.int .u64 (t'.a : Int)) ∧ W.cell? ⟨PB, 2, none⟩ = some (.int .u64 (t'.b : Int)) ∧ W.cell? ⟨PB, 3, none⟩ = some (.int .i64 why')))
      have q2 : decide ((0 : Int) < ((M.length - k : Nat) : Int)) = false := decide_eq_false (by omega)
      obtain ⟨d0, d1, d2, d3⟩ := HSO.out wi hpb
      have z0 := hres.at_ 0
      have z1 := hres.at_ 1
      have z2 := hres.at_ 2
      have f0 := hres.open_ 0
      have f1 := hres.open_ 1
      have f2 := hres.open_ 2
      have x0 := hXo.at_ 0
      have x1 := hXo.at_ 1
      have x2 := hXo.at_ 2
      simp only [List.getElem?_cons_zero, List.getElem?_cons_succ] at z0 z1 z2 x0 x1 x2
      clear hown hout hwy hwf hwt hmap hpk hbd hlen hpm htk h5 hres hXo hXk hXs hXo0 hXk0 hown' hk2 hu5 hkk hadr hcc hkM hk
      go_upto_region 11 with fail
      go_region_held3 (fun w' => Own w' PB 68 [.int .u64 (t'.e : Int), .int .u64 (t'.a : Int), .int .u64 (t'.b : Int), .int .i64 why', .slice A M.length c] ∧ (w'.cell? ⟨PB, 0, none⟩ = some (.int .u64 (t'.e : Int)) ∧ w'.cell? ⟨PB, 1, none⟩ = some (.int .u64 (t'.a : Int)) ∧ w'.cell? ⟨PB, 2, none⟩ = some (.int .u64 (t'.b : Int)) ∧ w'.cell? ⟨PB, 3, none⟩ = some (.int .i64 why')))
        ((refine (fun h => And.intro h (HSO.out _ h)) ?_; repeat (first | with_reducible exact hpb | with_reducible refine Own.other ?_ hRP _ | with_reducible refine own_drew' ?_)))
        (first | fail)
      all_goals
        go_wp2_with fail
        rw [← hX, ← hXd]
        exact bodyPost_ret (v := .tuple #[.slice A5 outL.length c5, .agg #[.int .u64 (t'.e : Int), .int .u64 (t'.a : Int), .int .u64 (t'.b : Int)], .int .i64 why']) (by simp [results, Tryz.results22, go_sem, x0, x1, x2]) rfl ⟨A5, c5, outL, t', why', rfl, HW.out.1, HW.out.2.1, fun e => ⟨HW.out.2.2.2.1 (HW.out.2.1.1 e).2, HW.out.2.2.1 e⟩, HR.out.1, HR.out.2.2.1, HR.out.2.1, HR.out.2.2.2.1, HR.out.2.2.2.2, HLn.out⟩
end Go.Proofs.YtcfldgncmbcpmaaGreat
namespace Go.Proofs.YtcfldgncmbcpmaaGreat
open Go Go.RowKit Go.Maps

/-- how a function of the map reads: by its number -/
def fR (v : Value) : Option (DataW Unit × List MemPlace) :=
  match v with
  | .func (.func n) a b => if a = #[] ∧ b = #[] then some (.lit (.int .i64 (n : Int)), []) else none
  | .nilFunc => some (.lit (.bool false), [])
  | _ => none
theorem fR_fun (n : Nat) : fR (.func (.func n) #[] #[]) = some (.lit (.int .i64 (n : Int)), []) := by simp [fR]
theorem fR_inv {v : Value} {n : Nat} {ps : List MemPlace} (h : fR v = some (.lit (.int .i64 (n : Int)), ps)) : v = .func (.func n) #[] #[] := by
  unfold fR at h
  split at h
  · rename_i m a b
    split at h
    · rename_i hab
      simp only [Option.some.injEq, Prod.mk.injEq, DataW.lit.injEq, Lit.int.injEq, true_and] at h
      obtain ⟨rfl, rfl⟩ := hab
      have : m = n := Int.ofNat_inj.1 h.1
      rw [this]
    · cases h
  · simp at h
  · cases h
theorem fR_nil {v : Value} {ps : List MemPlace} (h : fR v = some (.lit (.bool false), ps)) : v = .nilFunc := by
  unfold fR at h
  split at h
  · rename_i m a b
    split at h
    · simp at h
    · cases h
  · rfl
  · cases h
/-- 'm[k] = v' in a composite literal -/
theorem wpList_insert_own {H : Type} {P : Program} (w : World) {ops : Array Oper} {rest : List Oper} {o : Oper} {a : Act} {Q : Exit → Act → World → Prop}
    (hg : o.guard = none) (m x v : Operand) (t : TypeId) (hop : o.op = Op.insert t m x v)
    (k e : TypeId) (K : Keyed P k) (ht : P.underlying t = some (.map k e)) (R : Value → Option (DataW H × List MemPlace)) (b n : Nat) (D : DataW H)
    (hm : a.eval m = .map (some b)) (hown : w.ownsMap P k R b n D) (hn : n < maxLen) (key val : Value) (kl : Lit) (hx : a.eval x = key) (hv : a.eval v = val) (hkey : keyOf P k key = some kl)
    (d : DataW H) (ps : List MemPlace) (hval : R val = some (d, ps))
    (hK : ∀ w', w'.ownsMap P k R b (n + 1) (D.put kl d) → w.grownBy w' (some b) → wpList P ops Q rest (a.put o.dst undef) w') :
    wpList P ops Q (o :: rest) a w := by
  refine wpList_plain hg fun K' hK' => ?_
  obtain ⟨w', hrun, r1, r2⟩ := hown.update K ht hn hkey hval
  unfold Oper.wp
  simp [execOp, hop, hm, hx, hv, hrun, Result.andThen]
  exact hK' _ _ (hK w' r1 r2)
theorem zeroMk (w : World) : (zeroValue 61).run Tryz.prog w = .ok .nilFunc w := by
  have h : (Tryz.prog.info? 61).map (fun i => i.zero) = some (some .nilFunc) := by kernel_rfl
  cases hq : Tryz.prog.info? 61 with
  | none => rw [hq] at h; cases h
  | some i =>
    rw [hq] at h
    have hz : i.zero = some .nilFunc := by simpa using h
    simp [zeroValue, typeInfo, hq, hz]
theorem keyedK : Keyed Tryz.prog 31 := int_keyed (q := .u8) Tryz.underlying31
theorem keyK (n : Int) (h : 0 ≤ n ∧ n ≤ 255) : keyOf Tryz.prog 31 (.int .u8 n) = some (.int .u8 n) :=
  keyOf_int_mk Tryz.underlying31 (by simp [Lit.wf, IntKind.min, IntKind.max, IntKind.signed, IntKind.bits]; omega)
def mkD : DataW Unit := ((((DataW.map []).put (.int .u8 3) (.lit (.int .i64 (38 : Nat)))).put (.int .u8 4) (.lit (.int .i64 (39 : Nat)))).put (.int .u8 5) (.lit (.int .i64 (40 : Nat)))).put (.int .u8 6) (.lit (.int .i64 (41 : Nat)))
/-- which function makes what a kind of plan makes -/
def mkF (k : Int) : Option Nat := if k = 3 then some 38 else if k = 4 then some 39 else if k = 5 then some 40 else if k = 6 then some 41 else none
theorem mkD_at (k : Int) (h : 0 ≤ k ∧ k ≤ 255) : Maps.has mkD (.int .u8 k) = (mkF k).isSome ∧ mkD.atKey (.int .u8 k) (.lit (.bool false)) = (match mkF k with | some n => .lit (.int .i64 (n : Int)) | none => .lit (.bool false)) := by
  by_cases h3 : k = 3
  · subst h3; exact ⟨by kernel_rfl, by kernel_rfl⟩
  by_cases h4 : k = 4
  · subst h4; exact ⟨by kernel_rfl, by kernel_rfl⟩
  by_cases h5 : k = 5
  · subst h5; exact ⟨by kernel_rfl, by kernel_rfl⟩
  by_cases h6 : k = 6
  · subst h6; exact ⟨by kernel_rfl, by kernel_rfl⟩
  have hf : mkF k = none := by unfold mkF; simp [h3, h4, h5, h6]
  rw [hf]
  have ne : ∀ m : Int, k ≠ m → (Lit.int .u8 k) ≠ .int .u8 m := fun m hm e => by injection e; contradiction
  unfold mkD
  rw [has_put_other (ne 6 h6), has_put_other (ne 5 h5), has_put_other (ne 4 h4), has_put_other (ne 3 h3), atKey_put_other (ne 6 h6), atKey_put_other (ne 5 h5), atKey_put_other (ne 4 h4), atKey_put_other (ne 3 h3)]
  exact ⟨rfl, rfl⟩
/-- what the makers' map tells of a kind -/
def mkV (k : Int) : Value := match mkF k with | some n => .func (.func n) #[] #[] | none => .nilFunc
def MakersSays (w : World) (e : Ending) (w' : World) : Prop :=
  ∃ G, e = .returned (.map (some G)) ∧ Below w.heap.size w w' ∧ ∀ (W : World), Below w'.heap.size w' W → ∀ k : Int, 0 ≤ k ∧ k ≤ 255 → (Instr.lookup 63 (.map (some G)) (.int .u8 k) true).run Tryz.prog W = .ok (.tuple #[mkV k, .bool (mkF k).isSome]) W
theorem owns_below {P : Program} {k : TypeId} {R : Value → Option (DataW Unit × List MemPlace)} {w W : World} {b n : Nat} {D : DataW Unit} (h : w.ownsMap P k R b n D) (hb : Below w.heap.size w W) : W.ownsMap P k R b n D :=
  h.kept (row := none) ⟨hb.os, hb.tape, hb.output, hb.size, fun j hj _ => hb.block j hj⟩ (by simp)
theorem makers_look {w' : World} {G : Nat} (h : w'.ownsMap Tryz.prog 31 fR G 4 mkD) (W : World) (hb : Below w'.heap.size w' W) (k : Int) (hk : 0 ≤ k ∧ k ≤ 255) :
    (Instr.lookup 63 (.map (some G)) (.int .u8 k) true).run Tryz.prog W = .ok (.tuple #[mkV k, .bool (mkF k).isSome]) W := by
  obtain ⟨v, ps, hrun, hv⟩ := (owns_below h hb).look_ok keyedK Tryz.underlying63 (zeroMk W) (zd := .lit (.bool false)) (zp := []) rfl (keyK k hk)
  obtain ⟨h1, h2⟩ := mkD_at k hk
  rw [h1] at hrun
  rw [h2] at hv
  unfold mkV
  cases hq : mkF k with
  | none =>
    rw [hq] at hv hrun
    rw [fR_nil hv] at hrun
    exact hrun
  | some n =>
    rw [hq] at hv hrun
    rw [fR_inv hv] at hrun
    exact hrun
set_option maxRecDepth 100000 in
set_option maxHeartbeats 1600000 in
theorem makers_any (w : World) : Calls Tryz.prog 20 #[] w (MakersSays w) := by
  have hmm := @run_makeMap Tryz.prog
  have h0 := World.ownsMap_made w Tryz.prog 31 fR
  obtain ⟨W, hW⟩ : ∃ W, W = w.alloc (.map #[] 0) := ⟨_, rfl⟩
  have hb0 : Below w.heap.size w W := hW ▸ (Below.refl _ _).alloc (Nat.le_refl _) _
  have hs0 : W.heap.size = w.heap.size + 1 := by rw [hW]; simp
  rw [← hW] at h0
  have HB := Lib.hid (And.intro hb0 hs0)
  clear hb0 hs0
  go_enter Tryz.func20, Tryz.ntmps20
  go_wp2_with (first | (rw [← hW]; refine wpList_insert_own _ rfl _ _ _ 63 rfl 31 61 keyedK Tryz.underlying63 fR w.heap.size 0 _ rfl h0 (by decide) _ _ (.int .u8 3) rfl rfl (keyK 3 (by decide)) _ [] (fR_fun 38) ?_))
  intro w1 h1 g1
  go_wp2_with (first | (refine wpList_insert_own _ rfl _ _ _ 63 rfl 31 61 keyedK Tryz.underlying63 fR w.heap.size 1 _ rfl h1 (by decide) _ _ (.int .u8 4) rfl rfl (keyK 4 (by decide)) _ [] (fR_fun 39) ?_))
  intro w2 h2 g2
  go_wp2_with (first | (refine wpList_insert_own _ rfl _ _ _ 63 rfl 31 61 keyedK Tryz.underlying63 fR w.heap.size 2 _ rfl h2 (by decide) _ _ (.int .u8 5) rfl rfl (keyK 5 (by decide)) _ [] (fR_fun 40) ?_))
  intro w3 h3 g3
  go_wp2_with (first | (refine wpList_insert_own _ rfl _ _ _ 63 rfl 31 61 keyedK Tryz.underlying63 fR w.heap.size 3 _ rfl h3 (by decide) _ _ (.int .u8 6) rfl rfl (keyK 6 (by decide)) _ [] (fR_fun 41) ?_))
  intro w4 h4 g4
  go_wp2_with fail
  go_ret
  have hbb : ∀ {a b : World}, Below w.heap.size w a → a.grownBy b (some w.heap.size) → Below w.heap.size w b := fun h g => h.grown g h.size fun j hj => by cases hj; exact Nat.le_refl _
  exact ⟨_, rfl, hbb (hbb (hbb (hbb ((Below.refl _ _).alloc (Nat.le_refl _) _) g1) g2) g3) g4, fun W hW k hk => makers_look h4 W hW k hk⟩
end Go.Proofs.YtcfldgncmbcpmaaGreat
namespace Go.Proofs.YtcfldgncmbcpmaaGreat
open Go Go.RowKit

/-- a slice at A of as many numbers as l has reads as l; it lies below block B -/
def Ints (w : World) (B : Nat) (A : Option Addr) (l : List Int) : Prop :=
  0 < l.length → ∃ b o, A = some ⟨b, o, none⟩ ∧ b < B ∧ ∀ (i : Nat) (n : Int), l[i]? = some n → w.cell? ⟨b, o + i, none⟩ = some (.int .i64 n)
section
variable {w w' : World} {B B' b o : Nat} {A : Option Addr} {l : List Int}
theorem Ints.past (h : Ints w B A l) (hb : Below B' w w') (hB : B ≤ B') : Ints w' B A l := fun hn => by
  obtain ⟨b, o, e, hlt, hc⟩ := h hn
  exact ⟨b, o, e, hlt, fun i n hi => (hb.cell (p := ⟨b, o + i, none⟩) (show b < B' by omega)).trans (hc i n hi)⟩
theorem Ints.wide (h : Ints w B A l) (hB : B ≤ B') : Ints w B' A l := fun hn => by
  obtain ⟨b, o, e, hlt, hc⟩ := h hn
  exact ⟨b, o, e, by omega, hc⟩
theorem Ints.nil_ : Ints w B A [] := fun h => absurd h (by simp)
end
theorem ints_keep {a b : World} {A : Option Addr} {l : List Int} (h : Ints a a.heap.size A l) (hb : Below a.heap.size a b) : Ints b b.heap.size A l := (h.past hb (Nat.le_refl _)).wide hb.size
/-- all of them fit a word -/
def Fit64 (l : List Int) : Prop := ∀ n ∈ l, -9223372036854775808 ≤ n ∧ n ≤ 9223372036854775807
end Go.Proofs.YtcfldgncmbcpmaaGreat
namespace Go.Proofs.YtcfldgncmbcpmaaGreat
open Go Go.RowKit

theorem take_bound {l : List Int} (h : Fit64 l) (hn : l.length ≤ 9223372036854775807) (k : Nat) : -170141183460469231731687303715884105728 ≤ (l.take k).sum ∧ (l.take k).sum < 170141183460469231731687303715884105728 := by
  have h1 := sum_bound (l.take k) fun n hn => h n (List.mem_of_mem_take hn)
  have h2 : (l.take k).length ≤ l.length := List.length_take_le' ..
  omega
set_option maxRecDepth 100000 in
set_option maxHeartbeats 1600000 in
theorem sum_any (A : Option Addr) (c : Nat) (l : List Int) (w : World) (hl : Ints w w.heap.size A l) (hn : l.length ≤ maxLen) (hs : Fit64 l) :
    Calls Tryz.prog 133 #[.slice A l.length c] w fun e w' => e = .returned (.tuple #[.int .i64 (fitN l.sum), .int .i64 (fitE l.sum)]) ∧ Below w.heap.size w w' := by
  have htb := Lib.hid (take_bound hs (by unfold maxLen at hn; omega) l.length)
  unfold maxLen at hn
  have Hl := Lib.hid (And.intro hl hs)
  clear hl hs
  have hof := fun n W h1 h2 => Lib.hid (of_any n W h1 h2)
  have hadd := fun S T g W h => Lib.hid (add_any S T g W h)
  have hnum := fun S W h1 h2 => Lib.hid (number_any S W h1 h2)
  go_enter Tryz.func133, Tryz.ntmps133
  go_wp2_with fail
  go_loopw [9] (fun i wr => ∃ k : Nat, i = .int .i64 (k : Int) ∧ k ≤ l.length ∧ Below w.heap.size w wr ∧ Own wr w.heap.size 86 [.int .u64 (hiW (l.take k).sum), .int .u64 (loW (l.take k).sum)])
    (fun i _ => l.length - (intOf i).toNat)
  case atStart => exact ⟨0, rfl, by omega, (Below.refl _ _).alloc (Nat.le_refl _) _, Own.made w _ _⟩
  case round =>
    obtain ⟨k, rfl, hk, hb, ho⟩ := hrel
    by_cases hlt : k < l.length
    · have hx : l[k]? = some l[k] := List.getElem?_eq_getElem hlt
      obtain ⟨b, o, rfl, hB, hl⟩ := Hl.out.1 (by omega)
      have c0 := (hb.cell (p := ⟨b, o + k, none⟩) hB).trans (hl k _ hx)
      obtain ⟨h1, h2⟩ := Hl.out.2 _ (List.mem_of_getElem? hx)
      have hsn := sum_snoc l k _ hx
      generalize l[k] = n at *
      have HH := Lib.hid (And.intro hb (And.intro ho hsn))
      clear hb ho hl hx hsn
      go_wp2_with fail
      refine (hof n _ h1 h2).out.mono ?_
      rintro e w1 ⟨rfl, b1⟩
      have H1 := Lib.hid b1
      clear b1
      go_wp2_with fail
      refine (hadd (l.take k).sum n w.heap.size _ (HH.out.2.1.past H1.out HH.out.2.1.inside)).out.mono ?_
      rintro e w2 ⟨rfl, o2, b2⟩
      have H2 := Lib.hid (And.intro o2 b2)
      clear o2 b2
      go_wp2_with fail
      go_roundw
      case rel =>
        obtain ⟨hb, ho, hsn⟩ := HH.out
        exact ⟨k + 1, by go_num, by omega, (hb.trans (H1.out.mono hb.size)).trans (H2.out.2 _ (Nat.le_refl _)), own_of H2.out.1 (by rw [hsn])⟩
      case measure => simp [intOf]; omega
    · have hk2 : k = l.length := by omega
      subst hk2
      have c0 := ho.at_ 0
      have c1 := ho.at_ 1
      rw [List.take_length] at c0 c1
      simp only [List.getElem?_cons_zero, List.getElem?_cons_succ] at c0 c1
      have HH := Lib.hid hb
      have HT := htb.out
      rw [List.take_length] at HT
      have HT := Lib.hid HT
      clear hb ho
      go_wp2_with fail
      refine (hnum l.sum _ HT.out.1 HT.out.2).out.mono ?_
      rintro e w3 ⟨rfl, b3⟩
      go_wp2_with fail
      go_ret2
      exact ⟨rfl, HH.out.trans (b3.mono HH.out.size)⟩
end Go.Proofs.YtcfldgncmbcpmaaGreat
namespace Go.Proofs.YtcfldgncmbcpmaaGreat
open Go Go.RowKit

section
variable {P : Program} {ops : Array Oper} {md : Region.Mode} {C : World → Prop}
def wpAnyT (P : Program) (md : Region.Mode) (ops : Array Oper) (C : World → Prop) (n : Nat) (L : Array Bool → Act → Prop) : Nat → Array Bool → Act → Prop
  | 0, listed, a => L listed a
  | f + 1, listed, a =>
    Region.ready md ops listed ≠ [] ∧ ∀ i ∈ Region.ready md ops listed, i < n ∧ qOp P ops C i (wpAnyT P md ops C n L f (listed.setIfInBounds i true)) a
theorem wpAny_of_headT {n g : Nat} {L : Array Bool → Act → Prop} {Q' : Exit → Act → World → Prop} (hL : ∀ listed a w, C w → L listed a → wpAny P md ops Q' g listed a w) :
    ∀ (f : Nat) (listed : Array Bool) (a : Act) (w : World), C w → wpAnyT P md ops C n L f listed a → wpAny P md ops Q' (f + g) listed a w
  | 0, listed, a, w, hw, h => by rw [Nat.zero_add]; exact hL _ _ _ hw h
  | f + 1, listed, a, w, hw, h => by
    rw [show f + 1 + g = (f + g) + 1 by omega]
    exact ⟨fun h0 => absurd h0 h.1, fun i hi => wpOp_of_qOp hw (fun a' w' hw' h' => wpAny_of_headT hL f _ a' w' hw' h') (h.2 i hi).2⟩
theorem wpAnyT_first {n i : Nat} {oi : Oper} {v : Value} {L : Array Bool → Act → Prop} (hi : ops[i]? = some oi) (hsel : ∀ (j : Nat) (o : Oper) cs b, ops[j]? = some o → o.op ≠ .select cs b)
    (hs : Region.sinkB md ops n = true) (hc : Region.chainB md ops n = true) (hn : n < ops.size) (hin : i < n)
    (hdone : ∀ listed a, L listed a → ∀ j ∈ Region.ready md ops listed, n ≤ j) :
    ∀ (f : Nat) (listed : Array Bool) (a : Act), HeadInv md ops n listed →
      (∀ j oj, ops[j]? = some oj → j ≠ i → listed.getD j true = false → (∀ e ∈ oj.after, Region.binds md e = true → e.on ≠ i) → oi.apart ops oj = true) →
      i ∈ Region.ready md ops listed → YieldsIn P ops C oi v a →
      wpAnyT P md ops C n L f (listed.setIfInBounds i true) (a.put oi.dst v) → wpAnyT P md ops C n L (f + 1) listed a := by
  intro f
  induction f with
  | zero =>
    intro listed a inv _ hr hy H
    have hun := (mem_ready.1 hr).1
    refine ⟨fun h => (by rw [h] at hr; cases hr), fun j hj => ?_⟩
    have hjn : j < n := by
      rcases Nat.lt_or_ge j n with h | h
      · exact h
      · exact absurd hj (tail_waits hs hc hn inv _ i rfl hin hun j h)
    refine ⟨hjn, ?_⟩
    by_cases hji : j = i
    · subst hji; exact hy.qOp hi H
    · have := hdone _ _ H j (ready_mono hj hji)
      omega
  | succ f ih =>
    intro listed a inv hfree hr hy H
    have hun := (mem_ready.1 hr).1
    refine ⟨fun h => (by rw [h] at hr; cases hr), fun j hj => ?_⟩
    have hjn : j < n := by
      rcases Nat.lt_or_ge j n with h | h
      · exact h
      · exact absurd hj (tail_waits hs hc hn inv _ i rfl hin hun j h)
    refine ⟨hjn, ?_⟩
    by_cases hji : j = i
    · subst hji; exact hy.qOp hi H
    · have h1 := (H.2 j (ready_mono hj hji)).2
      obtain ⟨hjun, oj, hoj, hall⟩ := mem_ready.1 hj
      have hnot : ∀ e ∈ oj.after, Region.binds md e = true → e.on ≠ i := fun e he hb heq => by
        have h1 := hall e he hb
        rw [heq, getD_both hun] at h1
        cases h1
      have h2 := qOp_put hoj (hfree j oj hoj hji hjun hnot) (fun cs b => hsel i oi cs b hi) (fun cs b => hsel j oj cs b hoj) hy h1
      have hfree' : ∀ k ok, ops[k]? = some ok → k ≠ i → (listed.setIfInBounds j true).getD k true = false →
          (∀ e ∈ ok.after, Region.binds md e = true → e.on ≠ i) → oi.apart ops ok = true := fun k ok hk hki hun hno => by
        refine hfree k ok hk hki ?_ hno
        by_cases hjk : j = k
        · subst hjk; exact hjun
        · rw [getD_set_ne true hjk] at hun; exact hun
      refine qOp_mono (fun a' h3 => ih (listed.setIfInBounds j true) a' (inv.set hj hjn) hfree' (ready_mono hr (Ne.symm hji)) h3.1 ?_) h2
      rw [Array.setIfInBounds_comm _ _ hji]
      exact h3.2
theorem wpAnyT_lex {n g : Nat} {Lq : Act → Prop} (hsel : Region.noSelect ops = true) (hs : Region.sinkB md ops n = true) (hc : Region.chainB md ops n = true) (hn : n < ops.size) :
    ∀ (l : List Oper) (k : Nat) (listed : Array Bool) (a : Act), (∀ j, j < l.length → l[j]? = ops[k + j]?) → k + l.length = n → HeadInv md ops n listed →
    Region.lexHead md ops g l.length k listed = true → wpQuiet P ops C Lq l a →
    wpAnyT P md ops C n (fun listed' a' => Region.seqB md ops g n listed' = true ∧ Lq a') l.length listed a
  | [], k, listed, a, _, hk, _, hB, h => by
    have : k = n := by simpa using hk
    subst this
    exact ⟨by simpa [Region.lexHead] using hB, h⟩
  | o :: l, k, listed, a, hl, hk, inv, hB, h => by
    have h0 : ops[k]? = some o := by simpa using (hl 0 (by simp)).symm
    simp only [List.length_cons, Region.lexHead, Bool.and_eq_true] at hB
    obtain ⟨⟨hr, hf⟩, hB'⟩ := hB
    have hkn : k < n := by simp only [List.length_cons] at hk; omega
    have hr' : k ∈ Region.ready md ops listed := by simpa using hr
    have hst : qOp P ops C k (wpQuiet P ops C Lq l) a := by unfold qOp; simp only [h0]; exact h
    obtain ⟨v, hy, hK⟩ := yieldsIn_of_qOp h0 hst
    exact wpAnyT_first h0 (Region.noSelect_spec hsel) hs hc hn hkn (fun listed' a' hL => seqB_ready hL.1) l.length listed a inv (Region.free_spec h0 hf) hr' hy
      (wpAnyT_lex hsel hs hc hn l (k + 1) _ _ (fun j hj => by have := hl (j + 1) (by simp; omega); simpa [Nat.add_assoc, Nat.add_comm 1 j] using this) (by simp only [List.length_cons] at hk; omega) (inv.set hr' hkn) hB' hK)
theorem wp_region_quiet_tail {id : Nat} {Q : Exit → Act → World → Prop} {a : Act} {w : World} {l : List Oper} (n : Nat) (hm : P.follows .mixedOrders = true) (hB : Region.lexTailB .any l.toArray n = true) (hC : C { w with drawn := w.drawn + 1 })
    (h : wpQuiet P l.toArray C (fun a' => ∀ w', C w' → wpList P l.toArray Q (l.drop n) a' w') (l.take n) a) : (Code.region id l.toArray true).wp P Q a w := by
  simp only [Region.lexTailB, Bool.and_eq_true, decide_eq_true_eq] at hB
  obtain ⟨⟨⟨⟨hsel, hn⟩, hs⟩, hc⟩, hlex⟩ := hB
  have hn' : n < l.length := by simpa using hn
  have htl : (l.take n).length = n := by simp; omega
  have hdl : (l.drop n).length = l.toArray.size - n := by simp
  have inv0 : HeadInv .any l.toArray n (Array.replicate l.toArray.size false) :=
    ⟨by simp, fun j oj _ hl => (by rw [getD_replicate_false] at hl; cases hl), fun t _ ht => getD_in (by simpa using ht) (getD_replicate_false _ _)⟩
  have H := wpAnyT_lex (md := .any) (g := l.toArray.size - n) hsel hs hc hn (l.take n) 0 _ a (fun j hj => by
    have hj' : j < n := by rw [htl] at hj; exact hj
    simp [hj']) (by simpa using htl) inv0 (by rw [htl]; exact hlex) h
  refine wp_region_any hm ?_
  have := wpAny_of_headT (Q' := Q) (g := l.toArray.size - n) (C := C) (fun listed a' w' hw' hL => by
    have := wpAny_of_seq (Q' := Q) (l.drop n) n listed a' w' (fun j => by simp) (by rw [hdl]; exact hL.1) (hL.2 w' hw')
    rwa [hdl] at this) _ _ _ _ hC H
  rw [htl, show n + (l.toArray.size - n) = l.toArray.size by omega] at this
  exact this
end
theorem wp_region_past_tail {P : Program} {id : Nat} {Q : Exit → Act → World → Prop} {a : Act} {w : World} {l : List Oper} (V : World) (n : Nat) (hm : P.follows .mixedOrders = true) (hB : Region.lexTailB .any l.toArray n = true) (hV : Below V.heap.size V w)
    (h : wpQuiet P l.toArray (fun w' => ∃ p : Past V, w' = p.w) (fun a' => ∀ w', (∃ p : Past V, w' = p.w) → wpList P l.toArray Q (l.drop n) a' w') (l.take n) a) : (Code.region id l.toArray true).wp P Q a w :=
  wp_region_quiet_tail (C := fun w' => ∃ p : Past V, w' = p.w) n hm hB ⟨⟨_, hV.drew⟩, rfl⟩ h
end Go.Proofs.YtcfldgncmbcpmaaGreat
namespace Go.Proofs.YtcfldgncmbcpmaaGreat
open Go Go.RowKit

/-- the product of two words, as two words -/
def mulHi (x y : Int) : Int := x * y / 18446744073709551616
def mulLo (x y : Int) : Int := x * y % 18446744073709551616
theorem hi_neg (n : Int) (h1 : -9223372036854775808 ≤ n) (h2 : n < 0) : hiW n = 18446744073709551615 := by unfold hiW; omega
theorem hi_pos (n : Int) (h1 : 0 ≤ n) (h2 : n ≤ 9223372036854775807) : hiW n = 0 := by unfold hiW; omega
theorem and_all (y : Int) (h0 : 0 ≤ y) (h1 : y < 18446744073709551616) : bits BinOp.and IntKind.u64 18446744073709551615 y = y := by
  have h := bits_and_u64_nat 18446744073709551615 y.toNat (by omega) (by omega)
  rw [Nat.and_comm, show (18446744073709551615 : Nat) = 2 ^ 64 - 1 from rfl, Nat.and_two_pow_sub_one_eq_mod, Int.toNat_of_nonneg h0] at h
  exact h.trans (by omega)
theorem and_none (y : Int) (h0 : 0 ≤ y) (h1 : y < 18446744073709551616) : bits BinOp.and IntKind.u64 0 y = 0 := by
  have h := bits_and_u64_nat 0 y.toNat (by omega) (by omega)
  rw [Nat.zero_and, Int.toNat_of_nonneg h0] at h
  exact h
theorem and_hi (n y : Int) (h1 : -9223372036854775808 ≤ n) (h2 : n ≤ 9223372036854775807) (h3 : 0 ≤ y) (h4 : y < 18446744073709551616) : bits BinOp.and IntKind.u64 (hiW n) y = if n < 0 then y else 0 := by
  split
  · rw [hi_neg n h1 (by assumption), and_all y h3 h4]
  · rw [hi_pos n (by omega) h2, and_none y h3 h4]
theorem lo_case (n : Int) (h1 : -9223372036854775808 ≤ n) (h2 : n ≤ 9223372036854775807) : loW n = if n < 0 then n + 18446744073709551616 else n := by unfold loW; split <;> omega
theorem mul_lo (a b : Int) (h1 : -9223372036854775808 ≤ a) (h2 : a ≤ 9223372036854775807) (h3 : -9223372036854775808 ≤ b) (h4 : b ≤ 9223372036854775807) : mulLo (loW a) (loW b) = loW (a * b) := by
  unfold mulLo
  show loW a * loW b % 18446744073709551616 = (a * b) % 18446744073709551616
  unfold loW
  rw [← Int.mul_emod]
theorem mul_hi (a b : Int) (h1 : -9223372036854775808 ≤ a) (h2 : a ≤ 9223372036854775807) (h3 : -9223372036854775808 ≤ b) (h4 : b ≤ 9223372036854775807) :
    IntKind.u64.wrap (mulHi (loW a) (loW b) - IntKind.u64.wrap (bits BinOp.and IntKind.u64 (hiW a) (loW b) + bits BinOp.and IntKind.u64 (hiW b) (loW a))) = hiW (a * b) := by
  obtain ⟨a1, a2⟩ := loW_bound a
  obtain ⟨b1, b2⟩ := loW_bound b
  rw [and_hi a _ h1 h2 b1 b2, and_hi b _ h3 h4 a1 a2, wrapU, wrapU]
  clear a1 a2 b1 b2
  unfold mulHi hiW
  rw [lo_case a h1 h2, lo_case b h3 h4]
  by_cases ha : a < 0 <;> by_cases hb : b < 0 <;> simp only [ha, hb, if_true, if_false]
  · rw [Int.add_mul, Int.mul_add, Int.mul_add]; generalize a * b = Q at *; omega
  · rw [Int.add_mul]; generalize a * b = Q at *; omega
  · rw [Int.mul_add]; generalize a * b = Q at *; omega
  · generalize a * b = Q at *; omega
theorem mul_bound (a b : Int) (h1 : -9223372036854775808 ≤ a) (h2 : a ≤ 9223372036854775807) (h3 : -9223372036854775808 ≤ b) (h4 : b ≤ 9223372036854775807) : -170141183460469231731687303715884105728 ≤ a * b ∧ a * b < 170141183460469231731687303715884105728 := by
  have h := Int.natAbs_mul a b
  have k := Nat.mul_le_mul (show a.natAbs ≤ 9223372036854775808 by omega) (show b.natAbs ≤ 9223372036854775808 by omega)
  rw [← h] at k
  generalize a * b = Q at *
  omega

set_option maxRecDepth 100000 in
set_option maxHeartbeats 1600000 in
theorem times_any (a b : Int) (w : World) (h1 : -9223372036854775808 ≤ a) (h2 : a ≤ 9223372036854775807) (h3 : -9223372036854775808 ≤ b) (h4 : b ≤ 9223372036854775807)
    (hmul : ∀ W, Calls Tryz.prog 46 #[.int .u64 (loW a), .int .u64 (loW b)] W fun e w' => e = .returned (.tuple #[.int .u64 (mulHi (loW a) (loW b)), .int .u64 (mulLo (loW a) (loW b))]) ∧ W = w') :
    Calls Tryz.prog 27 #[.int .i64 a, .int .i64 b] w fun e w' => e = .returned (.tuple #[.int .i64 (fitN (a * b)), .int .i64 (fitE (a * b))]) ∧ Below w.heap.size w w' := by
  have ea : IntKind.u64.wrap a = loW a := by rw [wrapU]; rfl
  have eb : IntKind.u64.wrap b = loW b := by rw [wrapU]; rfl
  rw [mul_lo a b h1 h2 h3 h4] at hmul
  have hmul := fun W => Lib.hid (hmul W)
  have hnum := Lib.hid (fun W => number_any (a * b) W (mul_bound a b h1 h2 h3 h4).1 (mul_bound a b h1 h2 h3 h4).2)
  have oa := fun W => Lib.hid (of_any a W h1 h2)
  have ob := fun W => Lib.hid (of_any b W h3 h4)
  have hfd : ∀ (x y : Int) (W : World), (Instr.field 86 (.agg #[.int .u64 x, .int .u64 y]) 0).run Tryz.prog W = .ok (.int .u64 x) W := fun _ _ _ => by kernel_rfl
  have hhi := mul_hi a b h1 h2 h3 h4
  generalize a * b = Q at *
  generalize mulHi (loW a) (loW b) = M at *
  clear h1 h2 h3 h4
  go_enter Tryz.func27, Tryz.ntmps27
  go_wp2_with fail
  refine (hmul _).out.mono ?_
  rintro e w1 ⟨rfl, rfl⟩
  go_wp2_with fail
  have fb := (Below.refl w.heap.size w).alloc (Nat.le_refl _) (.cells #[.int .u64 M, .int .u64 (loW Q)] 86)
  have f0 := Own.made w 86 [.int .u64 M, .int .u64 (loW Q)]
  have hV : ∃ V, V = w.alloc (.cells #[.int .u64 M, .int .u64 (loW Q)] 86) := ⟨_, rfl⟩
  obtain ⟨V, hV⟩ := hV
  rw [← hV] at fb ⊢
  rw [show w.alloc (.cells [.int .u64 M, .int .u64 (loW Q)].toArray 86) = V from hV.symm] at f0
  have c0 := fun p : Past V => (f0.past p.h f0.inside).at_ 0
  have HF := Lib.hid (And.intro fb f0)
  clear fb f0 hV
  simp only [List.getElem?_cons_zero] at c0
  refine wp_region_past_tail V 17 (by kernel_rfl) (by kernel_rfl) (Below.refl _ _) ?_
  simp only [List.take_succ_cons, List.take_zero, List.drop_succ_cons, List.drop_zero]
  repeat (quiet_step ((first | (go_at_call 33; exact calls_past (oa _).out) | (go_at_call 33; exact calls_past (ob _).out))))
  refine wpQuiet_nil ?_
  intro wq hw'
  obtain ⟨⟨wz, hbz⟩, hw''⟩ := hw'
  obtain rfl : wq = wz := hw''
  clear c0
  have f1 := HF.out.2.past hbz HF.out.2.inside
  have c0 := f1.at_ 0
  have c1 := f1.at_ 1
  have g0 := f1.open_ 0
  simp only [List.getElem?_cons_zero, List.getElem?_cons_succ] at c0 c1
  have H1 := Lib.hid (And.intro hbz f1)
  clear hbz f1
  go_wp2_with fail
  refine (hnum.out _).mono ?_
  rintro e w3 ⟨rfl, b3⟩
  go_wp2_with fail
  go_ret2
  obtain ⟨fb, f0⟩ := HF.out
  have k1 := fb.trans (H1.out.1.mono fb.size)
  exact ⟨rfl, (k1.setCell (p := ⟨w.heap.size, 0, none⟩) (Nat.le_refl _) _).trans (b3.mono (by simp; exact k1.size))⟩
end Go.Proofs.YtcfldgncmbcpmaaGreat
namespace Go.Proofs.YtcfldgncmbcpmaaGreat
open Go Go.RowKit

theorem mul64_any (a b : Int) (W : World) : Calls Tryz.prog 46 #[.int .u64 (loW a), .int .u64 (loW b)] W fun e w' => e = .returned (.tuple #[.int .u64 (mulHi (loW a) (loW b)), .int .u64 (mulLo (loW a) (loW b))]) ∧ W = w' := by
  obtain ⟨a1, a2⟩ := loW_bound a
  obtain ⟨b1, b2⟩ := loW_bound b
  have h := Tryz.bits_Mul64 (loW a).toNat (loW b).toNat (by omega) (by omega) W
  have e1 : (((loW a).toNat * (loW b).toNat / 18446744073709551616 : Nat) : Int) = mulHi (loW a) (loW b) := by
    unfold mulHi; rw [Int.natCast_ediv, Int.natCast_mul, Int.toNat_of_nonneg a1, Int.toNat_of_nonneg b1]; rfl
  have e2 : (((loW a).toNat * (loW b).toNat % 18446744073709551616 : Nat) : Int) = mulLo (loW a) (loW b) := by
    unfold mulLo; rw [Int.natCast_emod, Int.natCast_mul, Int.toNat_of_nonneg a1, Int.toNat_of_nonneg b1]; rfl
  rw [e1, e2, Int.toNat_of_nonneg a1, Int.toNat_of_nonneg b1] at h
  exact h.mono fun e w' ⟨he, hw⟩ => ⟨he, hw.symm⟩
theorem dtimes_any (a b : Int) (w : World) (h1 : -9223372036854775808 ≤ a) (h2 : a ≤ 9223372036854775807) (h3 : -9223372036854775808 ≤ b) (h4 : b ≤ 9223372036854775807) :
    Calls Tryz.prog 27 #[.int .i64 a, .int .i64 b] w fun e w' => e = .returned (.tuple #[.int .i64 (fitN (a * b)), .int .i64 (fitE (a * b))]) ∧ Below w.heap.size w w' := times_any a b w h1 h2 h3 h4 (mul64_any a b)
theorem ints_three {w : World} (a b c : Int) : Ints (w.alloc (.cells #[.int .i64 a, .int .i64 b, .int .i64 c] 2)) (w.alloc (.cells #[.int .i64 a, .int .i64 b, .int .i64 c] 2)).heap.size (some ⟨w.heap.size, 0, none⟩) [a, b, c] := fun _ => by
  refine ⟨_, _, rfl, by simp, fun i x hx => ?_⟩
  match i, hx with
  | 0, hx => obtain rfl : a = x := by simpa using hx
             simp [go_sem]
  | 1, hx => obtain rfl : b = x := by simpa using hx
             simp [go_sem]
  | 2, hx => obtain rfl : c = x := by simpa using hx
             simp [go_sem]
theorem ints_two {w : World} (a b : Int) : Ints (w.alloc (.cells #[.int .i64 a, .int .i64 b] 2)) (w.alloc (.cells #[.int .i64 a, .int .i64 b] 2)).heap.size (some ⟨w.heap.size, 0, none⟩) [a, b] := fun _ => by
  refine ⟨_, _, rfl, by simp, fun i x hx => ?_⟩
  match i, hx with
  | 0, hx => obtain rfl : a = x := by simpa using hx
             simp [go_sem]
  | 1, hx => obtain rfl : b = x := by simpa using hx
             simp [go_sem]

end Go.Proofs.YtcfldgncmbcpmaaGreat
namespace Go.Proofs.YtcfldgncmbcpmaaGreat
open Go Go.RowKit

/-- one update made of another one: with another row, or another number, or an error -/
def MadeSays (u : Up) (r : List Vl) (d e : Int) (w : World) (x : Ending) (w' : World) : Prop :=
  ∃ u' : Up, x = .returned (.tuple #[u'.val, .int .i64 e]) ∧ u'.row = r ∧ u'.t = u.t ∧ u'.d = d ∧ UIn w' w'.heap.size u' ∧ UOk u' ∧ (∀ Q : Nat → Prop, (∀ b, w.heap.size ≤ b → Q b) → Awn Q u → Awn Q u') ∧ Below w.heap.size w w'
theorem own_five {w : World} {P : Nat} {t : TypeId} {z0 z1 z2 z3 z4 z5 : Value} (h : Own w P t [z0, z1, z2, z3, z4, z5]) (f : Value) :
    ∃ X, X = w.setCell ⟨P, 5, none⟩ f ∧ Own X P t [z0, z1, z2, z3, z4, f] ∧ (∀ B u, Below B u w → B ≤ P → Below B u X) ∧ X.heap.size = w.heap.size ∧ (∀ Q t' l, Q ≠ P → Own w Q t' l → Own X Q t' l) :=
  ⟨_, rfl, h.set_ 5 f, fun B u hb hB => hb.setCell (p := ⟨P, 5, none⟩) hB _, by simp [World.setCell], fun Q t' l hQ ho => ho.other (p := ⟨P, 5, none⟩) (fun e => hQ e.symm) _⟩
theorem kbox (w : World) (k n a r : Int) (A1 A2 A3 A4 : Option Addr) (l1 l2 l3 l4 c1 c2 c3 c4 : Nat) (u : Up) :
    ∃ V, V = ((w.alloc (.cells #[.int .u8 k, .int .i64 n, .slice A1 l1 c1, .slice A2 l2 c2, .slice A3 l3 c3, .slice A4 l4 c4, .int .u8 a, .int .i64 r] 37)).alloc (.cells #[.slice u.kA u.key.length u.kc, .slice u.rA u.row.length u.rc, .int .u64 (u.t.e : Int), .int .u64 (u.t.a : Int), .int .u64 (u.t.b : Int), .int .i64 u.d] 44)).alloc (.cells #[.slice none 0 0, .slice none 0 0, .int .u64 0, .int .u64 0, .int .u64 0, .int .i64 0] 44) ∧
      Below w.heap.size w V ∧ V.heap.size = w.heap.size + 3 ∧ Own V w.heap.size 37 [.int .u8 k, .int .i64 n, .slice A1 l1 c1, .slice A2 l2 c2, .slice A3 l3 c3, .slice A4 l4 c4, .int .u8 a, .int .i64 r] ∧ Own V (w.heap.size + 1) 44 u.cells ∧ Own V (w.heap.size + 2) 44 [.slice none 0 0, .slice none 0 0, .int .u64 0, .int .u64 0, .int .u64 0, .int .i64 0] := by
  obtain ⟨W1, e1, s1, b1, o1⟩ := boxd w [.int .u8 k, .int .i64 n, .slice A1 l1 c1, .slice A2 l2 c2, .slice A3 l3 c3, .slice A4 l4 c4, .int .u8 a, .int .i64 r] 37
  obtain ⟨W2, e2, s2, b2, o2⟩ := boxd W1 u.cells 44
  obtain ⟨W3, e3, s3, b3, o3⟩ := boxd W2 [.slice none 0 0, .slice none 0 0, .int .u64 0, .int .u64 0, .int .u64 0, .int .i64 0] 44
  refine ⟨W3, by rw [e3, e2, e1]; rfl, belows (belows b1 b2) b3, by omega, (o1.past b2 o1.inside).past b3 (by omega), ?_, ?_⟩
  · have := o2.past b3 o2.inside
    rwa [s1] at this
  · rwa [s2, s1] at o3
theorem fitN_in (S : Int) : -9223372036854775808 ≤ fitN S ∧ fitN S ≤ 9223372036854775807 := by
  unfold fitN
  split
  · rename_i h; exact (fits_iff S).1 h
  · omega
set_option maxRecDepth 100000 in
set_option maxHeartbeats 3200000 in
theorem negated_any (k n a r : Int) (A1 A2 A3 A4 : Option Addr) (l1 l2 l3 l4 c1 c2 c3 c4 : Nat) (u : Up) (w : World) (hu : UIn w w.heap.size u) (ok : UOk u) :
    Calls Tryz.prog 41 #[.agg #[.int .u8 k, .int .i64 n, .slice A1 l1 c1, .slice A2 l2 c2, .slice A3 l3 c3, .slice A4 l4 c4, .int .u8 a, .int .i64 r], u.val] w (MadeSays u u.row (fitN (u.d * -1)) (fitE (u.d * -1)) w) := by
  obtain ⟨V, hV, hvb, hvs, hvp, hvu, hvz⟩ := kbox w k n a r A1 A2 A3 A4 l1 l2 l3 l4 c1 c2 c3 c4 u
  rw [show u.val = .agg #[.slice u.kA u.key.length u.kc, .slice u.rA u.row.length u.rc, .int .u64 (u.t.e : Int), .int .u64 (u.t.a : Int), .int .u64 (u.t.b : Int), .int .i64 u.d] from rfl]
  obtain ⟨e0, e1, e2, e3, e4, e5⟩ := own6 hvu
  have y1 := fun W => Lib.hid (dtimes_any u.d (-1) W ok.dn.1 ok.dn.2 (by omega) (by omega))
  have HV := Lib.hid (And.intro hvb (And.intro hvu (And.intro hvz (And.intro hu ok))))
  obtain ⟨N, hN⟩ : ∃ N, fitN (u.d * -1) = N := ⟨_, rfl⟩
  obtain ⟨E, hE⟩ : ∃ E, fitE (u.d * -1) = E := ⟨_, rfl⟩
  have hNb := fitN_in (u.d * -1)
  rw [hN] at hNb
  rw [hN, hE] at y1 ⊢
  have HN := Lib.hid hNb
  clear hu ok hvb hvs hvp hvu hvz hN hE hNb
  go_enter Tryz.func41, Tryz.ntmps41
  go_upto_region 1 with fail
  rw [← hV]
  clear hV
  go_wp2_with fail
  refine (y1 _).out.mono ?_
  rintro _ w1 ⟨rfl, b1⟩
  have hu1 := HV.out.2.1.past b1 HV.out.2.1.inside
  have hz1 := HV.out.2.2.1.past b1 HV.out.2.2.1.inside
  obtain ⟨X, hX, hXo, hXb, hXs, hXr⟩ := own_five hu1 (.int .i64 N)
  have hzX := hXr _ _ _ (by omega) hz1
  obtain ⟨Y, hY, hYo, hYb, hYs, hYh⟩ := own_six hzX (.slice u.kA u.key.length u.kc) (.slice u.rA u.row.length u.rc) (.int .u64 (u.t.e : Int)) (.int .u64 (u.t.a : Int)) (.int .u64 (u.t.b : Int)) (.int .i64 N)
  have hbY : Below w.heap.size w Y := hYb _ _ (hXb _ _ (HV.out.1.trans (b1.mono HV.out.1.size)) (by omega)) (by omega)
  have HY := Lib.hid (And.intro hYo hbY)
  have g5 := (own6 hu1).2.2.2.2.2
  have k5 := (own_frozen6 hu1).2.2.2.2.2
  obtain ⟨f0, f1, f2, f3, f4, f5⟩ := own6 hXo
  obtain ⟨z0, z1, z2, z3, z4, z5⟩ := own6 hzX
  obtain ⟨j0, j1, j2, j3, j4, j5⟩ := own_frozen6 hzX
  obtain ⟨x0, x1, x2, x3, x4, x5⟩ := own6 hYo
  clear e0 e1 e2 e3 e4 e5 hu1 hz1 hXo hXb hXs hXr hzX hYo hYb hYs hYh hbY b1 y1
  go_upto_region 3 with fail
  rw [← hX]
  clear hX
  go_wp2_with fail
  rw [← hY]
  clear hY
  exact bodyPost_ret (v := .tuple #[.agg #[.slice u.kA u.key.length u.kc, .slice u.rA u.row.length u.rc, .int .u64 (u.t.e : Int), .int .u64 (u.t.a : Int), .int .u64 (u.t.b : Int), .int .i64 N], .int .i64 E]) (by simp [results, Tryz.results41, go_sem, x0, x1, x2, x3, x4, x5]) rfl
    ⟨⟨u.kA, u.kc, u.key, u.rA, u.rc, u.row, u.t, N⟩, rfl, rfl, rfl, rfl, ⟨(HV.out.2.2.2.1.past HY.out.2 (Nat.le_refl _)).key.wide HY.out.2.size, (HV.out.2.2.2.1.past HY.out.2 (Nat.le_refl _)).row.wide HY.out.2.size⟩, ⟨HV.out.2.2.2.2.kn, HV.out.2.2.2.2.rn, HV.out.2.2.2.2.ks, HV.out.2.2.2.2.rs, HN.out⟩, fun Q _ h => h, HY.out.2⟩
set_option maxRecDepth 100000 in
set_option maxHeartbeats 3200000 in
theorem kept_any (k n a r : Int) (A1 A2 A3 A4 : Option Addr) (l1 l2 l3 l4 c1 c2 c3 c4 : Nat) (u : Up) (w : World) (hu : UIn w w.heap.size u) (ok : UOk u) :
    Calls Tryz.prog 40 #[.agg #[.int .u8 k, .int .i64 n, .slice A1 l1 c1, .slice A2 l2 c2, .slice A3 l3 c3, .slice A4 l4 c4, .int .u8 a, .int .i64 r], u.val] w (MadeSays u u.row u.d 0 w) := by
  obtain ⟨V, hV, hvb, hvs, hvp, hvu, hvz⟩ := kbox w k n a r A1 A2 A3 A4 l1 l2 l3 l4 c1 c2 c3 c4 u
  rw [show u.val = .agg #[.slice u.kA u.key.length u.kc, .slice u.rA u.row.length u.rc, .int .u64 (u.t.e : Int), .int .u64 (u.t.a : Int), .int .u64 (u.t.b : Int), .int .i64 u.d] from rfl]
  obtain ⟨e0, e1, e2, e3, e4, e5⟩ := own6 hvu
  have HV := Lib.hid (And.intro hvb (And.intro hu ok))
  obtain ⟨Y, hY, hYo, hYb, hYs, hYh⟩ := own_six hvz (.slice u.kA u.key.length u.kc) (.slice u.rA u.row.length u.rc) (.int .u64 (u.t.e : Int)) (.int .u64 (u.t.a : Int)) (.int .u64 (u.t.b : Int)) (.int .i64 u.d)
  have hbY : Below w.heap.size w Y := hYb _ _ hvb (by omega)
  have HY := Lib.hid (And.intro hYo hbY)
  obtain ⟨z0, z1, z2, z3, z4, z5⟩ := own6 hvz
  obtain ⟨j0, j1, j2, j3, j4, j5⟩ := own_frozen6 hvz
  obtain ⟨x0, x1, x2, x3, x4, x5⟩ := own6 hYo
  clear hu ok hvb hvs hvp hvu hvz hYo hYb hYs hYh hbY
  go_enter Tryz.func40, Tryz.ntmps40
  go_upto_region 1 with fail
  rw [← hV]
  clear hV
  go_wp2_with fail
  rw [← hY]
  clear hY
  exact bodyPost_ret (v := .tuple #[.agg #[.slice u.kA u.key.length u.kc, .slice u.rA u.row.length u.rc, .int .u64 (u.t.e : Int), .int .u64 (u.t.a : Int), .int .u64 (u.t.b : Int), .int .i64 u.d], .int .i64 0]) (by simp [results, Tryz.results40, go_sem, x0, x1, x2, x3, x4, x5]) rfl
    ⟨⟨u.kA, u.kc, u.key, u.rA, u.rc, u.row, u.t, u.d⟩, rfl, rfl, rfl, rfl, ⟨(HV.out.2.1.past HY.out.2 (Nat.le_refl _)).key.wide HY.out.2.size, (HV.out.2.1.past HY.out.2 (Nat.le_refl _)).row.wide HY.out.2.size⟩, HV.out.2.2, fun Q _ h => h, HY.out.2⟩
end Go.Proofs.YtcfldgncmbcpmaaGreat
namespace Go.Proofs.YtcfldgncmbcpmaaGreat
open Go Go.RowKit

/-- what is made of one update: a row, a number, an error -/
abbrev Mk := Up → List Vl × Int × Int
def mkNeg : Mk := fun u => (u.row, fitN (u.d * -1), fitE (u.d * -1))
def mkKeep : Mk := fun u => (u.row, u.d, 0)
def madeP (mk : Mk) (u : Up) : Uk × Int := (⟨[], (mk u).1, u.t⟩, (mk u).2.1)
def okAll (mk : Mk) (l : List Up) : Bool := l.all fun u => (mk u).2.2 == 0
def fitP (l : List (Uk × Int)) : Bool := (asm Uk.cmp l).all fun x => fits x.2
/-- what Do tells -/
def DoSays (mk : Mk) (l : List Up) (w : World) (x : Ending) (w' : World) : Prop :=
  ∃ A c, ∃ outL : List Up, ∃ t : Tm, ∃ E : Int, x = .returned (.tuple #[.slice A outL.length c, .agg #[.int .u64 (t.e : Int), .int .u64 (t.a : Int), .int .u64 (t.b : Int)], .int .i64 E]) ∧ (E = 0 ↔ chkUs l = 0 ∧ okAll mk l = true ∧ fitP (l.map (madeP mk)) = true) ∧
    (E = 0 → outL.map Up.p = nz Uk.cmp (l.map (madeP mk)) ∧ t = ⟨0, 0, 0⟩) ∧ Ups w' w'.heap.size A outL ∧ (∀ u ∈ outL, UOk u) ∧ Below w.heap.size w w' ∧ (∀ b o, A = some ⟨b, o, none⟩ → w.heap.size ≤ b) ∧ (∀ u ∈ outL, Awn (fun b => w.heap.size ≤ b) u) ∧ outL.length ≤ l.length
theorem own_zeroth {w : World} {P : Nat} {t : TypeId} {z0 z1 z2 z3 z4 z5 : Value} (h : Own w P t [z0, z1, z2, z3, z4, z5]) (f : Value) :
    ∃ X, X = w.setCell ⟨P, 0, none⟩ f ∧ Own X P t [f, z1, z2, z3, z4, z5] ∧ (∀ B u, Below B u w → B ≤ P → Below B u X) ∧ X.heap.size = w.heap.size :=
  ⟨_, rfl, h.set_ 0 f, fun B u hb hB => hb.setCell (p := ⟨P, 0, none⟩) hB _, by simp [World.setCell]⟩
def nokey (u : Up) : Up := ⟨none, 0, [], u.rA, u.rc, u.row, u.t, u.d⟩
theorem chk_nokey {u : Up} (h : chkRow u.row = 0) (ht : chk [u.t] = 0) : chkU (nokey u) = 0 := by
  unfold chkU chkK nokey Up.k orI
  dsimp only
  rw [h, ht]
  rfl
theorem pbox (w : World) (k n a r : Int) (A1 A2 A3 A4 : Option Addr) (l1 l2 l3 l4 c1 c2 c3 c4 : Nat) :
    ∃ V, V = (w.alloc (.cells #[.int .u8 k, .int .i64 n, .slice A1 l1 c1, .slice A2 l2 c2, .slice A3 l3 c3, .slice A4 l4 c4, .int .u8 a, .int .i64 r] 37)).alloc (.cells #[.int .u64 0, .int .u64 0, .int .u64 0] 27) ∧
      Below w.heap.size w V ∧ V.heap.size = w.heap.size + 2 ∧ Own V w.heap.size 37 [.int .u8 k, .int .i64 n, .slice A1 l1 c1, .slice A2 l2 c2, .slice A3 l3 c3, .slice A4 l4 c4, .int .u8 a, .int .i64 r] ∧ Own V (w.heap.size + 1) 27 [.int .u64 0, .int .u64 0, .int .u64 0] := by
  obtain ⟨W1, e1, s1, b1, o1⟩ := boxd w [.int .u8 k, .int .i64 n, .slice A1 l1 c1, .slice A2 l2 c2, .slice A3 l3 c3, .slice A4 l4 c4, .int .u8 a, .int .i64 r] 37
  obtain ⟨W2, e2, s2, b2, o2⟩ := boxd W1 [.int .u64 0, .int .u64 0, .int .u64 0] 27
  rw [s1] at o2
  exact ⟨W2, by rw [e2, e1], belows b1 b2, by omega, o1.past b2 o1.inside, o2⟩
theorem prbox (w : World) : ∃ V, V = w.alloc (.cells #[.int .u64 0, .int .u64 0, .int .u64 0, .int .i64 0, .slice none 0 0] 68) ∧ Below w.heap.size w V ∧ V.heap.size = w.heap.size + 1 ∧ Prod V w.heap.size ⟨0, 0, 0⟩ 0 (.slice none 0 0) [] := by
  obtain ⟨W, e1, s1, b1, o1⟩ := boxd w [.int .u64 0, .int .u64 0, .int .u64 0, .int .i64 0, .slice none 0 0] 68
  exact ⟨W, e1, b1, s1, ⟨o1, World.ownsRow_nil _ _ _ _, fun u hu => (by cases hu), fun _ => rfl⟩⟩
set_option maxRecDepth 100000 in
set_option maxHeartbeats 16000000 in
theorem do_negated (n a r : Int) (A1 A2 A3 A4 : Option Addr) (l1 l2 l3 l4 c1 c2 c3 c4 : Nat) (A : Option Addr) (c : Nat) (l : List Up) (w : World) (hl : Ups w w.heap.size A l) (hok : ∀ u ∈ l, UOk u) (hn : l.length ≤ 1099511627776) :
    Calls Tryz.prog 8 #[.agg #[.int .u8 6, .int .i64 n, .slice A1 l1 c1, .slice A2 l2 c2, .slice A3 l3 c3, .slice A4 l4 c4, .int .u8 a, .int .i64 r], .slice A l.length c] w (DoSays mkNeg l w) := by
  obtain ⟨V, hV, hvb, hvs, hvp, hvt⟩ := pbox w 6 n a r A1 A2 A3 A4 l1 l2 l3 l4 c1 c2 c3 c4
  have hck := dcheck_any A c l V (hl.keep hvb) (by omega) hok
  obtain ⟨K, hK⟩ : ∃ K, chkUs l = K := ⟨_, rfl⟩
  rw [hK] at hck
  have Hck := Lib.hid hck
  have HL := Lib.hid (And.intro hl (And.intro hok hK))
  have HV := Lib.hid (And.intro hvb (And.intro hvp (And.intro hvt hvs)))
  clear hl hok hK hck hvb hvp hvt hvs
  go_enter Tryz.func8, Tryz.ntmps8
  go_upto_region 1 with fail
  rw [← hV]
  clear hV
  go_wp2_with fail
  refine Hck.out.mono ?_
  rintro _ w1 ⟨rfl, b1⟩
  have H1 := Lib.hid (And.intro (belows HV.out.1 b1) (And.intro (HV.out.2.1.past b1 HV.out.2.1.inside) (And.intro (HV.out.2.2.1.past b1 HV.out.2.2.1.inside) (show w.heap.size + 2 ≤ w1.heap.size by have := HV.out.2.2.2; have := b1.size; omega))))
  clear b1 Hck
  by_cases hK0 : K = 0
  case neg =>
    have t1 : (K != 0) = true := bne_iff_ne.2 hK0
    obtain ⟨X, hX, hXo, hXk, hXs⟩ := own_three H1.out.2.2.1 (.int .u64 0) (.int .u64 0) (.int .u64 0)
    have hbX : Below w.heap.size w X := H1.out.1.trans (hXk.below (by have := H1.out.2.2.2; omega) (Nat.le_succ _) (fun k e => by simp [Value.ownBlock] at e))
    obtain ⟨z0, z1, z2⟩ : w1.cell? ⟨w.heap.size + 1, 0, none⟩ = some (.int .u64 0) ∧ w1.cell? ⟨w.heap.size + 1, 1, none⟩ = some (.int .u64 0) ∧ w1.cell? ⟨w.heap.size + 1, 2, none⟩ = some (.int .u64 0) := ⟨H1.out.2.2.1.at_ 0, H1.out.2.2.1.at_ 1, H1.out.2.2.1.at_ 2⟩
    have f0 := H1.out.2.2.1.open_ 0
    have f1 := H1.out.2.2.1.open_ 1
    have f2 := H1.out.2.2.1.open_ 2
    obtain ⟨x0, x1, x2⟩ : X.cell? ⟨w.heap.size + 1, 0, none⟩ = some (.int .u64 0) ∧ X.cell? ⟨w.heap.size + 1, 1, none⟩ = some (.int .u64 0) ∧ X.cell? ⟨w.heap.size + 1, 2, none⟩ = some (.int .u64 0) := ⟨hXo.at_ 0, hXo.at_ 1, hXo.at_ 2⟩
    have HB := Lib.hid hbX
    have HK0 := Lib.hid hK0
    clear hXo hXk hXs hbX hK0
    go_wp2_with fail
    rw [← hX]
    clear hX
    exact bodyPost_ret (v := .tuple #[.slice none 0 0, .agg #[.int .u64 0, .int .u64 0, .int .u64 0], .int .i64 K]) (by simp [results, Tryz.results8, go_sem, x0, x1, x2]) rfl
      ⟨none, 0, [], ⟨0, 0, 0⟩, K, rfl, ⟨fun e => absurd e HK0.out, fun e => absurd (HL.out.2.2.symm.trans e.1) HK0.out⟩, fun e => absurd e HK0.out, ⟨Lies.nil_, fun u hu => (by cases hu)⟩, fun u hu => (by cases hu), HB.out, fun b o e => (by cases e), fun u hu => (by cases hu), Nat.zero_le _⟩
  subst hK0
  have hchk := chkUs_all.1 HL.out.2.2
  have HC := Lib.hid hchk
  obtain ⟨p0, p1, p2, p3, p4, p5, p6, p7⟩ : w1.cell? ⟨w.heap.size, 0, none⟩ = some (.int .u8 6) ∧ w1.cell? ⟨w.heap.size, 1, none⟩ = some (.int .i64 n) ∧ w1.cell? ⟨w.heap.size, 2, none⟩ = some (.slice A1 l1 c1) ∧ w1.cell? ⟨w.heap.size, 3, none⟩ = some (.slice A2 l2 c2) ∧ w1.cell? ⟨w.heap.size, 4, none⟩ = some (.slice A3 l3 c3) ∧ w1.cell? ⟨w.heap.size, 5, none⟩ = some (.slice A4 l4 c4) ∧ w1.cell? ⟨w.heap.size, 6, none⟩ = some (.int .u8 a) ∧ w1.cell? ⟨w.heap.size, 7, none⟩ = some (.int .i64 r) :=
    ⟨H1.out.2.1.at_ 0, H1.out.2.1.at_ 1, H1.out.2.1.at_ 2, H1.out.2.1.at_ 3, H1.out.2.1.at_ 4, H1.out.2.1.at_ 5, H1.out.2.1.at_ 6, H1.out.2.1.at_ 7⟩
  have hmk := fun W => Lib.hid (makers_any W)
  unfold MakersSays at hmk
  clear hchk
  go_upto_region 4 with fail
  have hself : Bl w1 w1 := Bl.refl _
  have HP := Lib.hid (fun W (h : Bl w1 W) => (H1.out.2.1.past h H1.out.2.1.inside).at_ 0)
  simp only [List.getElem?_cons_zero] at HP
  go_region_held3 (fun w' => Bl w1 w' ∧ (w'.cell? ⟨w.heap.size, 0, none⟩ = some (.int .u8 6)))
    ((refine (fun h => And.intro h (HP.out _ h)) ?_; repeat (first | with_reducible exact hb2 | with_reducible exact hself | with_reducible refine Bl.more ?_ _ | with_reducible refine Bl.drew ?_)))
    (first | (go_at_call 20; refine (hmk _).out.mono ?_; rintro _ w2 ⟨G, rfl, b2, hlook⟩; have hb2 : Bl w1 w2 := Bl.call (by repeat (first | with_reducible exact hself | with_reducible refine Bl.more ?_ _ | with_reducible refine Bl.drew ?_)) b2; have hlk := hlook w2 (Below.refl _ _) 6 (by decide); rw [show mkV 6 = .func (.func 41) #[] #[] from rfl, show (mkF 6).isSome = true from rfl] at hlk))
  clear hlook b2 hmk hlk p0 p1 p2 p3 p4 p5 p6 p7
  obtain ⟨V2, hV2, hb3, hs3, hpr⟩ := prbox w2
  have H2 := Lib.hid (And.intro (H1.out.1.trans (hb2.below.mono (Nat.le_trans (by have := H1.out.2.2.2; omega) (Nat.le_refl _)))) (And.intro (H1.out.2.1.past hb2 H1.out.2.1.inside) (And.intro (H1.out.2.2.1.past hb2 H1.out.2.2.1.inside) (show w.heap.size + 2 ≤ w2.heap.size from Nat.le_trans H1.out.2.2.2 hb2.size))))
  have HR := Lib.hid (And.intro hb3 (And.intro hs3 hpr))
  clear hb2 hb3 hs3 hpr hself
  go_upto_region 8 with fail
  rw [← hV2]
  clear hV2
  go_wp2_with fail
  go_loopw [33] (fun v33 wr => ∃ (j : Nat) (t' : Tm) (why' : Int) (v : Value) (M : List Up), v33 = .int .i64 (j : Int) ∧ j ≤ l.length ∧ Prod wr w2.heap.size t' why' v M ∧ Below w2.heap.size w2 wr ∧ (why' = 0 ∨ why' = 10) ∧ (why' = 0 ↔ okAll mkNeg (l.take j) = true) ∧ (okAll mkNeg (l.take j) = true → M.map Up.p = (l.take j).map (madeP mkNeg)) ∧ (∀ u ∈ M, chkU u = 0) ∧ M.length ≤ j)
    (fun v33 _ => l.length - (intOf v33).toNat)
  case atStart => exact ⟨0, ⟨0, 0, 0⟩, 0, .slice none 0 0, [], rfl, Nat.zero_le _, HR.out.2.2, HR.out.1, .inl rfl, ⟨fun _ => rfl, fun _ => rfl⟩, fun _ => rfl, fun u hu => (by cases hu), Nat.le_refl _⟩
  case round =>
    obtain ⟨j, t', why', v, M, rfl, hj, hpr, hbw, hwy, hwf, hmap, hcm, hlen⟩ := hrel
    obtain ⟨wi, hwi⟩ : ∃ wi, wi = wr := ⟨_, rfl⟩
    subst hwi
    have HO := Lib.hid (And.intro hpr (And.intro hbw (And.intro hwy (And.intro hwf (And.intro hmap (And.intro hcm hlen))))))
    clear hpr hbw hwy hwf hmap hcm hlen
    by_cases hlt : j < l.length
    · have hy : l[j]? = some l[j] := List.getElem?_eq_getElem hlt
      have hym := List.mem_of_getElem? hy
      generalize l[j] = u at *
      obtain ⟨b, o, rfl, hB, hys⟩ := lies_up HL.out.1.head (by omega)
      have hbwi : Below w.heap.size w wi := H2.out.1.trans (HO.out.2.1.mono (by have := H2.out.2.2.2; omega))
      obtain ⟨e0, e1, e2, e3, e4, e5⟩ := ((hys j u hy).past_ hbwi hB).six
      obtain ⟨V3, hV3, hb3, hs3, ho3⟩ := upbox wi u
      have hin : UIn w w.heap.size u := HL.out.1.each_ u hym
      have hoku : UOk u := HL.out.2.1 u hym
      have hchu : chkU u = 0 := HC.out u hym
      have hbV : Below wi.heap.size wi V3 := hb3
      have hpl : Own V3 w.heap.size 37 [.int .u8 6, .int .i64 n, .slice A1 l1 c1, .slice A2 l2 c2, .slice A3 l3 c3, .slice A4 l4 c4, .int .u8 a, .int .i64 r] := (H2.out.2.1.past HO.out.2.1 (by have := H2.out.2.2.2; omega)).past hb3 (by have := HO.out.2.1.size; have := H2.out.2.2.2; omega)
      have hinV : UIn V3 V3.heap.size u := ((hin.past hbwi (Nat.le_refl _)).wide hbwi.size).keep hb3
      have Hmade := Lib.hid (negated_any 6 n a r A1 A2 A3 A4 l1 l2 l3 l4 c1 c2 c3 c4 u V3 hinV hoku)
      have htk : l.take (j + 1) = l.take j ++ [u] := by rw [List.take_add_one, hy]; rfl
      rw [show u.val = .agg #[.slice u.kA u.key.length u.kc, .slice u.rA u.row.length u.rc, .int .u64 (u.t.e : Int), .int .u64 (u.t.a : Int), .int .u64 (u.t.b : Int), .int .i64 u.d] from rfl] at Hmade
      obtain ⟨E, hE⟩ : ∃ E, (mkNeg u).2.2 = E := ⟨_, rfl⟩
      obtain ⟨R, hR⟩ : ∃ R, (mkNeg u).1 = R := ⟨_, rfl⟩
      obtain ⟨D, hD⟩ : ∃ D, (mkNeg u).2.1 = D := ⟨_, rfl⟩
      have Hmade : Hid (Calls Tryz.prog 41 #[.agg #[.int .u8 6, .int .i64 n, .slice A1 l1 c1, .slice A2 l2 c2, .slice A3 l3 c3, .slice A4 l4 c4, .int .u8 a, .int .i64 r], .agg #[.slice u.kA u.key.length u.kc, .slice u.rA u.row.length u.rc, .int .u64 (u.t.e : Int), .int .u64 (u.t.a : Int), .int .u64 (u.t.b : Int), .int .i64 u.d]] V3 (MadeSays u R D E V3)) := by
        rw [← hE, ← hR, ← hD]
        exact Hmade
      unfold MadeSays at Hmade
      have hrow : E = 0 → chkRow R = 0 := fun _ => by
        rw [← hR]
        exact (chkK_zero hchu).2.1
      have HM := Lib.hid (And.intro hE (And.intro hR (And.intro hD (And.intro hrow (And.intro hchu (And.intro htk hin))))))
      have H3 := Lib.hid (And.intro hb3 (And.intro hs3 ho3))
      obtain ⟨p0, p1, p2, p3, p4, p5, p6, p7⟩ : V3.cell? ⟨w.heap.size, 0, none⟩ = some (.int .u8 6) ∧ V3.cell? ⟨w.heap.size, 1, none⟩ = some (.int .i64 n) ∧ V3.cell? ⟨w.heap.size, 2, none⟩ = some (.slice A1 l1 c1) ∧ V3.cell? ⟨w.heap.size, 3, none⟩ = some (.slice A2 l2 c2) ∧ V3.cell? ⟨w.heap.size, 4, none⟩ = some (.slice A3 l3 c3) ∧ V3.cell? ⟨w.heap.size, 5, none⟩ = some (.slice A4 l4 c4) ∧ V3.cell? ⟨w.heap.size, 6, none⟩ = some (.int .u8 a) ∧ V3.cell? ⟨w.heap.size, 7, none⟩ = some (.int .i64 r) :=
        ⟨hpl.at_ 0, hpl.at_ 1, hpl.at_ 2, hpl.at_ 3, hpl.at_ 4, hpl.at_ 5, hpl.at_ 6, hpl.at_ 7⟩
      have q3 : (0 : Int) ≤ (j : Int) := by omega
      have q4 : (j : Int) < (l.length : Int) := by omega
      have q5 : decide ((j : Int) < (l.length : Int)) = true := decide_eq_true q4
      clear hy hym hys hin hoku hchu hbV hpl hinV htk hE hR hD hrow hb3 hs3 hbwi
      go_upto_region 11 with fail
      rw [← hV3]
      clear hV3 e0 e1 e2 e3 e4 e5
      obtain ⟨e0, e1, e2, e3, e4, e5⟩ := own6 ho3
      clear ho3
      go_wp2_with fail
      refine Hmade.out.mono ?_
      rintro _ w4 ⟨u', rfl, hr', ht', hd', hin', hok', hQ, b4⟩
      rw [show u'.val = .agg #[.slice u'.kA u'.key.length u'.kc, .slice u'.rA u'.row.length u'.rc, .int .u64 (u'.t.e : Int), .int .u64 (u'.t.a : Int), .int .u64 (u'.t.b : Int), .int .i64 u'.d] from rfl]
      obtain ⟨V5, hV5, hb5, hs5, ho5⟩ := upbox w4 u'
      obtain ⟨X, hX, hXo, hXb, hXs⟩ := own_zeroth ho5 (.slice none 0 0)
      have z0 := (own6 ho5).1
      have k0 := (own_frozen6 ho5).1
      have hbX : Below wi.heap.size wi X := hXb _ _ (belows (belows H3.out.1 b4) hb5) (Nat.le_trans (belows H3.out.1 b4).size (Nat.le_refl _))
      have hb4X : Below w4.heap.size w4 X := hXb _ _ hb5 (Nat.le_refl _)
      have hprX := HO.out.1.quiet hbX
      have huX : UIn X X.heap.size (nokey u') := ⟨Vals.nil_, (hin'.keep hb4X).row⟩
      have hokX : UOk (nokey u') := ⟨Nat.zero_le _, hok'.rn, fun v hv => (by cases hv), hok'.rs, hok'.dn⟩
      have hPBi : w2.heap.size < wi.heap.size := HO.out.1.own.inside
      have haX : Aw w2.heap.size v (nokey u') := by
        have hq := hQ (fun b => b ≠ w2.heap.size ∧ v.ownBlock ≠ some b) (fun b hb => ⟨by have := H3.out.1.size; omega, fun e => by have := (HO.out.1.later b e).2; have := H3.out.1.size; omega⟩)
          ((awn_lt HM.out.2.2.2.2.2.2).imp fun b hb => ⟨by have := H2.out.2.2.2; omega, fun e => by have := (HO.out.1.later b e).1; have := H2.out.2.2.2; omega⟩)
        exact ⟨fun hp => absurd hp (by show ¬ 0 < 0; omega), hq.2⟩
      have Hpr := Lib.hid (produce_any w2.heap.size t' why' v M (nokey u') E X hprX HO.out.2.2.1 huX hokX haX (by have := HO.out.2.2.2.2.2.2; omega))
      unfold ProdSays at Hpr
      have Hpr : Hid (Calls Tryz.prog 21 #[.pointer (some ⟨w2.heap.size, 0, none⟩), .agg #[.slice none 0 0, .slice u'.rA u'.row.length u'.rc, .int .u64 (u'.t.e : Int), .int .u64 (u'.t.a : Int), .int .u64 (u'.t.b : Int), .int .i64 u'.d], .int .i64 E] X fun e w' => e = .returned (.tuple #[]) ∧ ∃ t'' v', Prod w' w2.heap.size t'' (if E = 0 then why' else 10) v' (if E = 0 then M ++ [nokey u'] else M) ∧ PKeep X w' w2.heap.size v ∧ Grew X v v') := Hpr
      have H5 := Lib.hid (And.intro hbX (And.intro hr' (And.intro ht' (And.intro hd' (And.intro hPBi hprX)))))
      obtain ⟨y0, y1, y2, y3, y4, y5⟩ := own6 hXo
      clear hr' ht' hd' hin' hok' hQ b4 hb5 hs5 hXo hXb hXs hbX hb4X hprX huX hokX hPBi haX e0 e1 e2 e3 e4 e5 p0 p1 p2 p3 p4 p5 p6 p7 Hmade
      go_upto_region 12 with fail
      rw [← hV5]
      clear hV5
      go_upto_region 13 with fail
      rw [← hX]
      clear hX z0 k0 ho5
      go_wp2_with fail
      refine Hpr.out.mono ?_
      rintro _ w6 ⟨rfl, t6, v6, hp6, hk6, hg6⟩
      have H6 := Lib.hid (And.intro hp6 hk6)
      clear hp6 hk6 hg6 Hpr y0 y1 y2 y3 y4 y5
      go_wp2_with fail
      go_roundw
      case rel =>
        obtain ⟨g1, g2⟩ := H6.out
        obtain ⟨m1, m2, m3, m4, m5, m6, m7⟩ := HM.out
        obtain ⟨n1, n2, n3, n4, n5, n6⟩ := H5.out
        obtain ⟨o1, o2, o3, o4, o5, o6, o7⟩ := HO.out
        have hb6 : Below w2.heap.size w2 w6 := o2.trans ((n1.mono (Nat.le_of_lt n5)).trans (g2.below (Nat.le_of_lt n6.own.inside) (Nat.le_refl _) fun k e => Nat.le_of_succ_le (n6.later k e).1))
        have hoks : okAll mkNeg (l.take (j + 1)) = (okAll mkNeg (l.take j) && (E == 0)) := by
          rw [m6]
          unfold okAll
          rw [List.all_append]
          simp [m1]
        by_cases hE0 : E = 0
        · rw [if_pos hE0, if_pos hE0] at g1
          refine ⟨j + 1, t6, why', v6, M ++ [nokey u'], by go_num, by omega, g1, hb6, o3, ?_, fun hf => ?_, fun y hy => ?_, by rw [List.length_append, List.length_singleton]; omega⟩
          · rw [hoks, hE0]
            simpa using o4
          · rw [hoks, hE0] at hf
            have hf' : okAll mkNeg (l.take j) = true := by simpa using hf
            rw [List.map_append, o5 hf', m6, List.map_append]
            congr 1
            rw [List.map_cons, List.map_cons, List.map_nil, List.map_nil]
            unfold madeP
            rw [m2, m3, ← n2, ← n4, ← n3]
            rfl
          · rcases List.mem_append.1 hy with hy | hy
            · exact o6 y hy
            · obtain rfl : y = nokey u' := by simpa using hy
              exact chk_nokey (by rw [n2]; exact m4 hE0) (by rw [n3]; exact (chkK_zero m5).2.2)
        · rw [if_neg hE0, if_neg hE0] at g1
          have hff : okAll mkNeg (l.take (j + 1)) = false := by
            rw [hoks]
            have : (E == 0) = false := by simpa using hE0
            rw [this, Bool.and_false]
          refine ⟨j + 1, t6, 10, v6, M, by go_num, by omega, g1, hb6, .inr rfl, ?_, fun hf => ?_, o6, by omega⟩
          · rw [hff]
            exact ⟨fun e => absurd e (by decide), fun e => absurd e (by decide)⟩
          · rw [hff] at hf
            cases hf
      case measure => simp [intOf]; omega
    · have hj2 : j = l.length := by omega
      have Hend := Lib.hid (end_any w2.heap.size t' why' v M wi HO.out.1 HO.out.2.2.1 HO.out.2.2.2.2.2.1 (by have := HO.out.2.2.2.2.2.2; omega))
      unfold EndSays at Hend
      have hRP : w.heap.size + 1 ≠ w2.heap.size := by have := H2.out.2.2.2; omega
      have hRB : Own wi (w.heap.size + 1) 27 [.int .u64 0, .int .u64 0, .int .u64 0] := H2.out.2.2.1.past HO.out.2.1 (by have := H2.out.2.2.2; omega)
      have HRB := Lib.hid hRB
      have HJ2 := Lib.hid hj2
      have q5 : decide ((j : Int) < (l.length : Int)) = false := decide_eq_false (by omega)
      clear hRB hj2
      go_wp2_with fail
      refine Hend.out.mono ?_
      rintro _ w7 ⟨A7, c7, outL, t7, E, rfl, hE7, hEi, hEo, hu7, hok7, hk7, hA7, hlo7, hln7⟩
      have hvne : ∀ b, v.ownBlock = some b → w2.heap.size + 1 ≤ b := fun b e => (HO.out.1.later b e).1
      have hR7 : Own w7 (w.heap.size + 1) 27 [.int .u64 0, .int .u64 0, .int .u64 0] := (hk7.block _ HRB.out.inside hRP (fun e => by have := hvne _ e; have := H2.out.2.2.2; omega)).trans HRB.out
      obtain ⟨X, hX, hXo, hXk, hXs⟩ := own_three hR7 (.int .u64 (t7.e : Int)) (.int .u64 (t7.a : Int)) (.int .u64 (t7.b : Int))
      obtain ⟨z0, z1, z2⟩ : w7.cell? ⟨w.heap.size + 1, 0, none⟩ = some (.int .u64 0) ∧ w7.cell? ⟨w.heap.size + 1, 1, none⟩ = some (.int .u64 0) ∧ w7.cell? ⟨w.heap.size + 1, 2, none⟩ = some (.int .u64 0) := ⟨hR7.at_ 0, hR7.at_ 1, hR7.at_ 2⟩
      have f0 := hR7.open_ 0
      have f1 := hR7.open_ 1
      have f2 := hR7.open_ 2
      obtain ⟨x0, x1, x2⟩ : X.cell? ⟨w.heap.size + 1, 0, none⟩ = some (.int .u64 (t7.e : Int)) ∧ X.cell? ⟨w.heap.size + 1, 1, none⟩ = some (.int .u64 (t7.a : Int)) ∧ X.cell? ⟨w.heap.size + 1, 2, none⟩ = some (.int .u64 (t7.b : Int)) := ⟨hXo.at_ 0, hXo.at_ 1, hXo.at_ 2⟩
      have hszi : w.heap.size + 2 ≤ wi.heap.size := Nat.le_trans H2.out.2.2.2 HO.out.2.1.size
      have huX : Ups X X.heap.size A7 outL := ⟨lies_pk hu7.head hXk fun _ b o e => ⟨by have := hA7 b o e; omega, by simp [Value.ownBlock]⟩, fun u hu => uin_pk (hu7.each_ u hu) ((hlo7 u hu).imp fun b hb => ⟨by omega, by simp [Value.ownBlock]⟩) hXk⟩
      have hb7 : Below w.heap.size w X := (H2.out.1.trans (HO.out.2.1.mono (by have := H2.out.2.2.2; omega))).trans ((hk7.below (by omega) (by have := H2.out.2.2.2; omega) fun b e => by have := hvne b e; have := H2.out.2.2.2; omega).trans (hXk.below (by have := hk7.size; omega) (Nat.le_succ _) fun b e => by simp [Value.ownBlock] at e))
      have HF := Lib.hid (And.intro huX (And.intro hb7 (And.intro hok7 (And.intro (fun b o e => by have := hA7 b o e; omega : ∀ b o, A7 = some ⟨b, o, none⟩ → w.heap.size ≤ b) (fun u hu => (hlo7 u hu).imp fun b hb => by omega : ∀ u ∈ outL, Awn (fun b => w.heap.size ≤ b) u)))))
      have HLn := Lib.hid (show outL.length ≤ l.length by have := HO.out.2.2.2.2.2.2; have := HJ2.out; omega)
      have HE := Lib.hid (And.intro hE7 (And.intro hEi hEo))
      clear hE7 hEi hEo hu7 hok7 hk7 hA7 hlo7 hln7 hvne hR7 hXo hXk hXs hszi huX hb7 Hend
      go_wp2_with fail
      rw [← hX]
      clear hX
      have htl : l.take j = l := by rw [HJ2.out, List.take_length]
      have hmm : okAll mkNeg l = true → M.map Up.p = l.map (madeP mkNeg) := by
        have := HO.out.2.2.2.2.1
        rwa [htl] at this
      have hwf : why' = 0 ↔ okAll mkNeg l = true := by
        have := HO.out.2.2.2.1
        rwa [htl] at this
      have hfu : okAll mkNeg l = true → fitU M = fitP (l.map (madeP mkNeg)) := fun h => by unfold fitU fitP; rw [hmm h]
      exact bodyPost_ret (v := .tuple #[.slice A7 outL.length c7, .agg #[.int .u64 (t7.e : Int), .int .u64 (t7.a : Int), .int .u64 (t7.b : Int)], .int .i64 E]) (by simp [results, Tryz.results8, go_sem, x0, x1, x2]) rfl
        ⟨A7, c7, outL, t7, E, rfl, ⟨fun e => by
          obtain ⟨h1, h2⟩ := HE.out.2.1.1 e
          have h3 := hwf.1 h1
          exact ⟨HL.out.2.2, h3, by rw [← hfu h3]; exact h2⟩, fun e => HE.out.2.1.2 ⟨hwf.2 e.2.1, by rw [hfu e.2.1]; exact e.2.2⟩⟩, fun e => by
          obtain ⟨h1, h2⟩ := HE.out.2.1.1 e
          have h3 := HE.out.2.2 e
          rw [hmm (hwf.1 h1)] at h3
          exact h3, HF.out.1, HF.out.2.2.1, HF.out.2.1, HF.out.2.2.2.1, HF.out.2.2.2.2, HLn.out⟩

set_option maxRecDepth 100000 in
set_option maxHeartbeats 16000000 in
theorem do_kept (n a r : Int) (A1 A2 A3 A4 : Option Addr) (l1 l2 l3 l4 c1 c2 c3 c4 : Nat) (A : Option Addr) (c : Nat) (l : List Up) (w : World) (hl : Ups w w.heap.size A l) (hok : ∀ u ∈ l, UOk u) (hn : l.length ≤ 1099511627776) :
    Calls Tryz.prog 8 #[.agg #[.int .u8 5, .int .i64 n, .slice A1 l1 c1, .slice A2 l2 c2, .slice A3 l3 c3, .slice A4 l4 c4, .int .u8 a, .int .i64 r], .slice A l.length c] w (DoSays mkKeep l w) := by
  obtain ⟨V, hV, hvb, hvs, hvp, hvt⟩ := pbox w 5 n a r A1 A2 A3 A4 l1 l2 l3 l4 c1 c2 c3 c4
  have hck := dcheck_any A c l V (hl.keep hvb) (by omega) hok
  obtain ⟨K, hK⟩ : ∃ K, chkUs l = K := ⟨_, rfl⟩
  rw [hK] at hck
  have Hck := Lib.hid hck
  have HL := Lib.hid (And.intro hl (And.intro hok hK))
  have HV := Lib.hid (And.intro hvb (And.intro hvp (And.intro hvt hvs)))
  clear hl hok hK hck hvb hvp hvt hvs
  go_enter Tryz.func8, Tryz.ntmps8
  go_upto_region 1 with fail
  rw [← hV]
  clear hV
  go_wp2_with fail
  refine Hck.out.mono ?_
  rintro _ w1 ⟨rfl, b1⟩
  have H1 := Lib.hid (And.intro (belows HV.out.1 b1) (And.intro (HV.out.2.1.past b1 HV.out.2.1.inside) (And.intro (HV.out.2.2.1.past b1 HV.out.2.2.1.inside) (show w.heap.size + 2 ≤ w1.heap.size by have := HV.out.2.2.2; have := b1.size; omega))))
  clear b1 Hck
  by_cases hK0 : K = 0
  case neg =>
    have t1 : (K != 0) = true := bne_iff_ne.2 hK0
    obtain ⟨X, hX, hXo, hXk, hXs⟩ := own_three H1.out.2.2.1 (.int .u64 0) (.int .u64 0) (.int .u64 0)
    have hbX : Below w.heap.size w X := H1.out.1.trans (hXk.below (by have := H1.out.2.2.2; omega) (Nat.le_succ _) (fun k e => by simp [Value.ownBlock] at e))
    obtain ⟨z0, z1, z2⟩ : w1.cell? ⟨w.heap.size + 1, 0, none⟩ = some (.int .u64 0) ∧ w1.cell? ⟨w.heap.size + 1, 1, none⟩ = some (.int .u64 0) ∧ w1.cell? ⟨w.heap.size + 1, 2, none⟩ = some (.int .u64 0) := ⟨H1.out.2.2.1.at_ 0, H1.out.2.2.1.at_ 1, H1.out.2.2.1.at_ 2⟩
    have f0 := H1.out.2.2.1.open_ 0
    have f1 := H1.out.2.2.1.open_ 1
    have f2 := H1.out.2.2.1.open_ 2
    obtain ⟨x0, x1, x2⟩ : X.cell? ⟨w.heap.size + 1, 0, none⟩ = some (.int .u64 0) ∧ X.cell? ⟨w.heap.size + 1, 1, none⟩ = some (.int .u64 0) ∧ X.cell? ⟨w.heap.size + 1, 2, none⟩ = some (.int .u64 0) := ⟨hXo.at_ 0, hXo.at_ 1, hXo.at_ 2⟩
    have HB := Lib.hid hbX
    have HK0 := Lib.hid hK0
    clear hXo hXk hXs hbX hK0
    go_wp2_with fail
    rw [← hX]
    clear hX
    exact bodyPost_ret (v := .tuple #[.slice none 0 0, .agg #[.int .u64 0, .int .u64 0, .int .u64 0], .int .i64 K]) (by simp [results, Tryz.results8, go_sem, x0, x1, x2]) rfl
      ⟨none, 0, [], ⟨0, 0, 0⟩, K, rfl, ⟨fun e => absurd e HK0.out, fun e => absurd (HL.out.2.2.symm.trans e.1) HK0.out⟩, fun e => absurd e HK0.out, ⟨Lies.nil_, fun u hu => (by cases hu)⟩, fun u hu => (by cases hu), HB.out, fun b o e => (by cases e), fun u hu => (by cases hu), Nat.zero_le _⟩
  subst hK0
  have hchk := chkUs_all.1 HL.out.2.2
  have HC := Lib.hid hchk
  obtain ⟨p0, p1, p2, p3, p4, p5, p6, p7⟩ : w1.cell? ⟨w.heap.size, 0, none⟩ = some (.int .u8 5) ∧ w1.cell? ⟨w.heap.size, 1, none⟩ = some (.int .i64 n) ∧ w1.cell? ⟨w.heap.size, 2, none⟩ = some (.slice A1 l1 c1) ∧ w1.cell? ⟨w.heap.size, 3, none⟩ = some (.slice A2 l2 c2) ∧ w1.cell? ⟨w.heap.size, 4, none⟩ = some (.slice A3 l3 c3) ∧ w1.cell? ⟨w.heap.size, 5, none⟩ = some (.slice A4 l4 c4) ∧ w1.cell? ⟨w.heap.size, 6, none⟩ = some (.int .u8 a) ∧ w1.cell? ⟨w.heap.size, 7, none⟩ = some (.int .i64 r) :=
    ⟨H1.out.2.1.at_ 0, H1.out.2.1.at_ 1, H1.out.2.1.at_ 2, H1.out.2.1.at_ 3, H1.out.2.1.at_ 4, H1.out.2.1.at_ 5, H1.out.2.1.at_ 6, H1.out.2.1.at_ 7⟩
  have hmk := fun W => Lib.hid (makers_any W)
  unfold MakersSays at hmk
  clear hchk
  go_upto_region 4 with fail
  have hself : Bl w1 w1 := Bl.refl _
  have HP := Lib.hid (fun W (h : Bl w1 W) => (H1.out.2.1.past h H1.out.2.1.inside).at_ 0)
  simp only [List.getElem?_cons_zero] at HP
  go_region_held3 (fun w' => Bl w1 w' ∧ (w'.cell? ⟨w.heap.size, 0, none⟩ = some (.int .u8 5)))
    ((refine (fun h => And.intro h (HP.out _ h)) ?_; repeat (first | with_reducible exact hb2 | with_reducible exact hself | with_reducible refine Bl.more ?_ _ | with_reducible refine Bl.drew ?_)))
    (first | (go_at_call 20; refine (hmk _).out.mono ?_; rintro _ w2 ⟨G, rfl, b2, hlook⟩; have hb2 : Bl w1 w2 := Bl.call (by repeat (first | with_reducible exact hself | with_reducible refine Bl.more ?_ _ | with_reducible refine Bl.drew ?_)) b2; have hlk := hlook w2 (Below.refl _ _) 5 (by decide); rw [show mkV 5 = .func (.func 40) #[] #[] from rfl, show (mkF 5).isSome = true from rfl] at hlk))
  clear hlook b2 hmk hlk p0 p1 p2 p3 p4 p5 p6 p7
  obtain ⟨V2, hV2, hb3, hs3, hpr⟩ := prbox w2
  have H2 := Lib.hid (And.intro (H1.out.1.trans (hb2.below.mono (Nat.le_trans (by have := H1.out.2.2.2; omega) (Nat.le_refl _)))) (And.intro (H1.out.2.1.past hb2 H1.out.2.1.inside) (And.intro (H1.out.2.2.1.past hb2 H1.out.2.2.1.inside) (show w.heap.size + 2 ≤ w2.heap.size from Nat.le_trans H1.out.2.2.2 hb2.size))))
  have HR := Lib.hid (And.intro hb3 (And.intro hs3 hpr))
  clear hb2 hb3 hs3 hpr hself
  go_upto_region 8 with fail
  rw [← hV2]
  clear hV2
  go_wp2_with fail
  go_loopw [33] (fun v33 wr => ∃ (j : Nat) (t' : Tm) (why' : Int) (v : Value) (M : List Up), v33 = .int .i64 (j : Int) ∧ j ≤ l.length ∧ Prod wr w2.heap.size t' why' v M ∧ Below w2.heap.size w2 wr ∧ (why' = 0 ∨ why' = 10) ∧ (why' = 0 ↔ okAll mkKeep (l.take j) = true) ∧ (okAll mkKeep (l.take j) = true → M.map Up.p = (l.take j).map (madeP mkKeep)) ∧ (∀ u ∈ M, chkU u = 0) ∧ M.length ≤ j)
    (fun v33 _ => l.length - (intOf v33).toNat)
  case atStart => exact ⟨0, ⟨0, 0, 0⟩, 0, .slice none 0 0, [], rfl, Nat.zero_le _, HR.out.2.2, HR.out.1, .inl rfl, ⟨fun _ => rfl, fun _ => rfl⟩, fun _ => rfl, fun u hu => (by cases hu), Nat.le_refl _⟩
  case round =>
    obtain ⟨j, t', why', v, M, rfl, hj, hpr, hbw, hwy, hwf, hmap, hcm, hlen⟩ := hrel
    obtain ⟨wi, hwi⟩ : ∃ wi, wi = wr := ⟨_, rfl⟩
    subst hwi
    have HO := Lib.hid (And.intro hpr (And.intro hbw (And.intro hwy (And.intro hwf (And.intro hmap (And.intro hcm hlen))))))
    clear hpr hbw hwy hwf hmap hcm hlen
    by_cases hlt : j < l.length
    · have hy : l[j]? = some l[j] := List.getElem?_eq_getElem hlt
      have hym := List.mem_of_getElem? hy
      generalize l[j] = u at *
      obtain ⟨b, o, rfl, hB, hys⟩ := lies_up HL.out.1.head (by omega)
      have hbwi : Below w.heap.size w wi := H2.out.1.trans (HO.out.2.1.mono (by have := H2.out.2.2.2; omega))
      obtain ⟨e0, e1, e2, e3, e4, e5⟩ := ((hys j u hy).past_ hbwi hB).six
      obtain ⟨V3, hV3, hb3, hs3, ho3⟩ := upbox wi u
      have hin : UIn w w.heap.size u := HL.out.1.each_ u hym
      have hoku : UOk u := HL.out.2.1 u hym
      have hchu : chkU u = 0 := HC.out u hym
      have hbV : Below wi.heap.size wi V3 := hb3
      have hpl : Own V3 w.heap.size 37 [.int .u8 5, .int .i64 n, .slice A1 l1 c1, .slice A2 l2 c2, .slice A3 l3 c3, .slice A4 l4 c4, .int .u8 a, .int .i64 r] := (H2.out.2.1.past HO.out.2.1 (by have := H2.out.2.2.2; omega)).past hb3 (by have := HO.out.2.1.size; have := H2.out.2.2.2; omega)
      have hinV : UIn V3 V3.heap.size u := ((hin.past hbwi (Nat.le_refl _)).wide hbwi.size).keep hb3
      have Hmade := Lib.hid (kept_any 5 n a r A1 A2 A3 A4 l1 l2 l3 l4 c1 c2 c3 c4 u V3 hinV hoku)
      have htk : l.take (j + 1) = l.take j ++ [u] := by rw [List.take_add_one, hy]; rfl
      rw [show u.val = .agg #[.slice u.kA u.key.length u.kc, .slice u.rA u.row.length u.rc, .int .u64 (u.t.e : Int), .int .u64 (u.t.a : Int), .int .u64 (u.t.b : Int), .int .i64 u.d] from rfl] at Hmade
      obtain ⟨E, hE⟩ : ∃ E, (mkKeep u).2.2 = E := ⟨_, rfl⟩
      obtain ⟨R, hR⟩ : ∃ R, (mkKeep u).1 = R := ⟨_, rfl⟩
      obtain ⟨D, hD⟩ : ∃ D, (mkKeep u).2.1 = D := ⟨_, rfl⟩
      have Hmade : Hid (Calls Tryz.prog 40 #[.agg #[.int .u8 5, .int .i64 n, .slice A1 l1 c1, .slice A2 l2 c2, .slice A3 l3 c3, .slice A4 l4 c4, .int .u8 a, .int .i64 r], .agg #[.slice u.kA u.key.length u.kc, .slice u.rA u.row.length u.rc, .int .u64 (u.t.e : Int), .int .u64 (u.t.a : Int), .int .u64 (u.t.b : Int), .int .i64 u.d]] V3 (MadeSays u R D E V3)) := by
        rw [← hE, ← hR, ← hD]
        exact Hmade
      unfold MadeSays at Hmade
      have hrow : E = 0 → chkRow R = 0 := fun _ => by
        rw [← hR]
        exact (chkK_zero hchu).2.1
      have HM := Lib.hid (And.intro hE (And.intro hR (And.intro hD (And.intro hrow (And.intro hchu (And.intro htk hin))))))
      have H3 := Lib.hid (And.intro hb3 (And.intro hs3 ho3))
      obtain ⟨p0, p1, p2, p3, p4, p5, p6, p7⟩ : V3.cell? ⟨w.heap.size, 0, none⟩ = some (.int .u8 5) ∧ V3.cell? ⟨w.heap.size, 1, none⟩ = some (.int .i64 n) ∧ V3.cell? ⟨w.heap.size, 2, none⟩ = some (.slice A1 l1 c1) ∧ V3.cell? ⟨w.heap.size, 3, none⟩ = some (.slice A2 l2 c2) ∧ V3.cell? ⟨w.heap.size, 4, none⟩ = some (.slice A3 l3 c3) ∧ V3.cell? ⟨w.heap.size, 5, none⟩ = some (.slice A4 l4 c4) ∧ V3.cell? ⟨w.heap.size, 6, none⟩ = some (.int .u8 a) ∧ V3.cell? ⟨w.heap.size, 7, none⟩ = some (.int .i64 r) :=
        ⟨hpl.at_ 0, hpl.at_ 1, hpl.at_ 2, hpl.at_ 3, hpl.at_ 4, hpl.at_ 5, hpl.at_ 6, hpl.at_ 7⟩
      have q3 : (0 : Int) ≤ (j : Int) := by omega
      have q4 : (j : Int) < (l.length : Int) := by omega
      have q5 : decide ((j : Int) < (l.length : Int)) = true := decide_eq_true q4
      clear hy hym hys hin hoku hchu hbV hpl hinV htk hE hR hD hrow hb3 hs3 hbwi
      go_upto_region 11 with fail
      rw [← hV3]
      clear hV3 e0 e1 e2 e3 e4 e5
      obtain ⟨e0, e1, e2, e3, e4, e5⟩ := own6 ho3
      clear ho3
      go_wp2_with fail
      refine Hmade.out.mono ?_
      rintro _ w4 ⟨u', rfl, hr', ht', hd', hin', hok', hQ, b4⟩
      rw [show u'.val = .agg #[.slice u'.kA u'.key.length u'.kc, .slice u'.rA u'.row.length u'.rc, .int .u64 (u'.t.e : Int), .int .u64 (u'.t.a : Int), .int .u64 (u'.t.b : Int), .int .i64 u'.d] from rfl]
      obtain ⟨V5, hV5, hb5, hs5, ho5⟩ := upbox w4 u'
      obtain ⟨X, hX, hXo, hXb, hXs⟩ := own_zeroth ho5 (.slice none 0 0)
      have z0 := (own6 ho5).1
      have k0 := (own_frozen6 ho5).1
      have hbX : Below wi.heap.size wi X := hXb _ _ (belows (belows H3.out.1 b4) hb5) (Nat.le_trans (belows H3.out.1 b4).size (Nat.le_refl _))
      have hb4X : Below w4.heap.size w4 X := hXb _ _ hb5 (Nat.le_refl _)
      have hprX := HO.out.1.quiet hbX
      have huX : UIn X X.heap.size (nokey u') := ⟨Vals.nil_, (hin'.keep hb4X).row⟩
      have hokX : UOk (nokey u') := ⟨Nat.zero_le _, hok'.rn, fun v hv => (by cases hv), hok'.rs, hok'.dn⟩
      have hPBi : w2.heap.size < wi.heap.size := HO.out.1.own.inside
      have haX : Aw w2.heap.size v (nokey u') := by
        have hq := hQ (fun b => b ≠ w2.heap.size ∧ v.ownBlock ≠ some b) (fun b hb => ⟨by have := H3.out.1.size; omega, fun e => by have := (HO.out.1.later b e).2; have := H3.out.1.size; omega⟩)
          ((awn_lt HM.out.2.2.2.2.2.2).imp fun b hb => ⟨by have := H2.out.2.2.2; omega, fun e => by have := (HO.out.1.later b e).1; have := H2.out.2.2.2; omega⟩)
        exact ⟨fun hp => absurd hp (by show ¬ 0 < 0; omega), hq.2⟩
      have Hpr := Lib.hid (produce_any w2.heap.size t' why' v M (nokey u') E X hprX HO.out.2.2.1 huX hokX haX (by have := HO.out.2.2.2.2.2.2; omega))
      unfold ProdSays at Hpr
      have Hpr : Hid (Calls Tryz.prog 21 #[.pointer (some ⟨w2.heap.size, 0, none⟩), .agg #[.slice none 0 0, .slice u'.rA u'.row.length u'.rc, .int .u64 (u'.t.e : Int), .int .u64 (u'.t.a : Int), .int .u64 (u'.t.b : Int), .int .i64 u'.d], .int .i64 E] X fun e w' => e = .returned (.tuple #[]) ∧ ∃ t'' v', Prod w' w2.heap.size t'' (if E = 0 then why' else 10) v' (if E = 0 then M ++ [nokey u'] else M) ∧ PKeep X w' w2.heap.size v ∧ Grew X v v') := Hpr
      have H5 := Lib.hid (And.intro hbX (And.intro hr' (And.intro ht' (And.intro hd' (And.intro hPBi hprX)))))
      obtain ⟨y0, y1, y2, y3, y4, y5⟩ := own6 hXo
      clear hr' ht' hd' hin' hok' hQ b4 hb5 hs5 hXo hXb hXs hbX hb4X hprX huX hokX hPBi haX e0 e1 e2 e3 e4 e5 p0 p1 p2 p3 p4 p5 p6 p7 Hmade
      go_upto_region 12 with fail
      rw [← hV5]
      clear hV5
      go_upto_region 13 with fail
      rw [← hX]
      clear hX z0 k0 ho5
      go_wp2_with fail
      refine Hpr.out.mono ?_
      rintro _ w6 ⟨rfl, t6, v6, hp6, hk6, hg6⟩
      have H6 := Lib.hid (And.intro hp6 hk6)
      clear hp6 hk6 hg6 Hpr y0 y1 y2 y3 y4 y5
      go_wp2_with fail
      go_roundw
      case rel =>
        obtain ⟨g1, g2⟩ := H6.out
        obtain ⟨m1, m2, m3, m4, m5, m6, m7⟩ := HM.out
        obtain ⟨n1, n2, n3, n4, n5, n6⟩ := H5.out
        obtain ⟨o1, o2, o3, o4, o5, o6, o7⟩ := HO.out
        have hb6 : Below w2.heap.size w2 w6 := o2.trans ((n1.mono (Nat.le_of_lt n5)).trans (g2.below (Nat.le_of_lt n6.own.inside) (Nat.le_refl _) fun k e => Nat.le_of_succ_le (n6.later k e).1))
        have hoks : okAll mkKeep (l.take (j + 1)) = (okAll mkKeep (l.take j) && (E == 0)) := by
          rw [m6]
          unfold okAll
          rw [List.all_append]
          simp [m1]
        by_cases hE0 : E = 0
        · rw [if_pos hE0, if_pos hE0] at g1
          refine ⟨j + 1, t6, why', v6, M ++ [nokey u'], by go_num, by omega, g1, hb6, o3, ?_, fun hf => ?_, fun y hy => ?_, by rw [List.length_append, List.length_singleton]; omega⟩
          · rw [hoks, hE0]
            simpa using o4
          · rw [hoks, hE0] at hf
            have hf' : okAll mkKeep (l.take j) = true := by simpa using hf
            rw [List.map_append, o5 hf', m6, List.map_append]
            congr 1
            rw [List.map_cons, List.map_cons, List.map_nil, List.map_nil]
            unfold madeP
            rw [m2, m3, ← n2, ← n4, ← n3]
            rfl
          · rcases List.mem_append.1 hy with hy | hy
            · exact o6 y hy
            · obtain rfl : y = nokey u' := by simpa using hy
              exact chk_nokey (by rw [n2]; exact m4 hE0) (by rw [n3]; exact (chkK_zero m5).2.2)
        · rw [if_neg hE0, if_neg hE0] at g1
          have hff : okAll mkKeep (l.take (j + 1)) = false := by
            rw [hoks]
            have : (E == 0) = false := by simpa using hE0
            rw [this, Bool.and_false]
          refine ⟨j + 1, t6, 10, v6, M, by go_num, by omega, g1, hb6, .inr rfl, ?_, fun hf => ?_, o6, by omega⟩
          · rw [hff]
            exact ⟨fun e => absurd e (by decide), fun e => absurd e (by decide)⟩
          · rw [hff] at hf
            cases hf
      case measure => simp [intOf]; omega
    · have hj2 : j = l.length := by omega
      have Hend := Lib.hid (end_any w2.heap.size t' why' v M wi HO.out.1 HO.out.2.2.1 HO.out.2.2.2.2.2.1 (by have := HO.out.2.2.2.2.2.2; omega))
      unfold EndSays at Hend
      have hRP : w.heap.size + 1 ≠ w2.heap.size := by have := H2.out.2.2.2; omega
      have hRB : Own wi (w.heap.size + 1) 27 [.int .u64 0, .int .u64 0, .int .u64 0] := H2.out.2.2.1.past HO.out.2.1 (by have := H2.out.2.2.2; omega)
      have HRB := Lib.hid hRB
      have HJ2 := Lib.hid hj2
      have q5 : decide ((j : Int) < (l.length : Int)) = false := decide_eq_false (by omega)
      clear hRB hj2
      go_wp2_with fail
      refine Hend.out.mono ?_
      rintro _ w7 ⟨A7, c7, outL, t7, E, rfl, hE7, hEi, hEo, hu7, hok7, hk7, hA7, hlo7, hln7⟩
      have hvne : ∀ b, v.ownBlock = some b → w2.heap.size + 1 ≤ b := fun b e => (HO.out.1.later b e).1
      have hR7 : Own w7 (w.heap.size + 1) 27 [.int .u64 0, .int .u64 0, .int .u64 0] := (hk7.block _ HRB.out.inside hRP (fun e => by have := hvne _ e; have := H2.out.2.2.2; omega)).trans HRB.out
      obtain ⟨X, hX, hXo, hXk, hXs⟩ := own_three hR7 (.int .u64 (t7.e : Int)) (.int .u64 (t7.a : Int)) (.int .u64 (t7.b : Int))
      obtain ⟨z0, z1, z2⟩ : w7.cell? ⟨w.heap.size + 1, 0, none⟩ = some (.int .u64 0) ∧ w7.cell? ⟨w.heap.size + 1, 1, none⟩ = some (.int .u64 0) ∧ w7.cell? ⟨w.heap.size + 1, 2, none⟩ = some (.int .u64 0) := ⟨hR7.at_ 0, hR7.at_ 1, hR7.at_ 2⟩
      have f0 := hR7.open_ 0
      have f1 := hR7.open_ 1
      have f2 := hR7.open_ 2
      obtain ⟨x0, x1, x2⟩ : X.cell? ⟨w.heap.size + 1, 0, none⟩ = some (.int .u64 (t7.e : Int)) ∧ X.cell? ⟨w.heap.size + 1, 1, none⟩ = some (.int .u64 (t7.a : Int)) ∧ X.cell? ⟨w.heap.size + 1, 2, none⟩ = some (.int .u64 (t7.b : Int)) := ⟨hXo.at_ 0, hXo.at_ 1, hXo.at_ 2⟩
      have hszi : w.heap.size + 2 ≤ wi.heap.size := Nat.le_trans H2.out.2.2.2 HO.out.2.1.size
      have huX : Ups X X.heap.size A7 outL := ⟨lies_pk hu7.head hXk fun _ b o e => ⟨by have := hA7 b o e; omega, by simp [Value.ownBlock]⟩, fun u hu => uin_pk (hu7.each_ u hu) ((hlo7 u hu).imp fun b hb => ⟨by omega, by simp [Value.ownBlock]⟩) hXk⟩
      have hb7 : Below w.heap.size w X := (H2.out.1.trans (HO.out.2.1.mono (by have := H2.out.2.2.2; omega))).trans ((hk7.below (by omega) (by have := H2.out.2.2.2; omega) fun b e => by have := hvne b e; have := H2.out.2.2.2; omega).trans (hXk.below (by have := hk7.size; omega) (Nat.le_succ _) fun b e => by simp [Value.ownBlock] at e))
      have HF := Lib.hid (And.intro huX (And.intro hb7 (And.intro hok7 (And.intro (fun b o e => by have := hA7 b o e; omega : ∀ b o, A7 = some ⟨b, o, none⟩ → w.heap.size ≤ b) (fun u hu => (hlo7 u hu).imp fun b hb => by omega : ∀ u ∈ outL, Awn (fun b => w.heap.size ≤ b) u)))))
      have HLn := Lib.hid (show outL.length ≤ l.length by have := HO.out.2.2.2.2.2.2; have := HJ2.out; omega)
      have HE := Lib.hid (And.intro hE7 (And.intro hEi hEo))
      clear hE7 hEi hEo hu7 hok7 hk7 hA7 hlo7 hln7 hvne hR7 hXo hXk hXs hszi huX hb7 Hend
      go_wp2_with fail
      rw [← hX]
      clear hX
      have htl : l.take j = l := by rw [HJ2.out, List.take_length]
      have hmm : okAll mkKeep l = true → M.map Up.p = l.map (madeP mkKeep) := by
        have := HO.out.2.2.2.2.1
        rwa [htl] at this
      have hwf : why' = 0 ↔ okAll mkKeep l = true := by
        have := HO.out.2.2.2.1
        rwa [htl] at this
      have hfu : okAll mkKeep l = true → fitU M = fitP (l.map (madeP mkKeep)) := fun h => by unfold fitU fitP; rw [hmm h]
      exact bodyPost_ret (v := .tuple #[.slice A7 outL.length c7, .agg #[.int .u64 (t7.e : Int), .int .u64 (t7.a : Int), .int .u64 (t7.b : Int)], .int .i64 E]) (by simp [results, Tryz.results8, go_sem, x0, x1, x2]) rfl
        ⟨A7, c7, outL, t7, E, rfl, ⟨fun e => by
          obtain ⟨h1, h2⟩ := HE.out.2.1.1 e
          have h3 := hwf.1 h1
          exact ⟨HL.out.2.2, h3, by rw [← hfu h3]; exact h2⟩, fun e => HE.out.2.1.2 ⟨hwf.2 e.2.1, by rw [hfu e.2.1]; exact e.2.2⟩⟩, fun e => by
          obtain ⟨h1, h2⟩ := HE.out.2.1.1 e
          have h3 := HE.out.2.2 e
          rw [hmm (hwf.1 h1)] at h3
          exact h3, HF.out.1, HF.out.2.2.1, HF.out.2.1, HF.out.2.2.2.1, HF.out.2.2.2.2, HLn.out⟩
end Go.Proofs.YtcfldgncmbcpmaaGreat
