/- Part 10 of the texts on which BatchOwn rests: facts and contracts. -/
import Derived.Test.YthpjkikfadfgeaaGreatBatchOwnM9
import Derived.Tactics2
import Derived.Orders
import Derived.RegionTactic
import Derived.Deep.Cut
namespace Go.Proofs.YthpjkikfadfgeaaGreat
open Go Go.RowKit

end Go.Proofs.YthpjkikfadfgeaaGreat
namespace Go.Proofs.YthpjkikfadfgeaaGreat
open Go Go.RowKit

def wideV (S : Int) : Value := .agg #[.int .i64 (S / 18446744073709551616), .int .u64 (loW S)]
end Go.Proofs.YthpjkikfadfgeaaGreat
namespace Go.Proofs.YthpjkikfadfgeaaGreat
open Go Go.RowKit

section
variable {α K : Type} {cmp : K → K → Int} {k : α → K}
end
def wcells (S : Int) : List Value := [.int .i64 (S / 18446744073709551616), .int .u64 (loW S)]
end Go.Proofs.YthpjkikfadfgeaaGreat
namespace Go.Proofs.YthpjkikfadfgeaaGreat
open Go Go.RowKit

set_option maxRecDepth 100000 in
set_option maxHeartbeats 1600000 in
theorem vcopy_any (A : Option Addr) (c : Nat) (l : List Vl) (w : World) (hl : Vals w w.heap.size A l) (hn : l.length ≤ 1099511627776) :
    Calls Tryz.prog 82 #[.slice A l.length c] w fun x w' => ∃ A' c', x = .returned (.slice A' l.length c') ∧ Vals w' w'.heap.size A' l ∧ Below w.heap.size w w' ∧ (∀ b o, A' = some ⟨b, o, none⟩ → w.heap.size ≤ b ∧ b < w'.heap.size) := by
  have hr0 := Lib.hid (show (w.alloc (.cells #[] 40)).ownsRow w.heap.size 40 3 (.slice (some ⟨w.heap.size, 0, none⟩) 0 0) 0 [] from World.ownsRow_made w #[] 0 (Nat.le_refl _) (Nat.zero_le _) rfl)
  have hv := Lib.hid (hl.past ((Below.refl _ w).alloc (Nat.le_refl _) (.cells #[] 40)) (Nat.le_refl _))
  clear hl
  go_enter Tryz.func82, Tryz.ntmps82
  go_wp2_with (at_builtin; refine wpList_append_vl _ rfl _ _ rfl w.heap.size _ _ _ rfl hr0.out w.heap.size A c l rfl hv.out ?m1 ?m2 ?m3)
  case m1 => omega
  case m2 => simp
  intro v' w' ho' hb'
  have hlt := ho'.lt
  obtain ⟨A', c', rfl, _, _, h3⟩ := vals_of_own (l := l) (n := 0 + l.length) (by omega) (by simpa using ho')
  have HA := Lib.hid (And.intro h3 (And.intro (((Below.refl _ w).alloc (Nat.le_refl _) (.cells #[] 40)).trans hb') (show ∀ b o, A' = some ⟨b, o, none⟩ → w.heap.size ≤ b ∧ b < w'.heap.size from fun b o e => by subst e; exact hlt b rfl)))
  clear ho' hb' h3 hlt
  go_wp2_with fail
  go_ret
  exact ⟨A', c', rfl, HA.out.1, HA.out.2.1, HA.out.2.2⟩
theorem own_zeroth {w : World} {P : Nat} {t : TypeId} {z0 z1 z2 z3 z4 z5 : Value} (h : Own w P t [z0, z1, z2, z3, z4, z5]) (f : Value) :
    ∃ X, X = w.setCell ⟨P, 0, none⟩ f ∧ Own X P t [f, z1, z2, z3, z4, z5] ∧ (∀ B u, Below B u w → B ≤ P → Below B u X) ∧ X.heap.size = w.heap.size ∧ (∀ b, b ≠ P → X.heap[b]? = w.heap[b]?) :=
  ⟨_, rfl, h.set_ 0 f, fun B u hb hB => hb.setCell (p := ⟨P, 0, none⟩) hB _, by simp [World.setCell], fun b hb => Below.heap_setCell w ⟨P, 0, none⟩ f b hb⟩
theorem own_first {w : World} {P : Nat} {t : TypeId} {z0 z1 z2 z3 z4 z5 : Value} (h : Own w P t [z0, z1, z2, z3, z4, z5]) (f : Value) :
    ∃ X, X = w.setCell ⟨P, 1, none⟩ f ∧ Own X P t [z0, f, z2, z3, z4, z5] ∧ (∀ B u, Below B u w → B ≤ P → Below B u X) ∧ X.heap.size = w.heap.size ∧ (∀ b, b ≠ P → X.heap[b]? = w.heap[b]?) :=
  ⟨_, rfl, h.set_ 1 f, fun B u hb hB => hb.setCell (p := ⟨P, 1, none⟩) hB _, by simp [World.setCell], fun b hb => Below.heap_setCell w ⟨P, 1, none⟩ f b hb⟩
theorem vals_but {w X : World} {P : Nat} {A : Option Addr} {l : List Vl} (h : Vals w w.heap.size A l) (hA : ∀ b o, A = some ⟨b, o, none⟩ → b ≠ P) (hs : X.heap.size = w.heap.size) (hX : ∀ b, b ≠ P → X.heap[b]? = w.heap[b]?) : Vals X X.heap.size A l := fun hp => by
  obtain ⟨b, o, e, hb, hc⟩ := h hp
  have hk : ∀ j, X.cell? ⟨b, j, none⟩ = w.cell? ⟨b, j, none⟩ := fun j => by unfold World.cell?; rw [hX b (hA b o e)]
  refine ⟨b, o, e, by omega, fun i v hi => ?_⟩
  obtain ⟨a0, a1, a2⟩ := hc i v hi
  exact ⟨(hk _).trans a0, (hk _).trans a1, (hk _).trans a2⟩
def Copied (l : List Up) (w : World) (x : Ending) (w' : World) : Prop :=
  ∃ A c, ∃ outL : List Up, x = .returned (.slice A outL.length c) ∧ outL.map Up.p = l.map Up.p ∧ Ups w' w'.heap.size A outL ∧ (∀ u ∈ outL, UOk u) ∧ Below w.heap.size w w'
def CopiedOwn (l : List Up) (w : World) (x : Ending) (w' : World) : Prop :=
  ∃ v, ∃ outL : List Up, x = .returned v ∧ outL.map Up.p = l.map Up.p ∧ w'.ownsRow w.heap.size 38 6 v outL.length (outL.flatMap Up.cells) ∧ (∀ u ∈ outL, UIn w' w'.heap.size u ∧ UOk u ∧ Far w.heap.size v w' u) ∧ Below w.heap.size w w'
theorem copy_snoc {l outL : List Up} {j : Nat} {u u' : Up} (h : l[j]? = some u) (hm : outL.map Up.p = (l.take j).map Up.p) (e : u'.p = u.p) : (outL ++ [u']).map Up.p = (l.take (j + 1)).map Up.p := by
  rw [List.take_add_one, h, List.map_append, List.map_append, hm]
  simp [e]
theorem infoUp' : (Tryz.prog.info? 38).map (fun i => (i.zero, i.size, i.bytes)) = some (some (.agg #[.slice none 0 0, .slice none 0 0, .int .u64 0, .int .u64 0, .int .u64 0, .int .i64 0]), 6, 80) := by kernel_rfl
set_option maxRecDepth 100000 in
set_option maxHeartbeats 6400000 in
theorem copyU_own (A : Option Addr) (c : Nat) (l : List Up) (w : World) (hl : Ups w w.heap.size A l) (hok : ∀ u ∈ l, UOk u) (h8 : ∀ u ∈ l, u.key.length ≤ 1099511627776 ∧ u.row.length ≤ 1099511627776) (hn : l.length ≤ 1099511627776) :
    Calls Tryz.prog 37 #[.slice A l.length c] w (CopiedOwn l w) := by
  obtain ⟨i0, hi, hz0, hz1, hz2⟩ := info_parts infoUp'
  have HI := Lib.hid (And.intro Tryz.underlying22 (And.intro hi (And.intro hz0 (And.intro hz1 hz2))))
  have HL := Lib.hid (And.intro hl (And.intro hok h8))
  clear hl hok h8 hi hz0 hz1 hz2
  go_enter Tryz.func37, Tryz.ntmps37
  go_wp2_with fail
  go_loopw [3, 8] (fun v3 v8 wr => ∃ (j : Nat) (outL : List Up), v8 = .int .i64 (j : Int) ∧ j ≤ l.length ∧ outL.length = j ∧ wr.ownsRow w.heap.size 38 6 v3 outL.length (outL.flatMap Up.cells) ∧ (∀ u ∈ outL, UIn wr wr.heap.size u ∧ UOk u ∧ Far w.heap.size v3 wr u) ∧ outL.map Up.p = (l.take j).map Up.p ∧ Below w.heap.size w wr)
    (fun _ v8 _ => l.length - (intOf v8).toNat)
  case atStart => exact ⟨0, [], rfl, by omega, rfl, World.ownsRow_nil _ _ _ _, fun u hu => (by cases hu), rfl, Below.refl _ _⟩
  case round =>
    obtain ⟨j, outL, rfl, hj, hlen, hown, hout, hmap, hb⟩ := hrel
    obtain ⟨wi, hwi⟩ : ∃ wi, wi = wr := ⟨_, rfl⟩
    subst hwi
    by_cases hjt : j < l.length
    · have hy : l[j]? = some l[j] := List.getElem?_eq_getElem hjt
      have hym := List.mem_of_getElem? hy
      generalize l[j] = u at *
      obtain ⟨g, o, rfl, hB, hys⟩ := lies_up HL.out.1.head (by omega)
      obtain ⟨e0, e1, e2, e3, e4, e5⟩ := ((hys j u hy).past_ hb hB).six
      obtain ⟨V, hV, hvb, hvs, hvo⟩ := upbox wi u
      have hinV : UIn V V.heap.size u := ((((HL.out.1.each_ u hym).past hb (Nat.le_refl _)).wide hb.size).keep hvb)
      have h8 := HL.out.2.2 u hym
      have z1 := Lib.hid (vcopy_any u.kA u.kc u.key V hinV.key (by omega))
      have HV := Lib.hid (And.intro (hb.trans (hvb.mono hb.size)) (And.intro hvo (And.intro hinV (And.intro hy (And.intro (HL.out.2.1 u hym) (And.intro hvb hvs))))))
      have HO := Lib.hid (And.intro hown (And.intro hout (And.intro hmap (And.intro hb hlen))))
      have HW := Lib.hid (((HL.out.1.each_ u hym).past hb (Nat.le_refl _)).wide hb.size)
      have q3 : (0 : Int) ≤ (j : Int) := by omega
      have q4 : (j : Int) < (l.length : Int) := by omega
      have q5 : decide ((j : Int) < (l.length : Int)) = true := decide_eq_true q4
      clear hy hym hys hvb hvs hinV hown hout hmap hb
      go_upto_region 5 with fail
      rw [← hV]
      clear hV e0 e1 e2 e3 e4 e5
      obtain ⟨e0, e1, e2, e3, e4, e5⟩ := own6 hvo
      clear hvo
      go_wp2_with fail
      refine z1.out.mono ?_
      rintro _ w1 ⟨A1, k1, rfl, hv1, b1, hf1⟩
      have ho1 := HV.out.2.1.past b1 HV.out.2.1.inside
      obtain ⟨X1, hX1, hxo1, hxb1, hxs1, hxr1⟩ := own_zeroth ho1 (.slice A1 u.key.length k1)
      have hfz := (own_frozen6 ho1).1
      have hc0 := (own6 ho1).1
      have hbX1 : Below wi.heap.size wi X1 := hxb1 _ _ (HV.out.2.2.2.2.2.1.trans (b1.mono HV.out.2.2.2.2.2.1.size)) (Nat.le_refl _)
      have hrow1 : Vals X1 X1.heap.size u.rA u.row := (HW.out.row.past hbX1 (Nat.le_refl _)).wide hbX1.size
      have hne : ∀ b, V.heap.size ≤ b → b ≠ wi.heap.size := fun b h => by have := HV.out.2.2.2.2.2.2; omega
      have hkey1 := vals_but hv1 (fun b o e => hne b (hf1 b o e).1) hxs1 hxr1
      have z2 := Lib.hid (vcopy_any u.rA u.rc u.row X1 hrow1 (by omega))
      have H1 := Lib.hid (And.intro hbX1 (And.intro hxo1 (And.intro hkey1 (And.intro (fun b o (e : A1 = some ⟨b, o, none⟩) => (⟨(hf1 b o e).1, by rw [hxs1]; exact (hf1 b o e).2⟩ : V.heap.size ≤ b ∧ b < X1.heap.size)) hne))))
      clear hv1 b1 hf1 ho1 hxo1 hxb1 hxs1 hxr1 hbX1 hrow1 hne hkey1 e0 e1 e2 e3 e4 e5 z1
      go_upto_region 6 with fail
      rw [← hX1]
      clear hX1 hfz hc0
      obtain ⟨e0, e1, e2, e3, e4, e5⟩ := own6 H1.out.2.1
      go_wp2_with fail
      refine z2.out.mono ?_
      rintro _ w2 ⟨A2, k2, rfl, hv2, b2, hf2⟩
      have ho2 := H1.out.2.1.past b2 H1.out.2.1.inside
      obtain ⟨X2, hX2, hxo2, hxb2, hxs2, hxr2⟩ := own_first ho2 (.slice A2 u.row.length k2)
      have hfz := (own_frozen6 ho2).2.1
      have hc0 := (own6 ho2).2.1
      have hbX2 : Below wi.heap.size wi X2 := hxb2 _ _ (H1.out.1.trans (b2.mono H1.out.1.size)) (Nat.le_refl _)
      have hsX : V.heap.size ≤ X1.heap.size := by have := H1.out.1.size; have := H1.out.2.1.inside; have := HV.out.2.2.2.2.2.2; omega
      have hkey2 := vals_but (vals_keep H1.out.2.2.1 b2) (fun b o e => H1.out.2.2.2.2 b (H1.out.2.2.2.1 b o e).1) hxs2 hxr2
      have hrow2 := vals_but hv2 (fun b o e => H1.out.2.2.2.2 b (Nat.le_trans hsX (hf2 b o e).1)) hxs2 hxr2
      have hs2 := b2.size
      have hlts : ∀ b o, (A1 = some ⟨b, o, none⟩ ∨ A2 = some ⟨b, o, none⟩) → V.heap.size ≤ b ∧ b < X2.heap.size := fun b o e => by
        rcases e with e | e
        · have h1 := H1.out.2.2.2.1 b o e
          omega
        · have h1 := hf2 b o e
          omega
      obtain ⟨u', hu'⟩ : ∃ u' : Up, u' = ⟨A1, k1, u.key, A2, k2, u.row, u.t, u.d⟩ := ⟨_, rfl⟩
      have hin' : UIn X2 X2.heap.size u' := by subst hu'; exact ⟨hkey2, hrow2⟩
      have hfar' : Far w.heap.size u3 X2 u' := fun b o hb => by
        subst hu'
        have h1 := hlts b o hb
        have h2 := HV.out.2.2.2.2.2.2
        have h3 := HO.out.2.2.2.1.size
        refine ⟨h1.2, fun e => ?_, by omega⟩
        have := (HO.out.1.lt b e).2
        omega
      have hok' : UOk u' := by
        subst hu'
        have := HV.out.2.2.2.2.1
        exact ⟨this.kn, this.rn, this.ks, this.rs, this.dn⟩
      have hp' : u'.p = u.p := by subst hu'; rfl
      have hsw : w.heap.size ≤ X2.heap.size := Nat.le_trans HO.out.2.2.2.1.size hbX2.size
      have H2 := Lib.hid (And.intro hbX2 (And.intro (own_below HO.out.1 hbX2) (And.intro hin' (And.intro hfar' (And.intro hok' hp')))))
      have HU := Lib.hid hu'
      have hln : outL.length ≤ 1099511627776 := by omega
      clear hv2 b2 hf2 ho2 hxb2 hxs2 hxr2 hbX2 hkey2 hrow2 hs2 hlts hin' hfar' hok' hp' e0 e1 e2 e3 e4 e5 z2 hsX hu'
      go_upto_region 7 with fail
      rw [← hX2]
      clear hX2 hfz hc0
      obtain ⟨e0, e1, e2, e3, e4, e5⟩ := own6 hxo2
      have hu' := HU.out
      have c0 : Value.slice A1 u.key.length k1 = .slice u'.kA u'.key.length u'.kc := by rw [hu']
      have c1 : Value.slice A2 u.row.length k2 = .slice u'.rA u'.row.length u'.rc := by rw [hu']
      have c2 : Value.int .u64 (u.t.e : Int) = .int .u64 (u'.t.e : Int) := by rw [hu']
      have c3 : Value.int .u64 (u.t.a : Int) = .int .u64 (u'.t.a : Int) := by rw [hu']
      have c4 : Value.int .u64 (u.t.b : Int) = .int .u64 (u'.t.b : Int) := by rw [hu']
      have c5 : Value.int .i64 u.d = .int .i64 u'.d := by rw [hu']
      rw [c0] at e0
      rw [c1] at e1
      rw [c2] at e2
      rw [c3] at e3
      rw [c4] at e4
      rw [c5] at e5
      clear hu' c0 c1 c2 c3 c4 c5 hxo2
      go_wp2_with (at_builtin; refine wpList_push _ rfl _ _ 22 rfl w.heap.size 38 i0 _ 6 80 HI.out.1 HI.out.2.1 HI.out.2.2.1 HI.out.2.2.2.1 HI.out.2.2.2.2 rfl (by decide) _ _ _ rfl H2.out.2.1 #[.slice u'.kA u'.key.length u'.kc, .slice u'.rA u'.row.length u'.rc, .int .u64 (u'.t.e : Int), .int .u64 (u'.t.a : Int), .int .u64 (u'.t.b : Int), .int .i64 u'.d] rfl rfl ?p1 ?p2 ?p3 ?p4 ?_)
      case p1 => exact ⟨rfl, rfl, rfl, rfl, rfl, rfl⟩
      case p2 => unfold maxLen; omega
      case p3 => omega
      case p4 => exact hsw
      intro v' w' ho' hb' hob hgw
      have hbw' : Below w.heap.size w w' := (HO.out.2.2.2.1.trans (H2.out.1.mono HO.out.2.2.2.1.size)).trans hb'
      have hfarn : ∀ u, Far w.heap.size u3 X2 u → Far w.heap.size v' w' u := fun u hu b o hb => by
        obtain ⟨h1, h2, h3⟩ := hu b o hb
        refine ⟨Nat.lt_of_lt_of_le h1 hgw.size, fun e => ?_, h3⟩
        rcases hob with h | h
        · rw [h] at e; exact h2 e
        · rw [h] at e
          injection e with e
          omega
      have hall : ∀ z ∈ outL ++ [u'], UIn w' w'.heap.size z ∧ UOk z ∧ Far w.heap.size v' w' z := fun z hz => by
        rcases List.mem_append.1 hz with hz | hz
        · have hf3 := (HO.out.2.1 z hz).2.2.next H2.out.1.size
          exact ⟨uin_grown ((HO.out.2.1 z hz).1.keep H2.out.1) hf3 hgw, (HO.out.2.1 z hz).2.1, hfarn z hf3⟩
        · obtain rfl : z = u' := by simpa using hz
          exact ⟨uin_grown H2.out.2.2.1 H2.out.2.2.2.1 hgw, H2.out.2.2.2.2.1, hfarn z H2.out.2.2.2.1⟩
      have hrow' : w'.ownsRow w.heap.size 38 6 v' (outL ++ [u']).length ((outL ++ [u']).flatMap Up.cells) := by
        rw [List.length_append, List.flatMap_append, hlen]
        exact ho'
      have H4 := Lib.hid (And.intro hrow' (And.intro hall (And.intro (copy_snoc HV.out.2.2.2.1 HO.out.2.2.1 H2.out.2.2.2.2.2) hbw')))
      clear ho' hb' hob hgw hbw' hfarn hall hrow' e0 e1 e2 e3 e4 e5
      go_wp2_with fail
      go_roundw
      case rel => exact ⟨j + 1, outL ++ [u'], by go_num, by omega, by rw [List.length_append, List.length_singleton]; omega, H4.out.1, H4.out.2.1, H4.out.2.2.1, H4.out.2.2.2⟩
      case measure => simp [intOf]; omega
    · have hj2 : j = l.length := by omega
      subst hj2
      rw [List.take_length] at hmap
      have HE := Lib.hid (And.intro hmap (And.intro hown (And.intro hout hb)))
      have q5 : decide ((l.length : Int) < (l.length : Int)) = false := decide_eq_false (by omega)
      clear hown hout hmap hb
      go_wp2_with fail
      go_ret
      exact ⟨_, outL, rfl, HE.out.1, HE.out.2.1, HE.out.2.2.1, HE.out.2.2.2⟩
end Go.Proofs.YthpjkikfadfgeaaGreat
namespace Go.Proofs.YthpjkikfadfgeaaGreat
open Go

def putsR : List (Option Tmp × Option Value) → Act → Act
  | [], a => a
  | (_, none) :: l, a => putsR l a
  | (d, some v) :: l, a => putsR l (a.put d v)
def ApartR : List (Option Tmp) → Prop
  | [] => True
  | d :: l => (∀ t, d = some t → some t ∉ l) ∧ ApartR l
section
variable {P : Program} {Q : Exit → Act → World → Prop}
def earlyR (l : List Oper) : Bool := (List.range l.length).all fun i => ((l[i]?).map fun o => o.after.all fun e => decide (e.on < i)).getD true
def slotsR (l : List Oper) (vals : List (Option Value)) : List (Option Tmp × Option Value) := (l.map Oper.dst).zip vals
structure CameUp (l : List Oper) (vals : List (Option Value)) : Prop where
  len : vals.length = l.length
  closed : ∀ (i : Nat) (o : Oper) (v : Value), l[i]? = some o → vals[i]? = some (some v) → ∀ e ∈ o.after, Region.binds .any e = true → ∃ u, vals[e.on]? = some (some u)
def flagsR (vals : List (Option Value)) : Array Bool := (vals.map Option.isSome).toArray
end
end Go.Proofs.YthpjkikfadfgeaaGreat
namespace Go.Proofs.YthpjkikfadfgeaaGreat
open Go Go.RowKit

abbrev insOps (T TI T5 : TypeId) (d0 d1 d2 d3 d4 d5 d6 d7 d8 d9 d10 d11 so sa : Tmp) (op5 : Op) (p0 p1 p2 p3 p4 p5 p6 p7 p8 p9 p10 p11 p12 : String) : List Oper :=
  [{ dst := some d0, op := .buildSlice T 0 #[], type := T, pos := p0, after := #[], guard := none },
   { dst := some d1, op := .move (.tmp so), type := T, pos := p1, after := #[], guard := none },
   { dst := some d2, op := .move (.tmp sa), type := TI, pos := p2, after := #[], guard := none },
   { dst := some d3, op := .slice T (.tmp d1) none (some (.tmp d2)) none, type := T, pos := p3, after := #[{ on := 1, ground := .data }, { on := 2, ground := .data }], guard := none },
   { dst := some d4, op := .call { callee := .builtin .append, args := #[.tmp d0, .tmp d3], argTypes := #[T, T] }, type := T, pos := p4, after := #[{ on := 0, ground := .data }, { on := 3, ground := .data }], guard := none },
   { dst := some d5, op := op5, type := T5, pos := p5, after := #[], guard := none },
   { dst := some d6, op := .buildSlice T 1 #[(0, .tmp d5)], type := T, pos := p6, after := #[{ on := 5, ground := .data }], guard := none },
   { dst := some d7, op := .call { callee := .builtin .append, args := #[.tmp d4, .tmp d6], argTypes := #[T, T] }, type := T, pos := p7, after := #[{ on := 4, ground := .data }, { on := 6, ground := .data }, { on := 4, ground := .chain }], guard := none },
   { dst := some d8, op := .move (.tmp so), type := T, pos := p8, after := #[], guard := none },
   { dst := some d9, op := .move (.tmp sa), type := TI, pos := p9, after := #[], guard := none },
   { dst := some d10, op := .slice T (.tmp d8) (some (.tmp d9)) none none, type := T, pos := p10, after := #[{ on := 8, ground := .data }, { on := 9, ground := .data }], guard := none },
   { dst := some d11, op := .call { callee := .builtin .append, args := #[.tmp d7, .tmp d10], argTypes := #[T, T] }, type := T, pos := p11, after := #[{ on := 7, ground := .data }, { on := 10, ground := .data }, { on := 7, ground := .chain }], guard := none },
   { dst := some so, op := .assign (.tmp d11), type := T, pos := p12, after := #[{ on := 11, ground := .data }, { on := 11, ground := .chain }, { on := 0, ground := .phase }, { on := 1, ground := .phase }, { on := 2, ground := .phase }, { on := 3, ground := .phase }, { on := 4, ground := .phase }, { on := 5, ground := .phase }, { on := 6, ground := .phase }, { on := 7, ground := .phase }, { on := 8, ground := .phase }, { on := 9, ground := .phase }, { on := 10, ground := .phase }, { on := 11, ground := .phase }], guard := none }]
section
variable {P : Program} {α : Type} {size : Nat} {cells : α → List Value}
structure InsG (V : World) (e : TypeId) (size : Nat) (cells : α → List Value) (l : List α) (x : α) (i : Nat) (O I S1 S2 X : Value) (x0 x1 x2 x3 x4 x5 x6 x7 x8 x9 x10 x11 x12 : Option Value) (w : World) : Prop where
  below : Below V.heap.size V w
  m1 : ∀ v, x1 = some v → v = O
  m2 : ∀ v, x2 = some v → v = I
  s3 : ∀ v, x3 = some v → v = S1
  k5 : ∀ v, x5 = some v → v = X
  m8 : ∀ v, x8 = some v → v = O
  m9 : ∀ v, x9 = some v → v = I
  s10 : ∀ v, x10 = some v → v = S2
  r0 : ∀ v, x0 = some v → x4 = none → w.ownsRow V.heap.size e size v 0 []
  r4 : ∀ v, x4 = some v → x7 = none → w.ownsRow V.heap.size e size v i ((l.take i).flatMap cells)
  b6 : ∀ v, x6 = some v → x7 = none → ∃ g, v = .slice (some ⟨g, 0, none⟩) 1 1 ∧ Own w g e (cells x) ∧ ∀ v0, x0 = some v0 → x4 = none → v0.ownBlock ≠ some g
  r7 : ∀ v, x7 = some v → x11 = none → w.ownsRow V.heap.size e size v (i + 1) ((l.take i ++ [x]).flatMap cells)
  r11 : ∀ v, x11 = some v → w.ownsRow V.heap.size e size v (l.length + 1) ((l.take i ++ x :: l.drop i).flatMap cells)
  a12 : ∀ v, x12 = some v → x11 = some v
end
end Go.Proofs.YthpjkikfadfgeaaGreat
