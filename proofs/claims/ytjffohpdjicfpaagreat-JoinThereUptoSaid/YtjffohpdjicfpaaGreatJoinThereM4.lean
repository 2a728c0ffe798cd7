/- Part 4 of the texts on which JoinThere rests: facts and contracts. -/
import Derived.Test.YtjffohpdjicfpaaGreatJoinThereM3
import Derived.Test.YtjffohpdjicfpaaGreatProg
import Derived.Laws.StructEq
import Derived.WalkSpells
import Derived.BigQuiet
namespace Go.Proofs.YtjffohpdjicfpaaGreat
open Go Go.RowKit
structure Rw (α : Type) where
  A : Option Addr
  c : Nat
  l : List α
instance {α : Type} : Inhabited (Rw α) := ⟨⟨none, 0, []⟩⟩
def Rw.cells {α : Type} (s : Rw α) : List Value := [.slice s.A s.l.length s.c]
def flatR {α : Type} (L : List (Rw α)) : List α := L.flatMap Rw.l
structure ULs (w : World) (B : Nat) (A : Option Addr) (L : List (Rw Up)) : Prop where
  head : Lies 1 Rw.cells w B A L
  each_ : ∀ s ∈ L, Ups w B s.A s.l
theorem ULs.past {w w' : World} {B B' : Nat} {A : Option Addr} {L : List (Rw Up)} (h : ULs w B A L) (hb : Below B' w w') (hB : B ≤ B') : ULs w' B A L := ⟨h.head.past hb hB, fun s hs => (h.each_ s hs).past hb hB⟩
theorem ULs.wide {w : World} {B B' : Nat} {A : Option Addr} {L : List (Rw Up)} (h : ULs w B A L) (hB : B ≤ B') : ULs w B' A L := ⟨h.head.wide hB, fun s hs => (h.each_ s hs).wide hB⟩
theorem ULs.keep {w w' : World} {A : Option Addr} {L : List (Rw Up)} (h : ULs w w.heap.size A L) (hb : Below w.heap.size w w') : ULs w' w'.heap.size A L := (h.past hb (Nat.le_refl _)).wide hb.size
theorem ULs.at_ {w : World} {B : Nat} {A : Option Addr} {L : List (Rw Up)} (h : ULs w B A L) {k : Nat} {s : Rw Up} (hx : L[k]? = some s) :
    ∃ b o, A = some ⟨b, o, none⟩ ∧ b < B ∧ w.cell? ⟨b, o + k, none⟩ = some (.slice s.A s.l.length s.c) ∧ Ups w B s.A s.l := by
  have hk := (List.getElem?_eq_some_iff.1 hx).1
  obtain ⟨b, o, e, hb, hc⟩ := h.head (by omega)
  refine ⟨b, o, e, hb, ?_, h.each_ s (List.mem_of_getElem? hx)⟩
  have := hc k s hx 0 _ rfl
  rwa [Nat.mul_one, Nat.add_zero] at this
def chkLs : List (List Up) → Int
  | [] => 0
  | l :: t => if chkUs l = 0 then chkLs t else chkUs l
theorem chkLs_take {L : List (List Up)} {k : Nat} {l : List Up} (h : L[k]? = some l) (h0 : chkLs (L.take k) = 0) : chkLs (L.take (k + 1)) = chkUs l := by
  induction L generalizing k with
  | nil => simp at h
  | cons x L ih =>
    cases k with
    | zero =>
      obtain rfl : x = l := by simpa using h
      simp only [List.take_succ_cons, List.take_zero, chkLs]
      split <;> simp [*]
    | succ k =>
      simp only [List.take_succ_cons, chkLs] at h0 ⊢
      split at h0
      · rename_i hx
        rw [if_pos hx]
        exact ih (by simpa using h) h0
      · rename_i hx; exact absurd h0 hx
theorem chkLs_bad {L : List (List Up)} {k : Nat} {l : List Up} (h : L[k]? = some l) (h0 : chkLs (L.take k) = 0) (hl : chkUs l ≠ 0) : chkLs L = chkUs l := by
  induction L generalizing k with
  | nil => simp at h
  | cons x L ih =>
    cases k with
    | zero =>
      obtain rfl : x = l := by simpa using h
      simp only [chkLs]
      rw [if_neg hl]
    | succ k =>
      simp only [List.take_succ_cons, chkLs] at h0 ⊢
      split at h0
      · rename_i hx
        rw [if_pos hx]
        exact ih (by simpa using h) h0
      · rename_i hx; exact absurd h0 hx
theorem chkLs_all {L : List (List Up)} : chkLs L = 0 ↔ ∀ l ∈ L, chkUs l = 0 := by
  induction L with
  | nil => simp [chkLs]
  | cons x L ih =>
    simp only [chkLs]
    by_cases hx : chkUs x = 0
    · rw [if_pos hx, ih]; simp [hx]
    · rw [if_neg hx]
      exact ⟨fun h => absurd h hx, fun h => h x (by simp)⟩
def consL (L : List (List Up)) : List (Uk × Int) := if chkLs L = 0 then resL Uk.cmp (L.flatten.map Up.p) else []
def consE (L : List (List Up)) : Int := if chkLs L = 0 then resE Uk.cmp (L.flatten.map Up.p) else chkLs L
def UpsSays (l : List (Uk × Int)) (e : Int) (w : World) (x : Ending) (w' : World) : Prop :=
  ∃ A c, ∃ outL : List Up, x = .returned (.tuple #[.slice A outL.length c, .int .i64 e]) ∧ outL.map Up.p = l ∧ Ups w' w'.heap.size A outL ∧ (∀ u ∈ outL, UOk u) ∧ Below w.heap.size w w'
def UpsNew (l : List (Uk × Int)) (e : Int) (w : World) (x : Ending) (w' : World) : Prop :=
  ∃ A c, ∃ outL : List Up, x = .returned (.tuple #[.slice A outL.length c, .int .i64 e]) ∧ outL.map Up.p = l ∧ Ups w' w'.heap.size A outL ∧ (∀ u ∈ outL, UOk u) ∧ Below w.heap.size w w' ∧ Lo w.heap.size A outL
def linesOf (us : List Up) : List (Ln Up) := us.map fun u => ⟨u.d, u⟩
theorem linesOf_len (us : List Up) : (linesOf us).length = us.length := List.length_map ..
theorem linesOf_pL (us : List Up) : (linesOf us).map (pL Up.k) = us.map Up.p := by unfold linesOf; rw [List.map_map]; rfl
theorem linesOf_snoc (us : List Up) (u : Up) : linesOf (us ++ [u]) = linesOf us ++ [⟨u.d, u⟩] := by unfold linesOf; simp
theorem flatR_take {α : Type} {L : List (Rw α)} {k : Nat} {s : Rw α} (h : L[k]? = some s) : flatR (L.take (k + 1)) = flatR (L.take k) ++ s.l := by
  unfold flatR
  rw [List.take_add_one, h, List.flatMap_append]
  simp
theorem flatR_flat {α : Type} (L : List (Rw α)) : flatR L = (L.map Rw.l).flatten := by unfold flatR; rw [List.flatMap_def]
theorem flatR_len {α : Type} {L : List (Rw α)} {k : Nat} {s : Rw α} (h : L[k]? = some s) {j : Nat} (hj : j ≤ s.l.length) : (flatR (L.take k)).length + j ≤ (flatR L).length := by
  have h1 : (flatR (L.take (k + 1))).length ≤ (flatR L).length := by
    have : flatR L = flatR (L.take (k + 1)) ++ flatR (L.drop (k + 1)) := by unfold flatR; rw [← List.flatMap_append, List.take_append_drop]
    rw [this, List.length_append]
    omega
  rw [flatR_take h, List.length_append] at h1
  omega
theorem infoLn : (Tryz.prog.info? 86).map (fun i => (i.zero, i.size, i.bytes)) = some (some (.agg #[.int .u64 0, .int .u64 0, .slice none 0 0, .slice none 0 0, .int .u64 0, .int .u64 0, .int .u64 0, .int .i64 0]), 8, 96) := by kernel_rfl
theorem ln_made (w : World) (u : Up) : Lies 8 (Ln.cells Up.cells) (w.alloc (.cells #[.int .u64 (hiW u.d), .int .u64 (loW u.d), .slice u.kA u.key.length u.kc, .slice u.rA u.row.length u.rc, .int .u64 (u.t.e : Int), .int .u64 (u.t.a : Int), .int .u64 (u.t.b : Int), .int .i64 u.d] 86)) (w.heap.size + 1) (some ⟨w.heap.size, 0, none⟩) [(⟨u.d, u⟩ : Ln Up)] := fun _ => by
  have ho := Own.made w 86 (Ln.cells Up.cells (⟨u.d, u⟩ : Ln Up))
  refine ⟨w.heap.size, 0, rfl, Nat.lt_succ_self _, fun i x hx j v hv => ?_⟩
  match i, hx with
  | 0, hx =>
    obtain rfl : (⟨u.d, u⟩ : Ln Up) = x := by simpa using hx
    rw [show 0 + 0 * 8 + j = j by omega]
    exact (ho.at_ j).trans hv
theorem own_drew' {w : World} {k : Nat} {t : TypeId} {l : List Value} (h : Own w k t l) : Own w.drew k t l := h
set_option maxRecDepth 100000 in
set_option maxHeartbeats 16000000 in
theorem consolidate_new (A : Option Addr) (c : Nat) (L : List (Rw Up)) (w : World) (hl : ULs w w.heap.size A L) (hok : ∀ s ∈ L, ∀ u ∈ s.l, UOk u) (hn : (flatR L).length ≤ 1099511627776) (hn2 : L.length ≤ 1099511627776) :
    Calls Tryz.prog 13 #[.slice A L.length c] w (UpsNew (consL (L.map Rw.l)) (consE (L.map Rw.l)) w) := by
  obtain ⟨i0, hi, hz0, hz1, hz2⟩ := info_parts infoLn
  have HI := Lib.hid (And.intro Tryz.underlying81 (And.intro hi (And.intro hz0 (And.intro hz1 hz2))))
  have HL := Lib.hid (And.intro hl hok)
  clear hl hok hi hz0 hz1 hz2
  go_enter Tryz.func13, Tryz.ntmps13
  go_wp2_with fail
  go_loopw [4, 12] (fun v4 v12 wr => ∃ k : Nat, v12 = .int .i64 (k : Int) ∧ k ≤ L.length ∧ wr.ownsRow w.heap.size 86 8 v4 (flatR (L.take k)).length ((linesOf (flatR (L.take k))).flatMap (Ln.cells Up.cells)) ∧ Below w.heap.size w wr ∧ chkLs ((L.map Rw.l).take k) = 0)
    (fun _ v12 _ => L.length - (intOf v12).toNat)
  case atStart => exact ⟨0, rfl, by omega, World.ownsRow_nil _ _ _ _, Below.refl _ _, rfl⟩
  case round =>
    obtain ⟨k, rfl, hk, hown, hbw, hchk⟩ := hrel
    obtain ⟨wo, hwo⟩ : ∃ wo, wo = wr := ⟨_, rfl⟩
    subst hwo
    by_cases hlt : k < L.length
    · have hx : L[k]? = some L[k] := List.getElem?_eq_getElem hlt
      have hxm := List.mem_of_getElem? hx
      generalize L[k] = s at *
      obtain ⟨b, o, rfl, hB, hc0, hups⟩ := HL.out.1.at_ hx
      have hc0 := (hbw.cell (p := ⟨b, o + k, none⟩) hB).trans hc0
      have hxl : (L.map Rw.l)[k]? = some s.l := by rw [List.getElem?_map, hx]; rfl
      have hsn : s.l.length ≤ 1099511627776 := by have := flatR_len hx (Nat.le_refl _); omega
      have hcall := Lib.hid (dcheck_any s.A s.c s.l wo ((hups.past hbw (Nat.le_refl _)).wide hbw.size) (by omega) (HL.out.2 s hxm))
      have hnx := chkLs_take hxl hchk
      have hbad := fun h => chkLs_bad hxl hchk h
      have HO := Lib.hid (And.intro hown (And.intro hbw (And.intro hx (And.intro hxm (And.intro hups (And.intro hnx hbad))))))
      have q0 : (0 : Int) ≤ (k : Int) := by omega
      have q1 : (k : Int) < (L.length : Int) := by omega
      have q2 : decide ((k : Int) < (L.length : Int)) = true := decide_eq_true q1
      obtain ⟨K, hK⟩ : ∃ K, chkUs s.l = K := ⟨_, rfl⟩
      obtain ⟨KA, hKA⟩ : ∃ KA, s.A = KA := ⟨_, rfl⟩
      rw [hK, hKA] at hcall
      rw [hKA] at hc0
      have HKA := Lib.hid hKA
      have HK := Lib.hid hK
      clear hown hbw hchk hx hxm hups hxl hnx hbad hK hKA
      go_wp2_with fail
      refine hcall.out.mono ?_
      rintro _ w1 ⟨rfl, b1⟩
      have H1 := Lib.hid (And.intro (HO.out.2.1.trans (b1.mono HO.out.2.1.size)) (own_below HO.out.1 b1))
      clear b1 hcall hc0
      by_cases hK0 : K = 0
      case neg =>
        have t1 : (K != 0) = true := bne_iff_ne.2 hK0
        have hb := HO.out.2.2.2.2.2.2 (by rw [HK.out]; exact hK0)
        have hcl : consL (L.map Rw.l) = [] := by unfold consL; rw [if_neg (by rw [hb, HK.out]; exact hK0)]
        have hce : consE (L.map Rw.l) = K := by unfold consE; rw [if_neg (by rw [hb, HK.out]; exact hK0), hb, HK.out]
        have HR := Lib.hid (And.intro hcl hce)
        clear hK0 hb hcl hce
        go_wp2_with fail
        go_ret2
        exact ⟨none, 0, [], by rw [HR.out.2]; rfl, HR.out.1.symm, ⟨Lies.nil_, fun u hu => (by cases hu)⟩, fun u hu => (by cases hu), H1.out.1, lo_nil _⟩
      subst hK0
      go_wp2_with fail
      go_loopw [4, 23] (fun v4 v23 wi => ∃ j : Nat, v23 = .int .i64 (j : Int) ∧ j ≤ s.l.length ∧ wi.ownsRow w.heap.size 86 8 v4 (flatR (L.take k) ++ s.l.take j).length ((linesOf (flatR (L.take k) ++ s.l.take j)).flatMap (Ln.cells Up.cells)) ∧ Below w.heap.size w wi)
        (fun _ v23 _ => s.l.length - (intOf v23).toNat)
      case atStart => exact ⟨0, rfl, by omega, by rw [List.take_zero, List.append_nil]; exact H1.out.2, H1.out.1⟩
      case round =>
        obtain ⟨j, rfl, hj, hownj, hbj⟩ := hrel
        obtain ⟨wi, hwi⟩ : ∃ wi, wi = wr := ⟨_, rfl⟩
        subst hwi
        by_cases hjt : j < s.l.length
        · have hy : s.l[j]? = some s.l[j] := List.getElem?_eq_getElem hjt
          have hym := List.mem_of_getElem? hy
          generalize s.l[j] = u at *
          have hys0 := HO.out.2.2.2.2.1.head
          rw [HKA.out] at hys0
          obtain ⟨b', o', rfl, hB', hys⟩ := lies_up hys0 (by omega)
          obtain ⟨e0, e1, e2, e3, e4, e5⟩ := ((hys j u hy).past_ hbj hB').six
          obtain ⟨V, hV, hvb, hvs, hvo⟩ := upbox wi u
          have hin0 : UOk u := HL.out.2 s HO.out.2.2.2.1 u hym
          have hlen : (flatR (L.take k)).length + j ≤ (flatR L).length := flatR_len HO.out.2.2.1 (by omega)
          have hlj : (flatR (L.take k) ++ s.l.take j).length = (flatR (L.take k)).length + j := by rw [List.length_append, List.length_take]; omega
          have hln : (flatR (L.take k) ++ s.l.take j).length ≤ 1099511627776 := by omega
          have hof := fun W => Lib.hid (of_any u.d W hin0.dn.1 hin0.dn.2)
          have hrowV := own_below hownj hvb
          have hPne : u4.ownBlock ≠ some wi.heap.size := fun e => by have := (hownj.lt _ e).2; omega
          have hbV := hbj.trans (hvb.mono hbj.size)
          have htk : s.l.take (j + 1) = s.l.take j ++ [u] := by rw [List.take_add_one, hy]; rfl
          have HJ := Lib.hid (And.intro htk (And.intro hbV (And.intro hlen hlj)))
          have q3 : (0 : Int) ≤ (j : Int) := by omega
          have q4 : (j : Int) < (s.l.length : Int) := by omega
          have q5 : decide ((j : Int) < (s.l.length : Int)) = true := decide_eq_true q4
          generalize hflat : flatR (L.take k) ++ s.l.take j = us at *
          have HF := Lib.hid hflat
          clear hy hym hys hys0 hvb hvs hin0 hlen hlj hownj hbj hbV htk hflat
          go_upto_region 11 with fail
          rw [← hV]
          clear hV e0 e1 e2 e3 e4 e5
          obtain ⟨e0, e1, e2, e3, e4, e5⟩ := own6 hvo
          have HS := Lib.hid (fun W (h : Own W wi.heap.size 49 u.cells) => (own6 h : W.cell? ⟨wi.heap.size, 0, none⟩ = some (.slice u.kA u.key.length u.kc) ∧ W.cell? ⟨wi.heap.size, 1, none⟩ = some (.slice u.rA u.row.length u.rc) ∧ W.cell? ⟨wi.heap.size, 2, none⟩ = some (.int .u64 (u.t.e : Int)) ∧ W.cell? ⟨wi.heap.size, 3, none⟩ = some (.int .u64 (u.t.a : Int)) ∧ W.cell? ⟨wi.heap.size, 4, none⟩ = some (.int .u64 (u.t.b : Int)) ∧ W.cell? ⟨wi.heap.size, 5, none⟩ = some (.int .i64 u.d)))
          go_region_held3 (fun w' => Own w' wi.heap.size 49 u.cells ∧ (w'.cell? ⟨wi.heap.size, 0, none⟩ = some (.slice u.kA u.key.length u.kc) ∧ w'.cell? ⟨wi.heap.size, 1, none⟩ = some (.slice u.rA u.row.length u.rc) ∧ w'.cell? ⟨wi.heap.size, 2, none⟩ = some (.int .u64 (u.t.e : Int)) ∧ w'.cell? ⟨wi.heap.size, 3, none⟩ = some (.int .u64 (u.t.a : Int)) ∧ w'.cell? ⟨wi.heap.size, 4, none⟩ = some (.int .u64 (u.t.b : Int)) ∧ w'.cell? ⟨wi.heap.size, 5, none⟩ = some (.int .i64 u.d)))
            ((refine (fun h => And.intro h (HS.out _ h)) ?_; repeat (first | with_reducible exact ho9 | with_reducible exact ho8 | with_reducible exact hvo | with_reducible refine Own.more ?_ _ | with_reducible refine own_drew' ?_)))
            (first | (go_at_call 32; refine (hof _).out.mono ?_; rintro _ w2 ⟨rfl, b2⟩; have ho8 : Own w2 wi.heap.size 49 u.cells := (own_drew' hvo).past b2 hvo.inside; have hrow2 := own_below hrowV.drew b2; have hb8 := (HJ.out.2.1.drew).trans (b2.mono (HJ.out.2.1.drew).size)) | (refine step_append_lies (size := 8) (cells := Ln.cells Up.cells) (l := [(⟨u.d, u⟩ : Ln Up)]) (B := w2.heap.size + 1) _ rfl (.tmp 27) (.tmp 33) 81 86 rfl i0 _ 96 HI.out.1 HI.out.2.1 HI.out.2.2.1 HI.out.2.2.2.1 HI.out.2.2.2.2 rfl (by decide) (fun _ => rfl) lucells_one w.heap.size u4 us.length _ rfl (hrow2.alloc _) 1 w2.heap.size 0 (by simp [Act.eval, Act.put]) (ln_made _ _) (by unfold maxLen; simp; omega) (by simp; omega) (by simp; exact Nat.le_succ_of_le hb8.size) ?_; intro v3 w3 ho3 hb3 hv3 hg3; have ho9 : Own w3 wi.heap.size 49 u.cells := (hg3.block _ (by have := ho8.inside; simp; omega) (fun e => hPne e.symm)).trans (ho8.more _)))
          all_goals
            have H3 := Lib.hid (And.intro ho3 ((Below.alloc hb8 hb8.size _).trans hb3))
            clear ho3 hb3 hv3 hg3 ho9 ho8 hb8 hrow2 hrowV hPne HS hvo b2 hof e0 e1 e2 e3 e4 e5
            go_wp2_with fail
            go_roundw
            case rel =>
              refine ⟨j + 1, by go_num, by omega, ?_, H3.out.2⟩
              rw [HJ.out.1, ← List.append_assoc, HF.out, linesOf_snoc, List.flatMap_append, List.length_append]
              exact H3.out.1
            case measure => simp [intOf]; omega
        · have hj2 : j = s.l.length := by omega
          have q5 : decide ((j : Int) < (s.l.length : Int)) = false := decide_eq_false (by omega)
          rw [hj2, List.take_length] at hownj
          have HJ := Lib.hid (And.intro hownj hbj)
          clear hownj hbj hj2
          go_wp2_with fail
          go_roundw
          case rel =>
            refine ⟨k + 1, by go_num, by omega, ?_, HJ.out.2, by rw [HO.out.2.2.2.2.2.1, HK.out]⟩
            rw [flatR_take HO.out.2.2.1]
            exact HJ.out.1
          case measure => simp [intOf]; omega
    · have hk2 : k = L.length := by omega
      have q2 : decide ((k : Int) < (L.length : Int)) = false := decide_eq_false (by omega)
      rw [hk2, List.take_length] at hown
      rw [hk2, List.take_of_length_le (by rw [List.length_map]; exact Nat.le_refl _)] at hchk
      have hgood : ∀ u ∈ flatR L, chkU u = 0 ∧ UOk u ∧ UIn w w.heap.size u := fun u hu => by
        obtain ⟨s, hs, hus⟩ := List.mem_flatMap.1 hu
        exact ⟨chkUs_all.1 (chkLs_all.1 hchk s.l (List.mem_map_of_mem hs)) u hus, HL.out.2 s hs u hus, (HL.out.1.each_ s hs).each_ u hus⟩
      have hmem : ∀ x ∈ linesOf (flatR L), x.u ∈ flatR L ∧ x.S = x.u.d := fun x hx => by
        unfold linesOf at hx
        obtain ⟨u, hu, rfl⟩ := List.mem_map.1 hx
        exact ⟨hu, rfl⟩
      have hcall := (totalU_any u4 (flatR L).length w.heap.size (linesOf (flatR L)) wo (linesOf_len _).symm hown hbw.size (fun x hx => (hgood x.u (hmem x hx).1).2.2.past hbw (Nat.le_refl _)) (fun x hx => (hgood x.u (hmem x hx).1).2.1) (fun x hx => (hgood x.u (hmem x hx).1).1)
        (fun x hx => by rw [(hmem x hx).2]; exact (hgood x.u (hmem x hx).1).2.1.dn) hn)
      rw [linesOf_pL, flatR_flat] at hcall
      obtain ⟨E, hE⟩ : ∃ E, resE Uk.cmp ((L.map Rw.l).flatten.map Up.p) = E := ⟨_, rfl⟩
      obtain ⟨RL, hRL⟩ : ∃ RL, resL Uk.cmp ((L.map Rw.l).flatten.map Up.p) = RL := ⟨_, rfl⟩
      have hcall : Hid (Calls Tryz.prog 33 #[u4, .func (.func 34) #[] #[], .func (.func 35) #[] #[]] wo fun x w' => ∃ A c, ∃ outL : List Up, x = .returned (.tuple #[.slice A outL.length c, .int .i64 E]) ∧ outL.map Up.p = RL ∧ Ups w' w'.heap.size A outL ∧ (∀ u ∈ outL, UOk u) ∧ Below w.heap.size wo w' ∧ Lo w.heap.size A outL) := by
        unfold TotSays at hcall
        rw [hE, hRL] at hcall
        exact Lib.hid hcall
      have hcl : consL (L.map Rw.l) = RL := by unfold consL; rw [if_pos hchk, hRL]
      have hce : consE (L.map Rw.l) = E := by unfold consE; rw [if_pos hchk, hE]
      have HC := Lib.hid (And.intro hcl (And.intro hce hbw))
      clear hown hchk hgood hmem hcl hce hbw hE hRL
      go_wp2_with fail
      refine hcall.out.mono ?_
      rintro _ w9 ⟨A', c', outL, rfl, k1, k2, k3, k4⟩
      have H9 := Lib.hid (And.intro k1 (And.intro k2 (And.intro k3 k4)))
      clear k1 k2 k3 k4 hcall
      go_wp2_with fail
      go_ret2
      exact ⟨A', c', outL, by rw [HC.out.2.1]; rfl, by rw [HC.out.1]; exact H9.out.1, H9.out.2.1, H9.out.2.2.1, HC.out.2.2.trans H9.out.2.2.2.1, H9.out.2.2.2.2⟩
theorem eqIn_rounds (d : Nat) (a b c e : Int) (w : World) : (Op.equalIn (d + 2) 24 (.agg #[.int .u64 a, .int .u64 b]) (.agg #[.int .u64 c, .int .u64 e])).run Tryz.prog w = .ok ((a == c) && (b == e)) w := by
  have u := Tryz.underlying24
  have u1 := Tryz.underlying23
  have z1 := Tryz.sizeOf23
  have a1 := Tryz.isAgg23
  unfold Op.equalIn
  simp only [Sem.run_bind, run_underlying u, Result.andThen_ok, z1]
  by_cases h1 : a = c <;> by_cases h2 : b = e <;>
    simp [h1, h2, part, a1, z1, run_equalIn_int w _ _ _ _ _ _ u1, Std.Legacy.Range.forIn_eq_forIn_range', Std.Legacy.Range.size, List.range', go_sem]
theorem eql_rounds (a b c e : Int) (w : World) : (binOp .eql 24 (.agg #[.int .u64 a, .int .u64 b]) (.agg #[.int .u64 c, .int .u64 e])).run Tryz.prog w = .ok (.bool ((a == c) && (b == e))) w := by
  rw [run_eql_struct, show (10000 : Nat) = 9998 + 2 from rfl, eqIn_rounds]; rfl
theorem grd_rounds (op : BinOp) (x y : Operand) (xs ys : Array Value) (w : World) : (eqGuard op 24 x y (.agg xs) (.agg ys)).run Tryz.prog w = .ok () w := run_eqGuard_agg w op _ x y xs ys (by kernel_rfl)
theorem grd_time (op : BinOp) (x y : Operand) (xs ys : Array Value) (w : World) : (eqGuard op 26 x y (.agg xs) (.agg ys)).run Tryz.prog w = .ok () w := run_eqGuard_agg w op _ x y xs ys (by kernel_rfl)
def eqT (s t : Tm) : Bool := (s.e == t.e) && ((s.a == t.a) && (s.b == t.b))
theorem eqT_iff {s t : Tm} : eqT s t = true ↔ s = t := by
  cases s; cases t; simp [eqT]
theorem eqIn_time (s t : Tm) (w : World) : (Op.equalIn 10000 26 s.val t.val).run Tryz.prog w = .ok (eqT s t) w := by
  have u1 := Tryz.underlying23
  have z1 := Tryz.sizeOf23
  have a1 := Tryz.isAgg23
  have z2 := Tryz.sizeOf24
  have a2 := Tryz.isAgg24
  have hS : Tryz.prog.underlying 26 = some (.struct (Tryz.prog.fieldsOf 26)) := by kernel_rfl
  have hp : Tryz.prog.stoodInHeld 26 = false := by kernel_rfl
  unfold Tm.val
  rw [show (10000 : Nat) = 9996 + 1 + 2 + 1 from rfl, run_equalIn_agg w _ _ _ _ hS hp]
  simp only [Program.fieldsOf, Tryz.underlying26, eqT]
  have i0 : ∀ x y : Nat, ((x : Int) = (y : Int)) = (x = y) := fun x y => by simp; omega
  by_cases h1 : s.e = t.e
  · simp [Op.eqFields, part, a1, a2, z1, z2, h1, i0, run_equalIn_int w _ _ _ _ _ _ u1, go_sem]
    rw [show (9999 : Nat) = 9997 + 2 from rfl, eqIn_rounds]
    cases hq : ((s.a : Int) == (t.a : Int)) && ((s.b : Int) == (t.b : Int)) <;> simp_all
  · have h2 : (s.e == t.e) = false := by simpa using h1
    simp [Op.eqFields, part, a1, a2, z1, z2, h1, h2, i0, run_equalIn_int w _ _ _ _ _ _ u1, go_sem]
theorem neq_time (s t : Tm) (w : World) : (binOp .neq 26 s.val t.val).run Tryz.prog w = .ok (.bool (!eqT s t)) w := by
  have h := eqIn_time s t w
  unfold Tm.val at h ⊢
  rw [run_neq_struct, h]; rfl
attribute [local go_sem ↓] Go.wp_at_zero Go.wp_at_succ

theorem max_le (a b c d : Nat) : ((((max a c : Nat) : Int) == (c : Int)) && (((max b d : Nat) : Int) == (d : Int))) = (decide (a ≤ c) && decide (b ≤ d)) := by
  rw [Bool.eq_iff_iff]; simp only [Bool.and_eq_true, beq_iff_eq, decide_eq_true_eq]; omega

set_option maxRecDepth 100000 in
set_option maxHeartbeats 800000 in
theorem ahead_any (s t : Tm) (w : World) :
    Calls Tryz.prog 40 #[s.val, t.val] w fun e w' => e = .returned (.bool (s.le t)) ∧ Below w.heap.size w w' := by
  obtain ⟨a, b, c⟩ := s
  obtain ⟨x, y, z⟩ := t
  unfold Tm.val Tm.le
  dsimp only
  by_cases h : a ≤ x
  · have heq := eql_rounds ((max b y : Nat) : Int) ((max c z : Nat) : Int) (y : Int) (z : Int)
    have hgd := fun (x1 y1 : Operand) (xs ys : Array Value) (w : World) => grd_rounds .eql x1 y1 xs ys w
    have hle : decide ((a : Int) ≤ (x : Int)) = true := by simp; omega
    have hm := max_le b c y z
    simp only [hm] at heq
    have hr : (decide (a ≤ x) && (decide (b ≤ y) && decide (c ≤ z))) = (decide (b ≤ y) && decide (c ≤ z)) := by simp [h]
    rw [hr]
    clear hm hr
    generalize (decide (b ≤ y) && decide (c ≤ z)) = r at heq
    go_enter Tryz.func40, Tryz.ntmps40
    go_wp2_with fail
    go_region_held3 (fun w' => w'.cell? ⟨w.heap.size, 0, none⟩ = some (.int .u64 (a : Int)) ∧ w'.cell? ⟨w.heap.size, 1, none⟩ = some (.int .u64 (b : Int)) ∧ w'.cell? ⟨w.heap.size, 2, none⟩ = some (.int .u64 (c : Int)) ∧
        w'.cell? ⟨w.heap.size + 1, 0, none⟩ = some (.int .u64 (x : Int)) ∧ w'.cell? ⟨w.heap.size + 1, 1, none⟩ = some (.int .u64 (y : Int)) ∧ w'.cell? ⟨w.heap.size + 1, 2, none⟩ = some (.int .u64 (z : Int)))
      (first | go_keep | (refine ⟨?_, ?_, ?_, ?_, ?_, ?_⟩ <;> (refine (hb.cell (by first | (simp; done) | (simp; omega))).trans ?_; simp [go_sem])))
      (first | (go_at_call 80; refine (each_greater _ _ _ _ _).mono ?_; rintro e w1 ⟨rfl, hb⟩))
    go_wp2_with fail
    go_ret
    exact ⟨rfl, ((((Below.refl _ _).alloc (Nat.le_refl _) _).alloc (by simp) _).drew).trans (hb.mono (by simp; omega))⟩
  · have hr : (decide (a ≤ x) && (decide (b ≤ y) && decide (c ≤ z))) = false := by simp [h]
    have hn : decide (a ≤ x) = false := by simpa using h
    rw [hr]
    clear hr h
    go_enter Tryz.func40, Tryz.ntmps40
    go_wp2_with fail
    go_quiet (fail)
    go_wp2_with fail
    go_ret
    exact ⟨rfl, below_draws (((Below.refl _ _).alloc (Nat.le_refl _) _).alloc (by simp) _) _⟩
def CtsSays (l : List (List Vl × Int)) (e : Int) (base : Nat) (w : World) (x : Ending) (w' : World) : Prop :=
  ∃ A c, ∃ outL : List Ct, x = .returned (.tuple #[.slice A outL.length c, .int .i64 e]) ∧ outL.map Ct.p = l ∧ Cts w' w'.heap.size A outL ∧ (∀ u ∈ outL, COk u) ∧ Below base w w' ∧ LoC base A outL
set_option maxRecDepth 100000 in
set_option maxHeartbeats 3200000 in
theorem counts_any (v : Value) (n base : Nat) (l : List (Ln Ct)) (w : World) (R : List (List Vl × Int)) (E : Int) (hR' : resL cmpRows (l.map (pL Ct.k)) = R) (hE : resE cmpRows (l.map (pL Ct.k)) = E) (hnl : n = l.length) (h : w.ownsRow base 98 4 v n (l.flatMap (Ln.cells Ct.cells))) (hbase : base ≤ w.heap.size) (hin : ∀ x ∈ l, CIn w base x.u) (hok : ∀ x ∈ l, COk x.u) (hR : ∀ x ∈ l, RowR x.u.k)
    (hS : ∀ x ∈ l, -9223372036854775808 ≤ x.S ∧ x.S ≤ 9223372036854775807) (hn : n ≤ 1099511627776) : Calls Tryz.prog 42 #[v] w (CtsSays R E base w) := by
  have hcall := totalC_any v n base l w hnl h hbase hin hok hR hS hn
  unfold TotCs at hcall
  rw [hR', hE] at hcall
  have HC := Lib.hid hcall
  clear hcall hnl h hbase hin hok hR hS hn hR' hE
  go_enter Tryz.func42, Tryz.ntmps42
  go_wp2_with fail
  refine HC.out.mono ?_
  rintro _ w1 ⟨A', c', outL, rfl, k1, k2, k3, k4⟩
  have H := Lib.hid (And.intro k1 (And.intro k2 (And.intro k3 k4)))
  clear k1 k2 k3 k4
  go_wp2_with fail
  go_ret2
  exact ⟨A', c', outL, rfl, H.out.1, H.out.2.1, H.out.2.2.1, H.out.2.2.2⟩
set_option maxRecDepth 100000 in
set_option maxHeartbeats 800000 in
theorem orE2_any (g : Nat) (x y : Int) (w : World) (h0 : w.cell? ⟨g, 0, none⟩ = some (.int .i64 x)) (h1 : w.cell? ⟨g, 1, none⟩ = some (.int .i64 y)) :
    Calls Tryz.prog 19 #[.slice (some ⟨g, 0, none⟩) 2 2] w fun e w' => e = .returned (.int .i64 (orI x y)) ∧ w = w' := by
  go_enter Tryz.func19, Tryz.ntmps19
  go_wp2_with fail
  go_rounds 3
  all_goals
    go_ret
    refine ⟨ret_i64 ?_, rfl⟩
    unfold orI
    simp_all
def chkAt (l : List Up) (t : Tm) : Int := orI (chkUs l) (chk [t])
def atP (l : List Up) (t : Tm) : List (List Vl × Int) := (l.filter fun u => u.t.le t).map fun u => (u.row, u.d)
def atL (l : List Up) (t : Tm) : List (List Vl × Int) := if chkAt l t = 0 then resL cmpRows (atP l t) else []
def atE (l : List Up) (t : Tm) : Int := if chkAt l t = 0 then resE cmpRows (atP l t) else chkAt l t
def linesAt (l : List Up) (t : Tm) : List (Ln Ct) := (l.filter fun u => u.t.le t).map fun u => ⟨u.d, ⟨u.rA, u.rc, u.row, 0⟩⟩
theorem linesAt_pL (l : List Up) (t : Tm) : (linesAt l t).map (pL Ct.k) = atP l t := by unfold linesAt atP; rw [List.map_map]; rfl
theorem linesAt_len (l : List Up) (t : Tm) : (linesAt l t).length ≤ l.length := by unfold linesAt; rw [List.length_map]; exact List.length_filter_le ..
theorem linesAt_next {l : List Up} {t : Tm} {j : Nat} {u : Up} (h : l[j]? = some u) : linesAt (l.take (j + 1)) t = linesAt (l.take j) t ++ if u.t.le t = true then [⟨u.d, ⟨u.rA, u.rc, u.row, 0⟩⟩] else [] := by
  unfold linesAt
  rw [List.take_add_one, h, List.filter_append, List.map_append]
  congr 1
  by_cases ht : u.t.le t = true <;> simp [ht]
theorem infoLc : (Tryz.prog.info? 98).map (fun i => (i.zero, i.size, i.bytes)) = some (some (.agg #[.int .u64 0, .int .u64 0, .slice none 0 0, .int .i64 0]), 4, 48) := by kernel_rfl
theorem lc_made (w : World) (S : Int) (c : Ct) : Lies 4 (Ln.cells Ct.cells) (w.alloc (.cells #[.int .u64 (hiW S), .int .u64 (loW S), .slice c.rA c.row.length c.rc, .int .i64 c.n] 98)) (w.heap.size + 1) (some ⟨w.heap.size, 0, none⟩) [(⟨S, c⟩ : Ln Ct)] := fun _ => by
  have ho := Own.made w 98 (Ln.cells Ct.cells (⟨S, c⟩ : Ln Ct))
  refine ⟨w.heap.size, 0, rfl, Nat.lt_succ_self _, fun i x hx j v hv => ?_⟩
  match i, hx with
  | 0, hx =>
    obtain rfl : (⟨S, c⟩ : Ln Ct) = x := by simpa using hx
    rw [show 0 + 0 * 4 + j = j by omega]
    exact (ho.at_ j).trans hv
set_option maxRecDepth 100000 in
set_option maxHeartbeats 16000000 in
theorem at_any (A : Option Addr) (c : Nat) (l : List Up) (t : Tm) (w : World) (hl : Ups w w.heap.size A l) (hok : ∀ u ∈ l, UOk u) (hn : l.length ≤ 1099511627776) :
    Calls Tryz.prog 16 #[.slice A l.length c, t.val] w (CtsSays (atL l t) (atE l t) w.heap.size w) := by
  obtain ⟨i0, hi, hz0, hz1, hz2⟩ := info_parts infoLc
  have HI := Lib.hid (And.intro Tryz.underlying96 (And.intro hi (And.intro hz0 (And.intro hz1 hz2))))
  obtain ⟨V, hV, hvb, hvs, hvo⟩ := tm_box w t
  have hupV := hl.keep hvb
  have x1 := fun W (h : Bl V W) => Lib.hid (dcheck_any A c l W (hupV.keep h) (by omega) hok)
  have x3 : ∀ W g, Times W W.heap.size (some ⟨g, 0, none⟩) [t] → Hid (Calls Tryz.prog 41 #[.slice (some ⟨g, 0, none⟩) 1 1] W fun e w' => e = .returned (.int .i64 (chk [t])) ∧ Below W.heap.size W w') := fun W g h => Lib.hid (check_any (some ⟨g, 0, none⟩) 1 [t] W h (by unfold maxLen; simp))
  have x4 := fun W g h1 h2 => Lib.hid (orE2_any g (chkUs l) (chk [t]) W h1 h2)
  have HS := Lib.hid (fun W (h : Bl V W) => (own3 (hvo.past h hvo.inside) : W.cell? ⟨w.heap.size, 0, none⟩ = some (.int .u64 (t.e : Int)) ∧ W.cell? ⟨w.heap.size, 1, none⟩ = some (.int .u64 (t.a : Int)) ∧ W.cell? ⟨w.heap.size, 2, none⟩ = some (.int .u64 (t.b : Int))))
  have htm := Lib.hid (fun W => times_made W t)
  have htd := Lib.hid (fun W => times_made_drew W t)
  have hself := Bl.refl V
  obtain ⟨d0, d1, d2⟩ := own3 hvo
  have HL := Lib.hid (And.intro hl (And.intro hok (And.intro hvb hvo)))
  rw [show t.val = .agg #[.int .u64 (t.e : Int), .int .u64 (t.a : Int), .int .u64 (t.b : Int)] from rfl]
  obtain ⟨K, hK⟩ : ∃ K, chkUs l = K := ⟨_, rfl⟩
  obtain ⟨Q, hQ⟩ : ∃ Q, chk [t] = Q := ⟨_, rfl⟩
  have hO := Lib.hid (show chkAt l t = orI K Q by unfold chkAt; rw [hK, hQ])
  have HK := Lib.hid hK
  rw [hK] at x4
  simp only [hK] at x1
  rw [hQ] at x4
  simp only [hQ] at x3
  clear hl hok hi hz0 hz1 hz2 hvb hvs hvo hupV hK hQ
  go_enter Tryz.func16, Tryz.ntmps16
  go_upto_region 1 with fail
  rw [← hV]
  clear hV
  go_cut [6] (fun s6 wx => s6 = .int .i64 (orI K Q) ∧ Bl V wx)
  case first =>
    go_region_held3 (fun w' => Bl V w' ∧ (w'.cell? ⟨w.heap.size, 0, none⟩ = some (.int .u64 (t.e : Int)) ∧ w'.cell? ⟨w.heap.size, 1, none⟩ = some (.int .u64 (t.a : Int)) ∧ w'.cell? ⟨w.heap.size, 2, none⟩ = some (.int .u64 (t.b : Int))))
      ((refine (fun h => And.intro h (HS.out _ h)) ?_; repeat (first | with_reducible exact hb3 | with_reducible exact hb1 | with_reducible exact hself | with_reducible refine Bl.more ?_ _ | with_reducible refine Bl.drew ?_)))
      (first | (go_at_call 20; refine (x1 _ (by repeat (first | with_reducible exact hself | with_reducible refine Bl.more ?_ _ | with_reducible refine Bl.drew ?_))).out.mono ?_; rintro _ w1 ⟨rfl, k1⟩; have hb1 : Bl V w1 := Bl.call (by repeat (first | with_reducible exact hself | with_reducible refine Bl.more ?_ _ | with_reducible refine Bl.drew ?_)) k1; first | have ht1 := tms_keep (htm.out _) k1 | have ht1 := tms_keep (htd.out _) k1 | skip) | (go_at_call 41; refine (x3 _ _ (by first | exact ht1 | exact htm.out _)).out.mono ?_; rintro _ w3 ⟨rfl, k3⟩; have hb3 : Bl V w3 := Bl.call (by repeat (first | with_reducible exact hb1 | with_reducible refine Bl.more ?_ _)) k3) | (go_at_call 19; refine (x4 _ _ ?_ ?_).out.mono ?_; (simp [go_sem]); (simp [go_sem]); rintro _ w4 ⟨rfl, rfl⟩))
    all_goals
      go_wp2_with fail
      go_meet
      exact ⟨rfl, hb3.more _⟩
  case rest =>
    obtain ⟨rfl, hcb⟩ := hcut
    have hbw := HL.out.2.2.1.trans (hcb.below.mono HL.out.2.2.1.size)
    have HB := Lib.hid (And.intro hbw (HL.out.2.2.2.past hcb.below HL.out.2.2.2.inside))
    obtain ⟨Z, hZ⟩ : ∃ Z, orI K Q = Z := ⟨_, rfl⟩
    rw [hZ] at hO ⊢
    have HZ := Lib.hid hZ
    clear hcb hbw x1 x3 x4 d0 d1 d2 hZ
    by_cases hz : Z = 0
    case neg =>
      have t1 : (Z != 0) = true := bne_iff_ne.2 hz
      have hal : atL l t = [] := by unfold atL; rw [if_neg (by rw [hO.out]; exact hz)]
      have hae : atE l t = Z := by unfold atE; rw [if_neg (by rw [hO.out]; exact hz), hO.out]
      have HR := Lib.hid (And.intro hal hae)
      clear hz hal hae
      go_wp2_with fail
      go_ret2
      exact ⟨none, 0, [], by rw [HR.out.2]; rfl, HR.out.1.symm, ⟨Lies.nil_, fun u hu => (by cases hu)⟩, fun u hu => (by cases hu), HB.out.1, loC_nil _⟩
    subst hz
    have hKZ : K = 0 := by have := HZ.out; unfold orI at this; split at this <;> omega
    have HKZ := Lib.hid hKZ
    clear hKZ
    go_wp2_with fail
    go_loopw [7, 22] (fun v7 v22 wr => ∃ j : Nat, v22 = .int .i64 (j : Int) ∧ j ≤ l.length ∧ wr.ownsRow w.heap.size 98 4 v7 (linesAt (l.take j) t).length ((linesAt (l.take j) t).flatMap (Ln.cells Ct.cells)) ∧ Below w.heap.size w wr ∧ Own wr w.heap.size 26 t.cells)
      (fun _ v22 _ => l.length - (intOf v22).toNat)
    case atStart => exact ⟨0, rfl, by omega, World.ownsRow_nil _ _ _ _, HB.out.1, HB.out.2⟩
    case round =>
      obtain ⟨j, rfl, hj, hownj, hbj, hvoj⟩ := hrel
      obtain ⟨wi, hwi⟩ : ∃ wi, wi = wr := ⟨_, rfl⟩
      subst hwi
      by_cases hjt : j < l.length
      · have hy : l[j]? = some l[j] := List.getElem?_eq_getElem hjt
        have hym := List.mem_of_getElem? hy
        generalize l[j] = u at *
        obtain ⟨b', o', rfl, hB', hys⟩ := lies_up HL.out.1.head (by omega)
        obtain ⟨e0, e1, e2, e3, e4, e5⟩ := ((hys j u hy).past_ hbj hB').six
        obtain ⟨V2, hV2, hvb2, hvs2, hvo2⟩ := upbox wi u
        have hin0 : UOk u := HL.out.2.1 u hym
        have hrowV := own_below hownj hvb2
        have hPne : u7.ownBlock ≠ some wi.heap.size := fun e => by have := (hownj.lt _ e).2; omega
        have hTne : u7.ownBlock ≠ some w.heap.size := fun e => by
          rcases hownj.2 with ⟨h0, _⟩ | ⟨g, cap, cur, h0, _, hg, _⟩
          · rw [h0] at e; cases e
          · rw [h0] at e
            injection e with e
            subst e
            unfold Own at hvoj
            rw [hvoj] at hg
            simp at hg
        have hbV := hbj.trans (hvb2.mono hbj.size)
        have hnx := linesAt_next (t := t) hy
        have hlen := linesAt_len (l.take j) t
        rw [List.length_take] at hlen
        have hln : (linesAt (l.take j) t).length ≤ 1099511627776 := by omega
        have HJ := Lib.hid (And.intro hnx (And.intro hbV (And.intro hvo2 (And.intro (hvoj.past hvb2 hvoj.inside) (And.intro hrowV (And.intro hPne hTne))))))
        have hof := fun W => Lib.hid (of_any u.d W hin0.dn.1 hin0.dn.2)
        have hah := fun W => Lib.hid (ahead_any u.t t W)
        have hlt2 := hvoj.inside
        have q3 : (0 : Int) ≤ (j : Int) := by omega
        have q4 : (j : Int) < (l.length : Int) := by omega
        have q5 : decide ((j : Int) < (l.length : Int)) = true := decide_eq_true q4
        generalize linesAt (l.take j) t = us at *
        unfold Tm.val at hah
        clear hy hym hys hvb2 hvs2 hin0 hownj hbj hbV hnx hlen hvoj hvo2 hrowV hPne hTne
        go_upto_region 8 with fail
        rw [← hV2]
        clear hV2 e0 e1 e2 e3 e4 e5
        obtain ⟨e0, e1, e2, e3, e4, e5⟩ := own6 HJ.out.2.2.1
        obtain ⟨d0, d1, d2⟩ := own3 HJ.out.2.2.2.1
        go_wp2_with fail
        refine (hah _).out.mono ?_
        rintro _ w5 ⟨rfl, b5⟩
        have hrow5 := own_below HJ.out.2.2.2.2.1 b5
        have hvo := HJ.out.2.2.1.past b5 HJ.out.2.2.1.inside
        have hb5 := HJ.out.2.1.trans (b5.mono HJ.out.2.1.size)
        have hT5 := HJ.out.2.2.2.1.past b5 HJ.out.2.2.2.1.inside
        have H5 := Lib.hid (And.intro hrow5 (And.intro hb5 hT5))
        clear e0 e1 e2 e3 e4 e5 d0 d1 d2 hah b5
        cases hle : u.t.le t
        case false =>
          have HE := Lib.hid hle
          clear hle hrow5 hb5 hT5 hvo
          go_wp2_with fail
          go_roundw
          case rel =>
            refine ⟨j + 1, by go_num, by omega, ?_, H5.out.2.1, H5.out.2.2⟩
            rw [HJ.out.1, HE.out, if_neg Bool.false_ne_true, List.append_nil]
            exact H5.out.1
          case measure => simp [intOf]; omega
        case true =>
          have HE := Lib.hid hle
          clear hle
          obtain ⟨e0, e1, e2, e3, e4, e5⟩ := own6 hvo
          have HS2 := Lib.hid (fun W (h : Own W wi.heap.size 49 u.cells) => (own6 h : W.cell? ⟨wi.heap.size, 0, none⟩ = some (.slice u.kA u.key.length u.kc) ∧ W.cell? ⟨wi.heap.size, 1, none⟩ = some (.slice u.rA u.row.length u.rc) ∧ W.cell? ⟨wi.heap.size, 2, none⟩ = some (.int .u64 (u.t.e : Int)) ∧ W.cell? ⟨wi.heap.size, 3, none⟩ = some (.int .u64 (u.t.a : Int)) ∧ W.cell? ⟨wi.heap.size, 4, none⟩ = some (.int .u64 (u.t.b : Int)) ∧ W.cell? ⟨wi.heap.size, 5, none⟩ = some (.int .i64 u.d)))
          go_upto_region 9 with fail
          go_region_held3 (fun w' => Own w' wi.heap.size 49 u.cells ∧ (w'.cell? ⟨wi.heap.size, 0, none⟩ = some (.slice u.kA u.key.length u.kc) ∧ w'.cell? ⟨wi.heap.size, 1, none⟩ = some (.slice u.rA u.row.length u.rc) ∧ w'.cell? ⟨wi.heap.size, 2, none⟩ = some (.int .u64 (u.t.e : Int)) ∧ w'.cell? ⟨wi.heap.size, 3, none⟩ = some (.int .u64 (u.t.a : Int)) ∧ w'.cell? ⟨wi.heap.size, 4, none⟩ = some (.int .u64 (u.t.b : Int)) ∧ w'.cell? ⟨wi.heap.size, 5, none⟩ = some (.int .i64 u.d)))
            ((refine (fun h => And.intro h (HS2.out _ h)) ?_; repeat (first | with_reducible exact ho9 | with_reducible exact ho8 | with_reducible exact hvo | with_reducible refine Own.more ?_ _ | with_reducible refine own_drew' ?_)))
            (first | (go_at_call 32; refine (hof _).out.mono ?_; rintro _ w2 ⟨rfl, b2⟩; have ho8 : Own w2 wi.heap.size 49 u.cells := (own_drew' hvo).past b2 hvo.inside; have hrow2 := own_below hrow5.drew b2; have hb8 := (hb5.drew).trans (b2.mono (hb5.drew).size); have hT8 := (own_drew' hT5).past b2 hT5.inside) | (refine step_append_lies (size := 4) (cells := Ln.cells Ct.cells) (l := [(⟨u.d, ⟨u.rA, u.rc, u.row, 0⟩⟩ : Ln Ct)]) (B := w2.heap.size + 1) _ rfl (.tmp 30) (.tmp 38) 96 98 rfl i0 _ 48 HI.out.1 HI.out.2.1 HI.out.2.2.1 HI.out.2.2.2.1 HI.out.2.2.2.2 rfl (by decide) (fun _ => rfl) lccells_one w.heap.size u7 us.length _ rfl (hrow2.alloc _) 1 w2.heap.size 0 (by simp [Act.eval, Act.put]) (lc_made _ _ _) (by unfold maxLen; simp; omega) (by simp; omega) (by simp; exact Nat.le_succ_of_le hb8.size) ?_; intro v3 w3 ho3 hb3 hv3 hg3; have ho9 : Own w3 wi.heap.size 49 u.cells := (hg3.block _ (by have := ho8.inside; simp; omega) (fun e => HJ.out.2.2.2.2.2.1 e.symm)).trans (ho8.more _); have hT9 : Own w3 w.heap.size 26 t.cells := (hg3.block _ (by have := hT8.inside; simp; omega) (fun e => HJ.out.2.2.2.2.2.2 e.symm)).trans (hT8.more _)))
          all_goals
            have H3 := Lib.hid (And.intro ho3 (And.intro ((Below.alloc hb8 hb8.size _).trans hb3) hT9))
            clear ho3 hb3 hv3 hg3 ho9 ho8 hb8 hrow2 hrow5 hb5 hT5 hT8 hT9 HS2 hvo b2 hof e0 e1 e2 e3 e4 e5
            go_wp2_with fail
            go_roundw
            case rel =>
              refine ⟨j + 1, by go_num, by omega, ?_, H3.out.2.1, H3.out.2.2⟩
              rw [HJ.out.1, HE.out, if_pos rfl, List.flatMap_append, List.length_append]
              exact H3.out.1
            case measure => simp [intOf]; omega
      · have hj2 : j = l.length := by omega
        have q5 : decide ((j : Int) < (l.length : Int)) = false := decide_eq_false (by omega)
        rw [hj2, List.take_length] at hownj
        have hgood : ∀ u ∈ l, chkU u = 0 := chkUs_all.1 (HK.out.trans HKZ.out)
        have hmem : ∀ x ∈ linesAt l t, ∃ u ∈ l, x.u = ⟨u.rA, u.rc, u.row, 0⟩ ∧ x.S = u.d := fun x hx => by
          unfold linesAt at hx
          obtain ⟨u, hu, rfl⟩ := List.mem_map.1 hx
          exact ⟨u, (List.mem_filter.1 hu).1, rfl, rfl⟩
        have hll := linesAt_len l t
        have hcall := Lib.hid (counts_any u7 (linesAt l t).length w.heap.size (linesAt l t) wi _ _ (by rw [linesAt_pL]) (by rw [linesAt_pL]) rfl hownj hbj.size (fun x hx => by
            obtain ⟨u, hu, e, _⟩ := hmem x hx
            rw [e]
            exact ⟨((HL.out.1.each_ u hu).past hbj (Nat.le_refl _)).row⟩) (fun x hx => by
            obtain ⟨u, hu, e, _⟩ := hmem x hx
            rw [e]
            exact ⟨(HL.out.2.1 u hu).rn, (HL.out.2.1 u hu).rs, by show (-9223372036854775808 : Int) ≤ 0 ∧ (0 : Int) ≤ 9223372036854775807; decide⟩) (fun x hx => by
            obtain ⟨u, hu, e, _⟩ := hmem x hx
            rw [e]
            exact (chkK_zero (hgood u hu)).2.1) (fun x hx => by
            obtain ⟨u, hu, _, e⟩ := hmem x hx
            rw [e]
            exact (HL.out.2.1 u hu).dn) (by omega))
        have hal : atL l t = resL cmpRows (atP l t) := by unfold atL; rw [if_pos hO.out]
        have hae : atE l t = resE cmpRows (atP l t) := by unfold atE; rw [if_pos hO.out]
        rw [← hal, ← hae] at hcall
        have HC := Lib.hid hbj
        generalize atL l t = AL at *
        generalize atE l t = AE at *
        clear hownj hgood hmem hll hal hae hbj hvoj hO
        go_wp2_with fail
        refine hcall.out.mono ?_
        rintro _ w9 ⟨A', c', outL, rfl, k1, k2, k3, k4⟩
        have H9 := Lib.hid (And.intro k1 (And.intro k2 (And.intro k3 k4)))
        clear k1 k2 k3 k4 hcall
        go_wp2_with fail
        go_ret2
        exact ⟨A', c', outL, rfl, H9.out.1, H9.out.2.1, H9.out.2.2.1, HC.out.trans H9.out.2.2.2.1, H9.out.2.2.2.2⟩
structure CLs (w : World) (B : Nat) (A : Option Addr) (L : List (Rw Ct)) : Prop where
  head : Lies 1 Rw.cells w B A L
  each_ : ∀ s ∈ L, Cts w B s.A s.l
def chkCs : List Ct → Int
  | [] => 0
  | c :: l => if chkRow c.row = 0 then chkCs l else chkRow c.row
def mergeL (L : List (List Ct)) : List (List Vl × Int) := if chkCs L.flatten = 0 then resL cmpRows (L.flatten.map Ct.p) else []
def mergeE (L : List (List Ct)) : Int := if chkCs L.flatten = 0 then resE cmpRows (L.flatten.map Ct.p) else chkCs L.flatten
def linesC (us : List Ct) : List (Ln Ct) := us.map fun u => ⟨u.n, u⟩
set_option maxRecDepth 100000 in
set_option maxHeartbeats 16000000 in
theorem sameC_any (A A' : Option Addr) (c c' : Nat) (l m : List Ct) (w : World) (hl : Cts w w.heap.size A l) (hm : Cts w w.heap.size A' m) (hol : ∀ u ∈ l, COk u) (hom : ∀ u ∈ m, COk u) (hn : l.length ≤ 1099511627776) (hn' : m.length ≤ 1099511627776) :
    Calls Tryz.prog 18 #[.slice A l.length c, .slice A' m.length c'] w fun x w' => ∃ b : Bool, x = .returned (.bool b) ∧ (b = true ↔ l.map Ct.p = m.map Ct.p) ∧ Below w.heap.size w w' := by
  have HL := Lib.hid (And.intro hl (And.intro hm (And.intro hol hom)))
  clear hl hm hol hom
  by_cases hlen : l.length = m.length
  case neg =>
    have t1 : ((l.length : Int) != (m.length : Int)) = true := by rw [bne_iff_ne]; omega
    have HN := Lib.hid hlen
    clear hlen
    go_enter Tryz.func18, Tryz.ntmps18
    go_wp2_with fail
    go_ret
    exact ⟨false, rfl, by simp only [Bool.false_eq_true, false_iff]; exact fun h => HN.out (by have := congrArg List.length h; simpa using this), Below.refl _ _⟩
  have t1 : ((l.length : Int) != (m.length : Int)) = false := by simp [hlen]
  have HE := Lib.hid hlen
  clear hlen
  go_enter Tryz.func18, Tryz.ntmps18
  go_wp2_with fail
  go_loopw [13] (fun v13 wr => ∃ j : Nat, v13 = .int .i64 (j : Int) ∧ j ≤ l.length ∧ Below w.heap.size w wr ∧ (l.take j).map Ct.p = (m.take j).map Ct.p) (fun v13 _ => l.length - (intOf v13).toNat)
  case atStart => exact ⟨0, rfl, by omega, Below.refl _ _, rfl⟩
  case round =>
    obtain ⟨j, rfl, hj, hbj, heq⟩ := hrel
    obtain ⟨wi, hwi⟩ : ∃ wi, wi = wr := ⟨_, rfl⟩
    subst hwi
    by_cases hjt : j < l.length
    · have hjm : j < m.length := by have := HE.out; omega
      have hx : l[j]? = some l[j] := List.getElem?_eq_getElem hjt
      have hy : m[j]? = some m[j] := List.getElem?_eq_getElem hjm
      have hxm := List.mem_of_getElem? hx
      have hym := List.mem_of_getElem? hy
      generalize l[j] = x at *
      generalize m[j] = y at *
      obtain ⟨b, o, rfl, hB, hxs⟩ := lies_ct HL.out.1.head (by omega)
      obtain ⟨b', o', rfl, hB', hys⟩ := lies_ct HL.out.2.1.head (by omega)
      have hX := fun p : Past wi => ((hxs j x hx).past_ (hbj.trans (p.h.mono hbj.size)) hB).two
      have hY := fun p : Past wi => ((hys j y hy).past_ (hbj.trans (p.h.mono hbj.size)) hB').two
      have hxin := fun p : Past wi => ((HL.out.1.each_ x hxm).past (hbj.trans (p.h.mono hbj.size)) (Nat.le_refl _)).wide (Nat.le_trans hbj.size p.h.size)
      have hyin := fun p : Past wi => ((HL.out.2.1.each_ y hym).past (hbj.trans (p.h.mono hbj.size)) (Nat.le_refl _)).wide (Nat.le_trans hbj.size p.h.size)
      have hxo := HL.out.2.2.1 x hxm
      have hyo := HL.out.2.2.2 y hym
      have u1 := fun p : Past wi => calls_past (vsame_any x.rA y.rA x.rc y.rc x.row y.row p.w (hxin p).row (hyin p).row (maxn hxo.rn) (maxn hyo.rn))
      have hnext := fun h : x.p = y.p => (show (l.take (j + 1)).map Ct.p = (m.take (j + 1)).map Ct.p by rw [List.take_add_one, List.take_add_one, hx, hy, List.map_append, List.map_append, heq]; simp only [Option.toList_some, List.map_cons, List.map_nil]; rw [h])
      have hne := fun h : x.p ≠ y.p => (show ¬ l.map Ct.p = m.map Ct.p from fun e => h (by
        have h1 : (l.map Ct.p)[j]? = some x.p := by rw [List.getElem?_map, hx]; rfl
        have h2 : (m.map Ct.p)[j]? = some y.p := by rw [List.getElem?_map, hy]; rfl
        rw [e, h2] at h1
        exact (Option.some.inj h1).symm))
      have HJ := Lib.hid (And.intro hbj heq)
      have q0 : (0 : Int) ≤ (j : Int) := by omega
      have q1 : (j : Int) < (l.length : Int) := by omega
      have q1' : (j : Int) < (m.length : Int) := by omega
      have q2 : decide ((j : Int) < (l.length : Int)) = true := decide_eq_true q1
      clear hx hy hxm hym hxs hys hbj heq hxin hyin hxo hyo
      by_cases hr : x.row = y.row
      · simp only [decide_eq_true hr] at u1
        by_cases hd : x.n = y.n
        · have t2 : (x.n != y.n) = false := by simp [hd]
          have HEQ := Lib.hid (hnext (by unfold Ct.p; rw [hr, hd]))
          clear hr hd hnext hne
          go_upto_region 6 with fail
          refine wp_region_past wi (by kernel_rfl) (by kernel_rfl) (Below.refl _ _) ?_
          repeat (first | go_big_quiet_step (fail) | quiet_step (fail))
          quiet_step ((go_at_call 26; exact u1 _))
          repeat (first | go_big_quiet_step (fail) | quiet_step (fail))
          refine wpQuiet_nil ?_
          intro wz hw'
          obtain ⟨⟨wy, hbz⟩, hw''⟩ := hw'
          dsimp only at hw''
          subst hw''
          have HZ := Lib.hid (HJ.out.1.trans (hbz.mono HJ.out.1.size))
          clear hbz
          go_wp2_with fail
          go_roundw
          case rel => exact ⟨j + 1, by go_num, by omega, HZ.out, HEQ.out⟩
          case measure => simp [intOf]; omega
        · have t2 : (x.n != y.n) = true := bne_iff_ne.2 hd
          have HNE := Lib.hid (hne fun e => hd (congrArg Prod.snd e))
          clear hr hd hnext hne
          go_upto_region 6 with fail
          refine wp_region_past wi (by kernel_rfl) (by kernel_rfl) (Below.refl _ _) ?_
          repeat (first | go_big_quiet_step (fail) | quiet_step (fail))
          quiet_step ((go_at_call 26; exact u1 _))
          repeat (first | go_big_quiet_step (fail) | quiet_step (fail))
          refine wpQuiet_nil ?_
          intro wz hw'
          obtain ⟨⟨wy, hbz⟩, hw''⟩ := hw'
          dsimp only at hw''
          subst hw''
          have HZ := Lib.hid (HJ.out.1.trans (hbz.mono HJ.out.1.size))
          clear hbz
          go_wp2_with fail
          go_ret
          exact ⟨false, rfl, by simp only [Bool.false_eq_true, false_iff]; exact HNE.out, HZ.out⟩
      · simp only [decide_eq_false hr] at u1
        have HNE := Lib.hid (hne fun e => hr (congrArg Prod.fst e))
        clear hr hnext hne
        go_upto_region 6 with fail
        refine wp_region_past wi (by kernel_rfl) (by kernel_rfl) (Below.refl _ _) ?_
        repeat (first | go_big_quiet_step (fail) | quiet_step (fail))
        quiet_step ((go_at_call 26; exact u1 _))
        repeat (first | go_big_quiet_step (fail) | quiet_step (fail))
        refine wpQuiet_nil ?_
        intro wz hw'
        obtain ⟨⟨wy, hbz⟩, hw''⟩ := hw'
        dsimp only at hw''
        subst hw''
        have HZ := Lib.hid (HJ.out.1.trans (hbz.mono HJ.out.1.size))
        clear hbz
        go_wp2_with fail
        go_ret
        exact ⟨false, rfl, by simp only [Bool.false_eq_true, false_iff]; exact HNE.out, HZ.out⟩
    · have hj2 : j = l.length := by omega
      have q2 : decide ((j : Int) < (l.length : Int)) = false := decide_eq_false (by omega)
      rw [hj2, List.take_length, HE.out, List.take_length] at heq
      have HJ := Lib.hid (And.intro hbj heq)
      clear hbj heq
      go_wp2_with fail
      go_ret
      exact ⟨true, rfl, ⟨fun _ => HJ.out.2, fun _ => rfl⟩, HJ.out.1⟩
set_option maxRecDepth 100000 in
set_option maxHeartbeats 16000000 in
theorem sameU_any (A A' : Option Addr) (c c' : Nat) (l m : List Up) (w : World) (hl : Ups w w.heap.size A l) (hm : Ups w w.heap.size A' m) (hol : ∀ u ∈ l, UOk u) (hom : ∀ u ∈ m, UOk u) (hn : l.length ≤ 1099511627776) (hn' : m.length ≤ 1099511627776) :
    Calls Tryz.prog 11 #[.slice A l.length c, .slice A' m.length c'] w fun x w' => ∃ b : Bool, x = .returned (.bool b) ∧ (b = true ↔ l.map Up.p = m.map Up.p) ∧ Below w.heap.size w w' := by
  have HL := Lib.hid (And.intro hl (And.intro hm (And.intro hol hom)))
  clear hl hm hol hom
  by_cases hlen : l.length = m.length
  case neg =>
    have t1 : ((l.length : Int) != (m.length : Int)) = true := by rw [bne_iff_ne]; omega
    have HN := Lib.hid hlen
    clear hlen
    go_enter Tryz.func11, Tryz.ntmps11
    go_wp2_with fail
    go_ret
    exact ⟨false, rfl, by simp only [Bool.false_eq_true, false_iff]; exact fun h => HN.out (by have := congrArg List.length h; simpa using this), Below.refl _ _⟩
  have t1 : ((l.length : Int) != (m.length : Int)) = false := by simp [hlen]
  have HE := Lib.hid hlen
  clear hlen
  go_enter Tryz.func11, Tryz.ntmps11
  go_wp2_with fail
  go_loopw [13] (fun v13 wr => ∃ j : Nat, v13 = .int .i64 (j : Int) ∧ j ≤ l.length ∧ Below w.heap.size w wr ∧ (l.take j).map Up.p = (m.take j).map Up.p) (fun v13 _ => l.length - (intOf v13).toNat)
  case atStart => exact ⟨0, rfl, by omega, Below.refl _ _, rfl⟩
  case round =>
    obtain ⟨j, rfl, hj, hbj, heq⟩ := hrel
    obtain ⟨wi, hwi⟩ : ∃ wi, wi = wr := ⟨_, rfl⟩
    subst hwi
    by_cases hjt : j < l.length
    · have hjm : j < m.length := by have := HE.out; omega
      have hx : l[j]? = some l[j] := List.getElem?_eq_getElem hjt
      have hy : m[j]? = some m[j] := List.getElem?_eq_getElem hjm
      have hxm := List.mem_of_getElem? hx
      have hym := List.mem_of_getElem? hy
      generalize l[j] = x at *
      generalize m[j] = y at *
      obtain ⟨b, o, rfl, hB, hxs⟩ := lies_up HL.out.1.head (by omega)
      obtain ⟨b', o', rfl, hB', hys⟩ := lies_up HL.out.2.1.head (by omega)
      have hX := fun p : Past wi => ((hxs j x hx).past_ (hbj.trans (p.h.mono hbj.size)) hB).six
      have hY := fun p : Past wi => ((hys j y hy).past_ (hbj.trans (p.h.mono hbj.size)) hB').six
      have hxin := fun p : Past wi => ((HL.out.1.each_ x hxm).past (hbj.trans (p.h.mono hbj.size)) (Nat.le_refl _)).wide (Nat.le_trans hbj.size p.h.size)
      have hyin := fun p : Past wi => ((HL.out.2.1.each_ y hym).past (hbj.trans (p.h.mono hbj.size)) (Nat.le_refl _)).wide (Nat.le_trans hbj.size p.h.size)
      have hxo := HL.out.2.2.1 x hxm
      have hyo := HL.out.2.2.2 y hym
      have u1 := fun p : Past wi => calls_past (vsame_any x.kA y.kA x.kc y.kc x.key y.key p.w (hxin p).key (hyin p).key (maxn hxo.kn) (maxn hyo.kn))
      have u2 := fun p : Past wi => calls_past (vsame_any x.rA y.rA x.rc y.rc x.row y.row p.w (hxin p).row (hyin p).row (maxn hxo.rn) (maxn hyo.rn))
      have hnext := fun h : x.p = y.p => (show (l.take (j + 1)).map Up.p = (m.take (j + 1)).map Up.p by rw [List.take_add_one, List.take_add_one, hx, hy, List.map_append, List.map_append, heq]; simp only [Option.toList_some, List.map_cons, List.map_nil]; rw [h])
      have hne := fun h : x.p ≠ y.p => (show ¬ l.map Up.p = m.map Up.p from fun e => h (by
        have h1 : (l.map Up.p)[j]? = some x.p := by rw [List.getElem?_map, hx]; rfl
        have h2 : (m.map Up.p)[j]? = some y.p := by rw [List.getElem?_map, hy]; rfl
        rw [e, h2] at h1
        exact (Option.some.inj h1).symm))
      have HJ := Lib.hid (And.intro hbj heq)
      have q0 : (0 : Int) ≤ (j : Int) := by omega
      have q1 : (j : Int) < (l.length : Int) := by omega
      have q1' : (j : Int) < (m.length : Int) := by omega
      have q2 : decide ((j : Int) < (l.length : Int)) = true := decide_eq_true q1
      clear hx hy hxm hym hxs hys hbj heq hxin hyin hxo hyo
      by_cases hk : x.key = y.key
      · simp only [decide_eq_true hk] at u1
        by_cases hr : x.row = y.row
        · simp only [decide_eq_true hr] at u2
          have hq : ∀ W, (binOp .neq 26 (.agg #[.int .u64 (x.t.e : Int), .int .u64 (x.t.a : Int), .int .u64 (x.t.b : Int)]) (.agg #[.int .u64 (y.t.e : Int), .int .u64 (y.t.a : Int), .int .u64 (y.t.b : Int)])).run Tryz.prog W = .ok (.bool (!eqT x.t y.t)) W := fun W => neq_time x.t y.t W
          have hgd := fun (x1 y1 : Operand) (xs ys : Array Value) (w : World) => grd_time .neq x1 y1 xs ys w
          by_cases ht : x.t = y.t
          · rw [eqT_iff.2 ht] at hq
            by_cases hd : x.d = y.d
            · have t2 : (x.d != y.d) = false := by simp [hd]
              have HEQ := Lib.hid (hnext (by unfold Up.p Up.k; rw [hk, hr, ht, hd]))
              clear hk hr ht hd hnext hne
              go_upto_region 6 with fail
              refine wp_region_past wi (by kernel_rfl) (by kernel_rfl) (Below.refl _ _) ?_
              repeat (first | go_big_quiet_step (fail) | quiet_step (fail))
              quiet_step ((go_at_call 26; exact u1 _))
              repeat (first | go_big_quiet_step (fail) | quiet_step (fail))
              quiet_step ((go_at_call 26; exact u2 _))
              repeat (first | go_big_quiet_step (fail) | quiet_step (fail))
              refine wpQuiet_nil ?_
              intro wz hw'
              obtain ⟨⟨wy, hbz⟩, hw''⟩ := hw'
              dsimp only at hw''
              subst hw''
              have HZ := Lib.hid (HJ.out.1.trans (hbz.mono HJ.out.1.size))
              clear hbz
              go_wp2_with fail
              go_roundw
              case rel => exact ⟨j + 1, by go_num, by omega, HZ.out, HEQ.out⟩
              case measure => simp [intOf]; omega
            · have t2 : (x.d != y.d) = true := bne_iff_ne.2 hd
              have HNE := Lib.hid (hne fun e => hd (congrArg Prod.snd e))
              clear hk hr ht hd hnext hne
              go_upto_region 6 with fail
              refine wp_region_past wi (by kernel_rfl) (by kernel_rfl) (Below.refl _ _) ?_
              repeat (first | go_big_quiet_step (fail) | quiet_step (fail))
              quiet_step ((go_at_call 26; exact u1 _))
              repeat (first | go_big_quiet_step (fail) | quiet_step (fail))
              quiet_step ((go_at_call 26; exact u2 _))
              repeat (first | go_big_quiet_step (fail) | quiet_step (fail))
              refine wpQuiet_nil ?_
              intro wz hw'
              obtain ⟨⟨wy, hbz⟩, hw''⟩ := hw'
              dsimp only at hw''
              subst hw''
              have HZ := Lib.hid (HJ.out.1.trans (hbz.mono HJ.out.1.size))
              clear hbz
              go_wp2_with fail
              go_ret
              exact ⟨false, rfl, by simp only [Bool.false_eq_true, false_iff]; exact HNE.out, HZ.out⟩
          · rw [show eqT x.t y.t = false from Bool.eq_false_iff.2 fun h => ht (eqT_iff.1 h)] at hq
            have HNE := Lib.hid (hne fun e => ht (congrArg (fun z => z.1.t) e))
            clear hk hr ht hnext hne
            go_upto_region 6 with fail
            refine wp_region_past wi (by kernel_rfl) (by kernel_rfl) (Below.refl _ _) ?_
            repeat (first | go_big_quiet_step (fail) | quiet_step (fail))
            quiet_step ((go_at_call 26; exact u1 _))
            repeat (first | go_big_quiet_step (fail) | quiet_step (fail))
            quiet_step ((go_at_call 26; exact u2 _))
            repeat (first | go_big_quiet_step (fail) | quiet_step (fail))
            refine wpQuiet_nil ?_
            intro wz hw'
            obtain ⟨⟨wy, hbz⟩, hw''⟩ := hw'
            dsimp only at hw''
            subst hw''
            have HZ := Lib.hid (HJ.out.1.trans (hbz.mono HJ.out.1.size))
            clear hbz
            go_wp2_with fail
            go_ret
            exact ⟨false, rfl, by simp only [Bool.false_eq_true, false_iff]; exact HNE.out, HZ.out⟩
        · simp only [decide_eq_false hr] at u2
          have HNE := Lib.hid (hne fun e => hr (congrArg (fun z => z.1.row) e))
          clear hk hr hnext hne
          go_upto_region 6 with fail
          refine wp_region_past wi (by kernel_rfl) (by kernel_rfl) (Below.refl _ _) ?_
          repeat (first | go_big_quiet_step (fail) | quiet_step (fail))
          quiet_step ((go_at_call 26; exact u1 _))
          repeat (first | go_big_quiet_step (fail) | quiet_step (fail))
          quiet_step ((go_at_call 26; exact u2 _))
          repeat (first | go_big_quiet_step (fail) | quiet_step (fail))
          refine wpQuiet_nil ?_
          intro wz hw'
          obtain ⟨⟨wy, hbz⟩, hw''⟩ := hw'
          dsimp only at hw''
          subst hw''
          have HZ := Lib.hid (HJ.out.1.trans (hbz.mono HJ.out.1.size))
          clear hbz
          go_wp2_with fail
          go_ret
          exact ⟨false, rfl, by simp only [Bool.false_eq_true, false_iff]; exact HNE.out, HZ.out⟩
      · simp only [decide_eq_false hk] at u1
        have HNE := Lib.hid (hne fun e => hk (congrArg (fun z => z.1.key) e))
        clear hk hnext hne u2
        go_upto_region 6 with fail
        refine wp_region_past wi (by kernel_rfl) (by kernel_rfl) (Below.refl _ _) ?_
        repeat (first | go_big_quiet_step (fail) | quiet_step (fail))
        quiet_step ((go_at_call 26; exact u1 _))
        repeat (first | go_big_quiet_step (fail) | quiet_step (fail))
        refine wpQuiet_nil ?_
        intro wz hw'
        obtain ⟨⟨wy, hbz⟩, hw''⟩ := hw'
        dsimp only at hw''
        subst hw''
        have HZ := Lib.hid (HJ.out.1.trans (hbz.mono HJ.out.1.size))
        clear hbz
        go_wp2_with fail
        go_ret
        exact ⟨false, rfl, by simp only [Bool.false_eq_true, false_iff]; exact HNE.out, HZ.out⟩
    · have hj2 : j = l.length := by omega
      have q2 : decide ((j : Int) < (l.length : Int)) = false := decide_eq_false (by omega)
      rw [hj2, List.take_length, HE.out, List.take_length] at heq
      have HJ := Lib.hid (And.intro hbj heq)
      clear hbj heq
      go_wp2_with fail
      go_ret
      exact ⟨true, rfl, ⟨fun _ => HJ.out.2, fun _ => rfl⟩, HJ.out.1⟩
def EvenP (l : List Up) : Prop := (∀ u ∈ l, u.d ≠ 0) ∧ Srt Uk.cmp (l.map Up.p) ∧ chkUs l = 0
def Tells (p : Prop) (w : World) (x : Ending) (w' : World) : Prop := ∃ b : Bool, x = .returned (.bool b) ∧ (b = true ↔ p) ∧ Below w.heap.size w w'
theorem srt_more {l : List Up} {j : Nat} {x u : Up} (h : Srt Uk.cmp ((l.take (j + 1)).map Up.p)) (hx : l[j]? = some x) (hu : l[j + 1]? = some u) (hlt : x.k.cmp u.k < 0) : Srt Uk.cmp ((l.take (j + 1 + 1)).map Up.p) := by
  have e1 : l.take (j + 1) = l.take j ++ [x] := by rw [List.take_add_one, hx]; rfl
  have e2 : l.take (j + 1 + 1) = l.take (j + 1) ++ [u] := by rw [List.take_add_one, hu]; rfl
  rw [e2, List.map_append]
  rw [e1, List.map_append] at h ⊢
  unfold Srt at *
  rw [List.pairwise_append]
  refine ⟨h, by simp, fun a ha b hb => ?_⟩
  obtain rfl : b = u.p := by simpa using hb
  rcases List.mem_append.1 ha with ha | ha
  · rw [List.pairwise_append] at h
    exact uk_lin.lt_trans (h.2.2 a ha x.p (by simp)) hlt
  · obtain rfl : a = x.p := by simpa using ha
    exact hlt
theorem srt_not {l : List Up} {j : Nat} {x u : Up} (hx : l[j]? = some x) (hu : l[j + 1]? = some u) (hge : ¬ x.k.cmp u.k < 0) : ¬ Srt Uk.cmp (l.map Up.p) := fun h => by
  unfold Srt at h
  obtain ⟨h1, rfl⟩ := List.getElem?_eq_some_iff.1 hx
  obtain ⟨h2, rfl⟩ := List.getElem?_eq_some_iff.1 hu
  have := List.pairwise_iff_getElem.1 h j (j + 1) (by simpa using h1) (by simpa using h2) (by omega)
  simp only [List.getElem_map] at this
  exact hge this
set_option maxRecDepth 100000 in
set_option maxHeartbeats 16000000 in
theorem even_any (A : Option Addr) (c : Nat) (l : List Up) (w : World) (hl : Ups w w.heap.size A l) (hok : ∀ u ∈ l, UOk u) (hn : l.length ≤ 1099511627776) :
    Calls Tryz.prog 123 #[.slice A l.length c] w (Tells (EvenP l) w) := by
  have HL := Lib.hid (And.intro hl hok)
  clear hl hok
  go_enter Tryz.func123, Tryz.ntmps123
  go_wp2_with fail
  go_loopw [7] (fun v7 wr => ∃ j : Nat, v7 = .int .i64 (j : Int) ∧ j ≤ l.length ∧ Below w.heap.size w wr ∧ (∀ u ∈ l.take j, u.d ≠ 0) ∧ Srt Uk.cmp ((l.take j).map Up.p)) (fun v7 _ => l.length - (intOf v7).toNat)
  case atStart => exact ⟨0, rfl, by omega, Below.refl _ _, fun u hu => (by cases hu), List.Pairwise.nil⟩
  case round =>
    obtain ⟨j, rfl, hj, hbj, hnz, hsrt⟩ := hrel
    obtain ⟨wi, hwi⟩ : ∃ wi, wi = wr := ⟨_, rfl⟩
    subst hwi
    by_cases hjt : j < l.length
    · have hy : l[j]? = some l[j] := List.getElem?_eq_getElem hjt
      have hym := List.mem_of_getElem? hy
      generalize l[j] = u at *
      obtain ⟨b, o, rfl, hB, hys⟩ := lies_up HL.out.1.head (by omega)
      obtain ⟨e0, e1, e2, e3, e4, e5⟩ := ((hys j u hy).past_ hbj hB).six
      obtain ⟨V, hV, hvb, hvs, hvo⟩ := upbox wi u
      have hbV := hbj.trans (hvb.mono hbj.size)
      have hX := fun p : Past V => own6 (hvo.past p.h hvo.inside)
      have hnz2 : u.d ≠ 0 → ∀ x ∈ l.take (j + 1), x.d ≠ 0 := fun h x hx => by
        rw [List.take_add_one, hy] at hx
        rcases List.mem_append.1 hx with hx | hx
        · exact hnz x hx
        · obtain rfl : x = u := by simpa using hx
          exact h
      have HJ := Lib.hid (And.intro hbV (And.intro hy (And.intro hym (And.intro hnz2 hsrt))))
      have q0 : (0 : Int) ≤ (j : Int) := by omega
      have q1 : (j : Int) < (l.length : Int) := by omega
      have q2 : decide ((j : Int) < (l.length : Int)) = true := decide_eq_true q1
      by_cases hd : u.d = 0
      · have t1 : (u.d == 0) = true := beq_iff_eq.2 hd
        have HN := Lib.hid (fun h : EvenP l => h.1 u hym hd)
        clear hy hym hbj hnz hsrt hvb hvs hbV hnz2 hvo hd
        go_upto_region 4 with fail
        rw [← hV]
        clear hV e0 e1 e2 e3 e4 e5
        refine wp_region_past V (by kernel_rfl) (by kernel_rfl) (Below.refl _ _) ?_
        repeat (first | go_big_quiet_step (fail) | quiet_step (fail))
        refine wpQuiet_nil ?_
        intro wz hw'
        obtain ⟨⟨wy, hbz⟩, hw''⟩ := hw'
        dsimp only at hw''
        subst hw''
        have HZ := Lib.hid (HJ.out.1.trans (hbz.mono HJ.out.1.size))
        clear hbz
        go_wp2_with fail
        go_ret
        exact ⟨false, rfl, by simp only [Bool.false_eq_true, false_iff]; exact HN.out, HZ.out⟩
      have t1 : (u.d == 0) = false := beq_eq_false_iff_ne.2 hd
      have HD := Lib.hid hd
      cases j with
      | zero =>
        simp only [Nat.zero_mul, Nat.add_zero] at e0 e1 e2 e3 e4 e5
        have q3 : decide ((0 : Int) < ((0 : Nat) : Int)) = false := by decide
        clear hy hym hbj hnz hsrt hvb hvs hbV hnz2 hvo hd
        go_upto_region 4 with fail
        rw [← hV]
        clear hV e0 e1 e2 e3 e4 e5
        refine wp_region_past V (by kernel_rfl) (by kernel_rfl) (Below.refl _ _) ?_
        repeat (first | go_big_quiet_step (fail) | quiet_step (fail))
        refine wpQuiet_nil ?_
        intro wz hw'
        obtain ⟨⟨wy, hbz⟩, hw''⟩ := hw'
        dsimp only at hw''
        subst hw''
        have HZ := Lib.hid (HJ.out.1.trans (hbz.mono HJ.out.1.size))
        clear hbz
        go_wp2_with fail
        go_roundw
        case rel =>
          refine ⟨1, by go_num, by omega, HZ.out, HJ.out.2.2.2.1 HD.out, ?_⟩
          have : l.take (0 + 1) = [u] := by rw [List.take_add_one, HJ.out.2.1]; rfl
          rw [this]
          unfold Srt
          simp
        case measure => simp [intOf]; omega
      | succ i =>
        have hx : l[i]? = some (l[i]'(by omega)) := List.getElem?_eq_getElem _
        have hxm := List.mem_of_getElem? hx
        generalize (l[i]'(by omega)) = x at *
        have hxs := fun p : Past V => ((hys i x hx).past_ (hbV.trans (p.h.mono hbV.size)) hB).six
        have hin := fun (z : Up) (hz : z ∈ l) (p : Past V) => ((HL.out.1.each_ z hz).past (hbV.trans (p.h.mono hbV.size)) (Nat.le_refl _)).wide (Nat.le_trans hbV.size p.h.size)
        have u1 : ∀ p : Past V, Calls Tryz.prog 34 #[.agg #[.slice x.kA x.key.length x.kc, .slice x.rA x.row.length x.rc, .int .u64 (x.t.e : Int), .int .u64 (x.t.a : Int), .int .u64 (x.t.b : Int), .int .i64 x.d], .agg #[.slice u.kA u.key.length u.kc, .slice u.rA u.row.length u.rc, .int .u64 (u.t.e : Int), .int .u64 (u.t.a : Int), .int .u64 (u.t.b : Int), .int .i64 u.d]] p.w fun e w'' => e = .returned (.int .i64 (x.k.cmp u.k)) ∧ ∃ q : Past V, w'' = q.w := fun p =>
          calls_past ((dcompare_gr x u p.w (hin x hxm p) (hin u hym p) (HL.out.2 x hxm) (HL.out.2 u hym)).mono fun e w' h => ⟨h.1, h.2.below⟩)
        obtain ⟨r, hr⟩ : ∃ r, x.k.cmp u.k = r := ⟨_, rfl⟩
        rw [hr] at u1
        have HX := Lib.hid (And.intro hx hr)
        have q3 : (0 : Int) ≤ (i : Int) := by omega
        have q4 : (i : Int) < (l.length : Int) := by omega
        have q5 : decide (((i + 1 : Nat) : Int) > 0) = true := decide_eq_true (by omega)
        have q5' : decide ((0 : Int) < (i : Int) + 1) = true := decide_eq_true (by omega)
        by_cases hr0 : r < 0
        · have t2 : decide (r ≥ 0) = false := decide_eq_false (by omega)
          have t2' : decide (0 ≤ r) = false := decide_eq_false (by omega)
          have HR0 := Lib.hid hr0
          clear hy hym hbj hnz hsrt hvb hvs hbV hnz2 hvo hd hx hxm hr hin hr0
          go_upto_region 4 with fail
          rw [← hV]
          clear hV e0 e1 e2 e3 e4 e5
          refine wp_region_past V (by kernel_rfl) (by kernel_rfl) (Below.refl _ _) ?_
          repeat (first | go_big_quiet_step (fail) | quiet_step (fail))
          quiet_step ((go_at_call 34; exact u1 _))
          repeat (first | go_big_quiet_step (fail) | quiet_step (fail))
          refine wpQuiet_nil ?_
          intro wz hw'
          obtain ⟨⟨wy, hbz⟩, hw''⟩ := hw'
          dsimp only at hw''
          subst hw''
          have HZ := Lib.hid (HJ.out.1.trans (hbz.mono HJ.out.1.size))
          clear hbz
          go_wp2_with fail
          go_roundw
          case rel => exact ⟨i + 1 + 1, by go_num, by omega, HZ.out, HJ.out.2.2.2.1 HD.out, srt_more HJ.out.2.2.2.2 HX.out.1 HJ.out.2.1 (by rw [HX.out.2]; exact HR0.out)⟩
          case measure => simp [intOf]; omega
        · have t2 : decide (r ≥ 0) = true := decide_eq_true (by omega)
          have t2' : decide (0 ≤ r) = true := decide_eq_true (by omega)
          have HR0 := Lib.hid hr0
          clear hy hym hbj hnz hsrt hvb hvs hbV hnz2 hvo hd hx hxm hr hin hr0
          go_upto_region 4 with fail
          rw [← hV]
          clear hV e0 e1 e2 e3 e4 e5
          refine wp_region_past V (by kernel_rfl) (by kernel_rfl) (Below.refl _ _) ?_
          repeat (first | go_big_quiet_step (fail) | quiet_step (fail))
          quiet_step ((go_at_call 34; exact u1 _))
          repeat (first | go_big_quiet_step (fail) | quiet_step (fail))
          refine wpQuiet_nil ?_
          intro wz hw'
          obtain ⟨⟨wy, hbz⟩, hw''⟩ := hw'
          dsimp only at hw''
          subst hw''
          have HZ := Lib.hid (HJ.out.1.trans (hbz.mono HJ.out.1.size))
          clear hbz
          go_wp2_with fail
          go_ret
          exact ⟨false, rfl, by simp only [Bool.false_eq_true, false_iff]; exact fun h => srt_not HX.out.1 HJ.out.2.1 (by rw [HX.out.2]; have := HR0.out; omega) h.2.1, HZ.out⟩
    · have hj2 : j = l.length := by omega
      have q2 : decide ((j : Int) < (l.length : Int)) = false := decide_eq_false (by omega)
      rw [hj2, List.take_length] at hnz hsrt
      have hcall := Lib.hid (dcheck_any A c l wi ((HL.out.1.past hbj (Nat.le_refl _)).wide hbj.size) (by omega) HL.out.2)
      obtain ⟨K, hK⟩ : ∃ K, chkUs l = K := ⟨_, rfl⟩
      rw [hK] at hcall
      have HJ := Lib.hid (And.intro hbj (And.intro hnz (And.intro hsrt hK)))
      clear hbj hnz hsrt hK
      go_wp2_with fail
      refine hcall.out.mono ?_
      rintro _ w9 ⟨rfl, b9⟩
      have H9 := Lib.hid (HJ.out.1.trans (b9.mono HJ.out.1.size))
      clear b9 hcall
      go_wp2_with fail
      go_ret
      exact ⟨K == 0, rfl, ⟨fun h => ⟨HJ.out.2.1, HJ.out.2.2.1, HJ.out.2.2.2.trans (beq_iff_eq.1 h)⟩, fun h => beq_iff_eq.2 (HJ.out.2.2.2.symm.trans h.2.2)⟩, H9.out⟩
def vnum (n : Int) : Vl := ⟨false, n, ⟨#[]⟩⟩
theorem vals_num (w : World) (n : Int) : Vals (w.alloc (.cells #[.bool false, .int .i64 n, .string ⟨#[]⟩] 122)) (w.alloc (.cells #[.bool false, .int .i64 n, .string ⟨#[]⟩] 122)).heap.size (some ⟨w.heap.size, 0, none⟩) [vnum n] := fun _ => by
  have ho := Own.made w 122 [.bool false, .int .i64 n, .string ⟨#[]⟩]
  refine ⟨w.heap.size, 0, rfl, by simp, fun i x hx => ?_⟩
  match i, hx with
  | 0, hx =>
    obtain rfl : vnum n = x := by simpa using hx
    exact ⟨ho.at_ 0, ho.at_ 1, ho.at_ 2⟩
def lu (G : Nat) (n d : Int) (e : Nat) : Up := ⟨none, 0, [], some ⟨G, 0, none⟩, 1, [vnum n], ⟨e, 0, 0⟩, d⟩
theorem ups_own {w : World} {G : Nat} {t : TypeId} {l : List Up} (h : Own w G t (l.flatMap Up.cells)) (hin : ∀ u ∈ l, UIn w w.heap.size u) : Ups w w.heap.size (some ⟨G, 0, none⟩) l :=
  ⟨fun _ => ⟨G, 0, rfl, h.inside, fun i x hi j u hj => by rw [show 0 + i * 6 + j = i * 6 + j by omega, h.at_]; exact flat_of (size := 6) (cells := Up.cells) (fun _ => rfl) l i j x u hi hj⟩, hin⟩
theorem rw_own {α : Type} {w : World} {G : Nat} {t : TypeId} {l : List (Rw α)} (h : Own w G t (l.flatMap Rw.cells)) : Lies 1 Rw.cells w w.heap.size (some ⟨G, 0, none⟩) l :=
  fun _ => ⟨G, 0, rfl, h.inside, fun i x hi j u hj => by rw [show 0 + i * 1 + j = i * 1 + j by omega, h.at_]; exact flat_of (size := 1) (cells := Rw.cells) (fun _ => rfl) l i j x u hi hj⟩
theorem boxd (w : World) (l : List Value) (t : TypeId) : ∃ W, W = w.alloc (.cells l.toArray t) ∧ W.heap.size = w.heap.size + 1 ∧ Below w.heap.size w W ∧ Own W w.heap.size t l :=
  ⟨_, rfl, by simp, (Below.refl _ _).alloc (Nat.le_refl _) _, Own.made w t l⟩
def Up.less (u : Up) : Up := { u with d := -u.d }
def bothU (l : List Up) : List Up := l.flatMap fun u => if -9223372036854775807 < u.d then [u, u.less] else []
theorem one_list (w : World) (A : Option Addr) (c : Nat) (l : List Up) (h : Ups w w.heap.size A l) : ∃ V, V = w.alloc (.cells #[.slice A l.length c] 22) ∧ Below w.heap.size w V ∧ ULs V V.heap.size (some ⟨w.heap.size, 0, none⟩) [⟨A, c, l⟩] := by
  obtain ⟨W, e1, s1, b1, o1⟩ := boxd w [.slice A l.length c] 22
  refine ⟨W, e1, b1, rw_own (t := 22) o1, fun s hs => ?_⟩
  obtain rfl : s = ⟨A, c, l⟩ := by simpa using hs
  exact h.keep b1
theorem two_lists (w : World) (A A' : Option Addr) (c c' : Nat) (l m : List Up) (h : Ups w w.heap.size A l) (h' : Ups w w.heap.size A' m) : ∃ V, V = w.alloc (.cells #[.slice A l.length c, .slice A' m.length c'] 22) ∧ Below w.heap.size w V ∧ ULs V V.heap.size (some ⟨w.heap.size, 0, none⟩) [⟨A, c, l⟩, ⟨A', c', m⟩] := by
  obtain ⟨W, e1, s1, b1, o1⟩ := boxd w [.slice A l.length c, .slice A' m.length c'] 22
  refine ⟨W, e1, b1, rw_own (t := 22) o1, fun s hs => ?_⟩
  rcases List.mem_cons.1 hs with rfl | hs
  · exact h.keep b1
  · obtain rfl : s = ⟨A', c', m⟩ := by simpa using hs
    exact h'.keep b1
section
variable {K : Type} {cmp : K → K → Int}
theorem ins_len (x : K × Int) : ∀ l : List (K × Int), (ins cmp x l).length ≤ l.length + 1
  | [] => by simp [ins]
  | y :: t => by
    unfold ins
    have := ins_len x t
    repeat' split
    all_goals simp only [List.length_cons] at *
    all_goals omega
theorem asmF_len : ∀ (l a : List (K × Int)), (asmF cmp a l).length ≤ a.length + l.length
  | [], a => by simp [asmF]
  | x :: l, a => by
    have h1 := asmF_len l (ins cmp x a)
    have h2 := ins_len (cmp := cmp) x a
    show (asmF cmp (ins cmp x a) l).length ≤ _
    rw [List.length_cons]
    omega
theorem nz_len (l : List (K × Int)) : (nz cmp l).length ≤ l.length := by
  unfold nz asm
  have h1 := List.length_filter_le (fun x : K × Int => x.2 != 0) (asmF cmp [] l)
  have h2 := asmF_len (cmp := cmp) l []
  simp only [List.length_nil] at h2
  omega
theorem resL_len (l : List (K × Int)) : (resL cmp l).length ≤ l.length := by
  unfold resL
  split
  · exact nz_len l
  · simp
theorem resE_zero {l : List (K × Int)} (h : resE cmp l = 0) : resL cmp l = nz cmp l ∧ (asm cmp l).all (fun x => fits x.2) = true := by
  unfold resE at h
  unfold resL
  split at h
  · rename_i h1; exact ⟨if_pos h1, h1⟩
  · omega
end
theorem consL_len (L : List (List Up)) : (consL L).length ≤ L.flatten.length := by
  unfold consL
  split
  · have := resL_len (cmp := Uk.cmp) (L.flatten.map Up.p); rwa [List.length_map] at this
  · simp
theorem chk_all {L : List (List Up)} : chkLs L = 0 ↔ ∀ u ∈ L.flatten, chkU u = 0 := by
  rw [chkLs_all]
  constructor
  · intro h u hu
    obtain ⟨l, hl, hul⟩ := List.mem_flatten.1 hu
    exact chkUs_all.1 (h l hl) u hul
  · intro h l hl
    exact chkUs_all.2 fun u hu => h u (List.mem_flatten.2 ⟨l, hl, hu⟩)
theorem keys_right {l : List Up} (h : ∀ u ∈ l, chkU u = 0) : ∀ x ∈ l.map Up.p, UkR x.1 := fun x hx => by
  obtain ⟨u, hu, rfl⟩ := List.mem_map.1 hx
  exact h u hu
theorem cons_chk {L : List (List Up)} (h : consE L = 0) : chkLs L = 0 ∧ resE Uk.cmp (L.flatten.map Up.p) = 0 ∧ consL L = resL Uk.cmp (L.flatten.map Up.p) := by
  unfold consE at h
  split at h
  · rename_i h1; exact ⟨h1, h, by unfold consL; rw [if_pos h1]⟩
  · rename_i h1; exact absurd h h1
theorem cons_even {L : List (List Up)} {x : List Up} (h : consE L = 0) (hx : x.map Up.p = consL L) : EvenP x := by
  obtain ⟨h1, h2, h3⟩ := cons_chk h
  obtain ⟨h4, _⟩ := resE_zero h2
  rw [h3, h4] at hx
  refine ⟨fun u hu h0 => ?_, by rw [hx]; exact nz_srt uk_lin _, chkUs_all.2 fun u hu => ?_⟩
  · have : u.p ∈ nz Uk.cmp (L.flatten.map Up.p) := by rw [← hx]; exact List.mem_map.2 ⟨u, hu, rfl⟩
    exact ((nz_mem uk_lin (keys_right (chk_all.1 h1)) _).1 this).2.2 h0
  · have : u.p ∈ nz Uk.cmp (L.flatten.map Up.p) := by rw [← hx]; exact List.mem_map.2 ⟨u, hu, rfl⟩
    exact nz_right (R := UkR) (keys_right (chk_all.1 h1)) _ this
def upsT (l : List Up) (k : Nat) : List Up := (l.drop k).reverse
theorem up_made (w : World) (u : Up) : Lies 6 Up.cells (w.alloc (.cells #[.slice u.kA u.key.length u.kc, .slice u.rA u.row.length u.rc, .int .u64 (u.t.e : Int), .int .u64 (u.t.a : Int), .int .u64 (u.t.b : Int), .int .i64 u.d] 49)) (w.heap.size + 1) (some ⟨w.heap.size, 0, none⟩) [u] := fun _ =>
  ⟨w.heap.size, 0, rfl, Nat.lt_succ_self _, fun i x hi j y hj => by
    rw [show 0 + i * 6 + j = i * 6 + j by omega]
    exact ((Own.made w 49 ([u].flatMap Up.cells)).at_ _).trans (flat_of (size := 6) (cells := Up.cells) (fun _ => rfl) [u] i j x y hi hj)⟩
section
variable {K : Type} {cmp : K → K → Int} {R : K → Prop}
def psum (p : K → Bool) : List (K × Int) → Int
  | [] => 0
  | x :: l => (if p x.1 = true then x.2 else 0) + psum p l
theorem ins_right {x : K × Int} {l : List (K × Int)} (hx : R x.1) (hl : ∀ y ∈ l, R y.1) : ∀ y ∈ ins cmp x l, R y.1 := fun y hy => by
  rcases ins_keys x l y hy with e | ⟨z, hz, e⟩
  · rw [e]; exact hx
  · rw [← e]; exact hl z hz
theorem psum_ins (L : Lin cmp R) (p : K → Bool) (x : K × Int) (hx : R x.1) : ∀ l : List (K × Int), (∀ y ∈ l, R y.1) → psum p (ins cmp x l) = psum p l + if p x.1 = true then x.2 else 0
  | [], _ => by simp [ins, psum]
  | y :: t, h => by
    have ih := psum_ins L p x hx t fun z hz => h z (by simp [hz])
    unfold ins
    by_cases h0 : cmp y.1 x.1 = 0
    · have e : y.1 = x.1 := (L.eq y.1 x.1 (h y (by simp)) hx).1 h0
      rw [if_pos h0]
      simp only [psum, e]
      split <;> omega
    · rw [if_neg h0]
      split
      · simp only [psum, ih]; omega
      · simp only [psum]; omega
theorem psum_asmF (L : Lin cmp R) (p : K → Bool) : ∀ l a : List (K × Int), (∀ y ∈ l, R y.1) → (∀ y ∈ a, R y.1) → psum p (asmF cmp a l) = psum p a + psum p l
  | [], a, _, _ => by simp [asmF, psum]
  | x :: l, a, h, ha => by
    have hx := h x (by simp)
    have ih := psum_asmF L p l (ins cmp x a) (fun y hy => h y (by simp [hy])) (ins_right hx ha)
    show psum p (asmF cmp (ins cmp x a) l) = _
    rw [ih, psum_ins L p x hx a ha]
    simp only [psum]
    omega
theorem psum_nz0 (p : K → Bool) : ∀ l : List (K × Int), psum p (l.filter fun x => x.2 != 0) = psum p l
  | [] => rfl
  | x :: l => by
    have ih := psum_nz0 p l
    rw [List.filter_cons]
    split
    · simp only [psum, ih]
    · rename_i h
      have h0 : x.2 = 0 := by simpa using h
      simp only [psum, ih, h0]
      split <;> omega
theorem psum_nz (L : Lin cmp R) (p : K → Bool) {l : List (K × Int)} (h : ∀ y ∈ l, R y.1) : psum p (nz cmp l) = psum p l := by
  unfold nz asm
  rw [psum_nz0, psum_asmF L p l [] h fun y hy => (by cases hy)]
  simp [psum]
end
theorem at_sum (t : Tm) (r : List Vl) : ∀ l : List Up, sumOf cmpRows (atP l t) r = psum (fun k : Uk => k.t.le t && decide (cmpRows k.row r = 0)) (l.map Up.p)
  | [] => rfl
  | u :: l => by
    have ih := at_sum t r l
    have e : atP (u :: l) t = if u.t.le t = true then (u.row, u.d) :: atP l t else atP l t := by
      unfold atP
      rw [List.filter_cons]
      split <;> simp
    rw [e, List.map_cons]
    simp only [psum]
    rw [show u.p = (u.k, u.d) from rfl, ← ih]
    simp only [show u.k.t = u.t from rfl, show u.k.row = u.row from rfl]
    cases hle : u.t.le t
    · simp
    · by_cases h0 : cmpRows u.row r = 0
      · simp [sumOf, h0]
      · simp [sumOf, h0]
theorem at_right {l : List Up} {t : Tm} (h : chkUs l = 0) : ∀ x ∈ atP l t, RowR x.1 := fun x hx => by
  obtain ⟨u, hu, rfl⟩ := List.mem_map.1 hx
  exact (chkK_zero (chkUs_all.1 h u (List.mem_filter.1 hu).1)).2.1
theorem at_zero {l : List Up} {t : Tm} (h : atE l t = 0) : chkUs l = 0 ∧ chk [t] = 0 ∧ resE cmpRows (atP l t) = 0 ∧ atL l t = nz cmpRows (atP l t) := by
  unfold atE at h
  split at h
  · rename_i h1
    have h2 : chkUs l = 0 ∧ chk [t] = 0 := by unfold chkAt orI at h1; split at h1 <;> simp_all
    exact ⟨h2.1, h2.2, h, by unfold atL; rw [if_pos h1]; exact (resE_zero h).1⟩
  · rename_i h1; exact absurd h h1
def betw (l : List Up) (a : Tm) : List Up := l.filter fun u => !u.t.le a
end Go.Proofs.YtjffohpdjicfpaaGreat
