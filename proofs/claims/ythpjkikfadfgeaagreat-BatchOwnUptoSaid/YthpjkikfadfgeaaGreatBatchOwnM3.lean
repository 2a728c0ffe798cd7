/- Part 3 of the texts on which BatchOwn rests: facts and contracts. -/
import Derived.Test.YthpjkikfadfgeaaGreatBatchOwnM2
import Derived.Test.YthpjkikfadfgeaaGreatProg
import Derived.Laws.StructEq
import Derived.WalkSpells
import Derived.BigQuiet
namespace Go.Proofs.YthpjkikfadfgeaaGreat
open Go Go.RowKit Go.Sort

structure Ct where
  rA : Option Addr
  rc : Nat
  row : List Vl
  n : Int
instance : Inhabited Ct := ⟨⟨none, 0, [], 0⟩⟩
namespace Ct
def cells (u : Ct) : List Value := [.slice u.rA u.row.length u.rc, .int .i64 u.n]
def val (u : Ct) : Value := .agg #[.slice u.rA u.row.length u.rc, .int .i64 u.n]
def k (u : Ct) : List Vl := u.row
def p (u : Ct) : List Vl × Int := (u.row, u.n)
end Ct
def RowR (r : List Vl) : Prop := chkRow r = 0
structure CIn (w : World) (B : Nat) (u : Ct) : Prop where
  row : Vals w B u.rA u.row
theorem CIn.past {w w' : World} {B B' : Nat} {u : Ct} (h : CIn w B u) (hb : RowKit.Below B' w w') (hB : B ≤ B') : CIn w' B u := ⟨h.row.past hb hB⟩
theorem CIn.wide {w : World} {B B' : Nat} {u : Ct} (h : CIn w B u) (hB : B ≤ B') : CIn w B' u := ⟨h.row.wide hB⟩
theorem CIn.keep {w w' : World} {u : Ct} (h : CIn w w.heap.size u) (hb : RowKit.Below w.heap.size w w') : CIn w' w'.heap.size u := (h.past hb (Nat.le_refl _)).wide hb.size
structure COk (u : Ct) : Prop where
  rn : u.row.length ≤ 140737488351232
  rs : ∀ v ∈ u.row, VOk v
  dn : -9223372036854775808 ≤ u.n ∧ u.n ≤ 9223372036854775807
structure Cts (w : World) (B : Nat) (A : Option Addr) (l : List Ct) : Prop where
  head : Lies 2 Ct.cells w B A l
  each_ : ∀ u ∈ l, CIn w B u
theorem Cts.past {w w' : World} {B B' : Nat} {A : Option Addr} {l : List Ct} (h : Cts w B A l) (hb : RowKit.Below B' w w') (hB : B ≤ B') : Cts w' B A l := ⟨h.head.past hb hB, fun u hu => (h.each_ u hu).past hb hB⟩
theorem Cts.wide {w : World} {B B' : Nat} {A : Option Addr} {l : List Ct} (h : Cts w B A l) (hB : B ≤ B') : Cts w B' A l := ⟨h.head.wide hB, fun u hu => (h.each_ u hu).wide hB⟩
theorem Cts.keep {w w' : World} {A : Option Addr} {l : List Ct} (h : Cts w w.heap.size A l) (hb : RowKit.Below w.heap.size w w') : Cts w' w'.heap.size A l := (h.past hb (Nat.le_refl _)).wide hb.size
def CAt (w : World) (b o : Nat) (u : Ct) : Prop := ∀ (j : Nat) (v : Value), u.cells[j]? = some v → w.cell? ⟨b, o + j, none⟩ = some v
theorem CAt.two {w : World} {b o : Nat} {u : Ct} (h : CAt w b o u) : w.cell? ⟨b, o, none⟩ = some (.slice u.rA u.row.length u.rc) ∧ w.cell? ⟨b, o + 1, none⟩ = some (.int .i64 u.n) := ⟨h 0 _ rfl, h 1 _ rfl⟩
theorem CAt.past_ {w w' : World} {B b o : Nat} {u : Ct} (h : CAt w b o u) (hb : RowKit.Below B w w') (hB : b < B) : CAt w' b o u := fun j v hj => (hb.cell (p := ⟨b, o + j, none⟩) hB).trans (h j v hj)
theorem own2 {w : World} {P : Nat} {t : TypeId} {a0 a1 : Value} (h : Own w P t [a0, a1]) : w.cell? ⟨P, 0, none⟩ = some a0 ∧ w.cell? ⟨P, 1, none⟩ = some a1 := ⟨h.at_ 0, h.at_ 1⟩
def KeptC (u : Ct) (n : Int) (w : World) (x : Ending) (w' : World) : Prop :=
  ∃ u' : Ct, x = .returned u'.val ∧ u'.row = u.row ∧ u'.n = n ∧ CIn w' w'.heap.size u' ∧ (∀ b o, u'.rA = some ⟨b, o, none⟩ → w.heap.size ≤ b ∧ b < w'.heap.size) ∧ RowKit.Below w.heap.size w w'
end Go.Proofs.YthpjkikfadfgeaaGreat
namespace Go.Proofs.YthpjkikfadfgeaaGreat
open Go Go.RowKit Go.Sort Go.Lib Go.Shelf

end Go.Proofs.YthpjkikfadfgeaaGreat
namespace Go.Proofs.YthpjkikfadfgeaaGreat
open Go Go.RowKit

def FarC (B : Nat) (v : Value) (w : World) (u : Ct) : Prop := ∀ b o, u.rA = some ⟨b, o, none⟩ → b < w.heap.size ∧ v.ownBlock ≠ some b ∧ B ≤ b
theorem FarC.next {B : Nat} {v : Value} {w w' : World} {u : Ct} (h : FarC B v w u) (hs : w.heap.size ≤ w'.heap.size) : FarC B v w' u := fun b o hb => ⟨Nat.lt_of_lt_of_le (h b o hb).1 hs, (h b o hb).2⟩
def LoC (B : Nat) (A : Option Addr) (l : List Ct) : Prop := (∀ b o, A = some ⟨b, o, none⟩ → B ≤ b) ∧ ∀ u ∈ l, ∀ b o, u.rA = some ⟨b, o, none⟩ → B ≤ b
def TotCs (l : List (List Vl × Int)) (base : Nat) (w : World) (x : Ending) (w' : World) : Prop :=
  ∃ A c, ∃ outL : List Ct, x = .returned (.tuple #[.slice A outL.length c, .int .i64 (resE cmpRows l)]) ∧ outL.map Ct.p = resL cmpRows l ∧ Cts w' w'.heap.size A outL ∧ (∀ u ∈ outL, COk u) ∧ Below base w w' ∧ LoC base A outL
end Go.Proofs.YthpjkikfadfgeaaGreat
namespace Go.Proofs.YthpjkikfadfgeaaGreat
open Go Go.RowKit

structure Rw (α : Type) where
  A : Option Addr
  c : Nat
  l : List α
instance {α : Type} : Inhabited (Rw α) := ⟨⟨none, 0, []⟩⟩
def Rw.cells {α : Type} (s : Rw α) : List Value := [.slice s.A s.l.length s.c]
def flatR {α : Type} (L : List (Rw α)) : List α := L.flatMap Rw.l
structure ULs (w : World) (B : Nat) (A : Option Addr) (L : List (Rw Up)) : Prop where
  head : Lies 1 Rw.cells w B A L
  each_ : ∀ s ∈ L, Ups w B s.A s.l
theorem ULs.past {w w' : World} {B B' : Nat} {A : Option Addr} {L : List (Rw Up)} (h : ULs w B A L) (hb : Below B' w w') (hB : B ≤ B') : ULs w' B A L := ⟨h.head.past hb hB, fun s hs => (h.each_ s hs).past hb hB⟩
theorem ULs.wide {w : World} {B B' : Nat} {A : Option Addr} {L : List (Rw Up)} (h : ULs w B A L) (hB : B ≤ B') : ULs w B' A L := ⟨h.head.wide hB, fun s hs => (h.each_ s hs).wide hB⟩
theorem ULs.keep {w w' : World} {A : Option Addr} {L : List (Rw Up)} (h : ULs w w.heap.size A L) (hb : Below w.heap.size w w') : ULs w' w'.heap.size A L := (h.past hb (Nat.le_refl _)).wide hb.size
theorem ULs.at_ {w : World} {B : Nat} {A : Option Addr} {L : List (Rw Up)} (h : ULs w B A L) {k : Nat} {s : Rw Up} (hx : L[k]? = some s) :
    ∃ b o, A = some ⟨b, o, none⟩ ∧ b < B ∧ w.cell? ⟨b, o + k, none⟩ = some (.slice s.A s.l.length s.c) ∧ Ups w B s.A s.l := by
  have hk := (List.getElem?_eq_some_iff.1 hx).1
  obtain ⟨b, o, e, hb, hc⟩ := h.head (by omega)
  refine ⟨b, o, e, hb, ?_, h.each_ s (List.mem_of_getElem? hx)⟩
  have := hc k s hx 0 _ rfl
  rwa [Nat.mul_one, Nat.add_zero] at this
def chkLs : List (List Up) → Int
  | [] => 0
  | l :: t => if chkUs l = 0 then chkLs t else chkUs l
theorem chkLs_take {L : List (List Up)} {k : Nat} {l : List Up} (h : L[k]? = some l) (h0 : chkLs (L.take k) = 0) : chkLs (L.take (k + 1)) = chkUs l := by
  induction L generalizing k with
  | nil => simp at h
  | cons x L ih =>
    cases k with
    | zero =>
      obtain rfl : x = l := by simpa using h
      simp only [List.take_succ_cons, List.take_zero, chkLs]
      split <;> simp [*]
    | succ k =>
      simp only [List.take_succ_cons, chkLs] at h0 ⊢
      split at h0
      · rename_i hx
        rw [if_pos hx]
        exact ih (by simpa using h) h0
      · rename_i hx; exact absurd h0 hx
theorem chkLs_bad {L : List (List Up)} {k : Nat} {l : List Up} (h : L[k]? = some l) (h0 : chkLs (L.take k) = 0) (hl : chkUs l ≠ 0) : chkLs L = chkUs l := by
  induction L generalizing k with
  | nil => simp at h
  | cons x L ih =>
    cases k with
    | zero =>
      obtain rfl : x = l := by simpa using h
      simp only [chkLs]
      rw [if_neg hl]
    | succ k =>
      simp only [List.take_succ_cons, chkLs] at h0 ⊢
      split at h0
      · rename_i hx
        rw [if_pos hx]
        exact ih (by simpa using h) h0
      · rename_i hx; exact absurd h0 hx
theorem chkLs_all {L : List (List Up)} : chkLs L = 0 ↔ ∀ l ∈ L, chkUs l = 0 := by
  induction L with
  | nil => simp [chkLs]
  | cons x L ih =>
    simp only [chkLs]
    by_cases hx : chkUs x = 0
    · rw [if_pos hx, ih]; simp [hx]
    · rw [if_neg hx]
      exact ⟨fun h => absurd h hx, fun h => h x (by simp)⟩
def consL (L : List (List Up)) : List (Uk × Int) := if chkLs L = 0 then resL Uk.cmp (L.flatten.map Up.p) else []
def consE (L : List (List Up)) : Int := if chkLs L = 0 then resE Uk.cmp (L.flatten.map Up.p) else chkLs L
def UpsSays (l : List (Uk × Int)) (e : Int) (w : World) (x : Ending) (w' : World) : Prop :=
  ∃ A c, ∃ outL : List Up, x = .returned (.tuple #[.slice A outL.length c, .int .i64 e]) ∧ outL.map Up.p = l ∧ Ups w' w'.heap.size A outL ∧ (∀ u ∈ outL, UOk u) ∧ Below w.heap.size w w'
def UpsNew (l : List (Uk × Int)) (e : Int) (w : World) (x : Ending) (w' : World) : Prop :=
  ∃ A c, ∃ outL : List Up, x = .returned (.tuple #[.slice A outL.length c, .int .i64 e]) ∧ outL.map Up.p = l ∧ Ups w' w'.heap.size A outL ∧ (∀ u ∈ outL, UOk u) ∧ Below w.heap.size w w' ∧ Lo w.heap.size A outL
def linesOf (us : List Up) : List (Ln Up) := us.map fun u => ⟨u.d, u⟩
theorem linesOf_len (us : List Up) : (linesOf us).length = us.length := List.length_map ..
theorem linesOf_pL (us : List Up) : (linesOf us).map (pL Up.k) = us.map Up.p := by unfold linesOf; rw [List.map_map]; rfl
theorem linesOf_snoc (us : List Up) (u : Up) : linesOf (us ++ [u]) = linesOf us ++ [⟨u.d, u⟩] := by unfold linesOf; simp
theorem flatR_take {α : Type} {L : List (Rw α)} {k : Nat} {s : Rw α} (h : L[k]? = some s) : flatR (L.take (k + 1)) = flatR (L.take k) ++ s.l := by
  unfold flatR
  rw [List.take_add_one, h, List.flatMap_append]
  simp
theorem flatR_flat {α : Type} (L : List (Rw α)) : flatR L = (L.map Rw.l).flatten := by unfold flatR; rw [List.flatMap_def]
theorem flatR_len {α : Type} {L : List (Rw α)} {k : Nat} {s : Rw α} (h : L[k]? = some s) {j : Nat} (hj : j ≤ s.l.length) : (flatR (L.take k)).length + j ≤ (flatR L).length := by
  have h1 : (flatR (L.take (k + 1))).length ≤ (flatR L).length := by
    have : flatR L = flatR (L.take (k + 1)) ++ flatR (L.drop (k + 1)) := by unfold flatR; rw [← List.flatMap_append, List.take_append_drop]
    rw [this, List.length_append]
    omega
  rw [flatR_take h, List.length_append] at h1
  omega
theorem infoLn : (Tryz.prog.info? 169).map (fun i => (i.zero, i.size, i.bytes)) = some (some (.agg #[.int .u64 0, .int .u64 0, .slice none 0 0, .slice none 0 0, .int .u64 0, .int .u64 0, .int .u64 0, .int .i64 0]), 8, 96) := by kernel_rfl
theorem ln_made (w : World) (u : Up) : Lies 8 (Ln.cells Up.cells) (w.alloc (.cells #[.int .u64 (hiW u.d), .int .u64 (loW u.d), .slice u.kA u.key.length u.kc, .slice u.rA u.row.length u.rc, .int .u64 (u.t.e : Int), .int .u64 (u.t.a : Int), .int .u64 (u.t.b : Int), .int .i64 u.d] 169)) (w.heap.size + 1) (some ⟨w.heap.size, 0, none⟩) [(⟨u.d, u⟩ : Ln Up)] := fun _ => by
  have ho := Own.made w 169 (Ln.cells Up.cells (⟨u.d, u⟩ : Ln Up))
  refine ⟨w.heap.size, 0, rfl, Nat.lt_succ_self _, fun i x hx j v hv => ?_⟩
  match i, hx with
  | 0, hx =>
    obtain rfl : (⟨u.d, u⟩ : Ln Up) = x := by simpa using hx
    rw [show 0 + 0 * 8 + j = j by omega]
    exact (ho.at_ j).trans hv
theorem own_drew' {w : World} {k : Nat} {t : TypeId} {l : List Value} (h : Own w k t l) : Own w.drew k t l := h
set_option maxRecDepth 100000 in
set_option maxHeartbeats 16000000 in
theorem consolidate_new (A : Option Addr) (c : Nat) (L : List (Rw Up)) (w : World) (hl : ULs w w.heap.size A L) (hok : ∀ s ∈ L, ∀ u ∈ s.l, UOk u) (hn : (flatR L).length ≤ 1099511627776) (hn2 : L.length ≤ 1099511627776) :
    Calls Tryz.prog 75 #[.slice A L.length c] w (UpsNew (consL (L.map Rw.l)) (consE (L.map Rw.l)) w) := by
  obtain ⟨i0, hi, hz0, hz1, hz2⟩ := info_parts infoLn
  have HI := Lib.hid (And.intro Tryz.underlying167 (And.intro hi (And.intro hz0 (And.intro hz1 hz2))))
  have HL := Lib.hid (And.intro hl hok)
  clear hl hok hi hz0 hz1 hz2
  go_enter Tryz.func75, Tryz.ntmps75
  go_wp2_with fail
  go_loopw [4, 12] (fun v4 v12 wr => ∃ k : Nat, v12 = .int .i64 (k : Int) ∧ k ≤ L.length ∧ wr.ownsRow w.heap.size 169 8 v4 (flatR (L.take k)).length ((linesOf (flatR (L.take k))).flatMap (Ln.cells Up.cells)) ∧ Below w.heap.size w wr ∧ chkLs ((L.map Rw.l).take k) = 0)
    (fun _ v12 _ => L.length - (intOf v12).toNat)
  case atStart => exact ⟨0, rfl, by omega, World.ownsRow_nil _ _ _ _, Below.refl _ _, rfl⟩
  case round =>
    obtain ⟨k, rfl, hk, hown, hbw, hchk⟩ := hrel
    obtain ⟨wo, hwo⟩ : ∃ wo, wo = wr := ⟨_, rfl⟩
    subst hwo
    by_cases hlt : k < L.length
    · have hx : L[k]? = some L[k] := List.getElem?_eq_getElem hlt
      have hxm := List.mem_of_getElem? hx
      generalize L[k] = s at *
      obtain ⟨b, o, rfl, hB, hc0, hups⟩ := HL.out.1.at_ hx
      have hc0 := (hbw.cell (p := ⟨b, o + k, none⟩) hB).trans hc0
      have hxl : (L.map Rw.l)[k]? = some s.l := by rw [List.getElem?_map, hx]; rfl
      have hsn : s.l.length ≤ 1099511627776 := by have := flatR_len hx (Nat.le_refl _); omega
      have hcall := Lib.hid (dcheck_any s.A s.c s.l wo ((hups.past hbw (Nat.le_refl _)).wide hbw.size) (by omega) (HL.out.2 s hxm))
      have hnx := chkLs_take hxl hchk
      have hbad := fun h => chkLs_bad hxl hchk h
      have HO := Lib.hid (And.intro hown (And.intro hbw (And.intro hx (And.intro hxm (And.intro hups (And.intro hnx hbad))))))
      have q0 : (0 : Int) ≤ (k : Int) := by omega
      have q1 : (k : Int) < (L.length : Int) := by omega
      have q2 : decide ((k : Int) < (L.length : Int)) = true := decide_eq_true q1
      obtain ⟨K, hK⟩ : ∃ K, chkUs s.l = K := ⟨_, rfl⟩
      obtain ⟨KA, hKA⟩ : ∃ KA, s.A = KA := ⟨_, rfl⟩
      rw [hK, hKA] at hcall
      rw [hKA] at hc0
      have HKA := Lib.hid hKA
      have HK := Lib.hid hK
      clear hown hbw hchk hx hxm hups hxl hnx hbad hK hKA
      go_wp2_with fail
      refine hcall.out.mono ?_
      rintro _ w1 ⟨rfl, b1⟩
      have H1 := Lib.hid (And.intro (HO.out.2.1.trans (b1.mono HO.out.2.1.size)) (own_below HO.out.1 b1))
      clear b1 hcall hc0
      by_cases hK0 : K = 0
      case neg =>
        have t1 : (K != 0) = true := bne_iff_ne.2 hK0
        have hb := HO.out.2.2.2.2.2.2 (by rw [HK.out]; exact hK0)
        have hcl : consL (L.map Rw.l) = [] := by unfold consL; rw [if_neg (by rw [hb, HK.out]; exact hK0)]
        have hce : consE (L.map Rw.l) = K := by unfold consE; rw [if_neg (by rw [hb, HK.out]; exact hK0), hb, HK.out]
        have HR := Lib.hid (And.intro hcl hce)
        clear hK0 hb hcl hce
        go_wp2_with fail
        go_ret2
        exact ⟨none, 0, [], by rw [HR.out.2]; rfl, HR.out.1.symm, ⟨Lies.nil_, fun u hu => (by cases hu)⟩, fun u hu => (by cases hu), H1.out.1, lo_nil _⟩
      subst hK0
      go_wp2_with fail
      go_loopw [4, 23] (fun v4 v23 wi => ∃ j : Nat, v23 = .int .i64 (j : Int) ∧ j ≤ s.l.length ∧ wi.ownsRow w.heap.size 169 8 v4 (flatR (L.take k) ++ s.l.take j).length ((linesOf (flatR (L.take k) ++ s.l.take j)).flatMap (Ln.cells Up.cells)) ∧ Below w.heap.size w wi)
        (fun _ v23 _ => s.l.length - (intOf v23).toNat)
      case atStart => exact ⟨0, rfl, by omega, by rw [List.take_zero, List.append_nil]; exact H1.out.2, H1.out.1⟩
      case round =>
        obtain ⟨j, rfl, hj, hownj, hbj⟩ := hrel
        obtain ⟨wi, hwi⟩ : ∃ wi, wi = wr := ⟨_, rfl⟩
        subst hwi
        by_cases hjt : j < s.l.length
        · have hy : s.l[j]? = some s.l[j] := List.getElem?_eq_getElem hjt
          have hym := List.mem_of_getElem? hy
          generalize s.l[j] = u at *
          have hys0 := HO.out.2.2.2.2.1.head
          rw [HKA.out] at hys0
          obtain ⟨b', o', rfl, hB', hys⟩ := lies_up hys0 (by omega)
          obtain ⟨e0, e1, e2, e3, e4, e5⟩ := ((hys j u hy).past_ hbj hB').six
          obtain ⟨V, hV, hvb, hvs, hvo⟩ := upbox wi u
          have hin0 : UOk u := HL.out.2 s HO.out.2.2.2.1 u hym
          have hlen : (flatR (L.take k)).length + j ≤ (flatR L).length := flatR_len HO.out.2.2.1 (by omega)
          have hlj : (flatR (L.take k) ++ s.l.take j).length = (flatR (L.take k)).length + j := by rw [List.length_append, List.length_take]; omega
          have hln : (flatR (L.take k) ++ s.l.take j).length ≤ 1099511627776 := by omega
          have hof := fun W => Lib.hid (of_any u.d W hin0.dn.1 hin0.dn.2)
          have hrowV := own_below hownj hvb
          have hPne : u4.ownBlock ≠ some wi.heap.size := fun e => by have := (hownj.lt _ e).2; omega
          have hbV := hbj.trans (hvb.mono hbj.size)
          have htk : s.l.take (j + 1) = s.l.take j ++ [u] := by rw [List.take_add_one, hy]; rfl
          have HJ := Lib.hid (And.intro htk (And.intro hbV (And.intro hlen hlj)))
          have q3 : (0 : Int) ≤ (j : Int) := by omega
          have q4 : (j : Int) < (s.l.length : Int) := by omega
          have q5 : decide ((j : Int) < (s.l.length : Int)) = true := decide_eq_true q4
          generalize hflat : flatR (L.take k) ++ s.l.take j = us at *
          have HF := Lib.hid hflat
          clear hy hym hys hys0 hvb hvs hin0 hlen hlj hownj hbj hbV htk hflat
          go_upto_region 11 with fail
          rw [← hV]
          clear hV e0 e1 e2 e3 e4 e5
          obtain ⟨e0, e1, e2, e3, e4, e5⟩ := own6 hvo
          have HS := Lib.hid (fun W (h : Own W wi.heap.size 38 u.cells) => (own6 h : W.cell? ⟨wi.heap.size, 0, none⟩ = some (.slice u.kA u.key.length u.kc) ∧ W.cell? ⟨wi.heap.size, 1, none⟩ = some (.slice u.rA u.row.length u.rc) ∧ W.cell? ⟨wi.heap.size, 2, none⟩ = some (.int .u64 (u.t.e : Int)) ∧ W.cell? ⟨wi.heap.size, 3, none⟩ = some (.int .u64 (u.t.a : Int)) ∧ W.cell? ⟨wi.heap.size, 4, none⟩ = some (.int .u64 (u.t.b : Int)) ∧ W.cell? ⟨wi.heap.size, 5, none⟩ = some (.int .i64 u.d)))
          go_region_held3 (fun w' => Own w' wi.heap.size 38 u.cells ∧ (w'.cell? ⟨wi.heap.size, 0, none⟩ = some (.slice u.kA u.key.length u.kc) ∧ w'.cell? ⟨wi.heap.size, 1, none⟩ = some (.slice u.rA u.row.length u.rc) ∧ w'.cell? ⟨wi.heap.size, 2, none⟩ = some (.int .u64 (u.t.e : Int)) ∧ w'.cell? ⟨wi.heap.size, 3, none⟩ = some (.int .u64 (u.t.a : Int)) ∧ w'.cell? ⟨wi.heap.size, 4, none⟩ = some (.int .u64 (u.t.b : Int)) ∧ w'.cell? ⟨wi.heap.size, 5, none⟩ = some (.int .i64 u.d)))
            ((refine (fun h => And.intro h (HS.out _ h)) ?_; repeat (first | with_reducible exact ho9 | with_reducible exact ho8 | with_reducible exact hvo | with_reducible refine Own.more ?_ _ | with_reducible refine own_drew' ?_)))
            (first | (go_at_call 70; refine (hof _).out.mono ?_; rintro _ w2 ⟨rfl, b2⟩; have ho8 : Own w2 wi.heap.size 38 u.cells := (own_drew' hvo).past b2 hvo.inside; have hrow2 := own_below hrowV.drew b2; have hb8 := (HJ.out.2.1.drew).trans (b2.mono (HJ.out.2.1.drew).size)) | (refine step_append_lies (size := 8) (cells := Ln.cells Up.cells) (l := [(⟨u.d, u⟩ : Ln Up)]) (B := w2.heap.size + 1) _ rfl (.tmp 27) (.tmp 33) 167 169 rfl i0 _ 96 HI.out.1 HI.out.2.1 HI.out.2.2.1 HI.out.2.2.2.1 HI.out.2.2.2.2 rfl (by decide) (fun _ => rfl) lucells_one w.heap.size u4 us.length _ rfl (hrow2.alloc _) 1 w2.heap.size 0 (by simp [Act.eval, Act.put]) (ln_made _ _) (by unfold maxLen; simp; omega) (by simp; omega) (by simp; exact Nat.le_succ_of_le hb8.size) ?_; intro v3 w3 ho3 hb3 hv3 hg3; have ho9 : Own w3 wi.heap.size 38 u.cells := (hg3.block _ (by have := ho8.inside; simp; omega) (fun e => hPne e.symm)).trans (ho8.more _)))
          all_goals
            have H3 := Lib.hid (And.intro ho3 ((Below.alloc hb8 hb8.size _).trans hb3))
            clear ho3 hb3 hv3 hg3 ho9 ho8 hb8 hrow2 hrowV hPne HS hvo b2 hof e0 e1 e2 e3 e4 e5
            go_wp2_with fail
            go_roundw
            case rel =>
              refine ⟨j + 1, by go_num, by omega, ?_, H3.out.2⟩
              rw [HJ.out.1, ← List.append_assoc, HF.out, linesOf_snoc, List.flatMap_append, List.length_append]
              exact H3.out.1
            case measure => simp [intOf]; omega
        · have hj2 : j = s.l.length := by omega
          have q5 : decide ((j : Int) < (s.l.length : Int)) = false := decide_eq_false (by omega)
          rw [hj2, List.take_length] at hownj
          have HJ := Lib.hid (And.intro hownj hbj)
          clear hownj hbj hj2
          go_wp2_with fail
          go_roundw
          case rel =>
            refine ⟨k + 1, by go_num, by omega, ?_, HJ.out.2, by rw [HO.out.2.2.2.2.2.1, HK.out]⟩
            rw [flatR_take HO.out.2.2.1]
            exact HJ.out.1
          case measure => simp [intOf]; omega
    · have hk2 : k = L.length := by omega
      have q2 : decide ((k : Int) < (L.length : Int)) = false := decide_eq_false (by omega)
      rw [hk2, List.take_length] at hown
      rw [hk2, List.take_of_length_le (by rw [List.length_map]; exact Nat.le_refl _)] at hchk
      have hgood : ∀ u ∈ flatR L, chkU u = 0 ∧ UOk u ∧ UIn w w.heap.size u := fun u hu => by
        obtain ⟨s, hs, hus⟩ := List.mem_flatMap.1 hu
        exact ⟨chkUs_all.1 (chkLs_all.1 hchk s.l (List.mem_map_of_mem hs)) u hus, HL.out.2 s hs u hus, (HL.out.1.each_ s hs).each_ u hus⟩
      have hmem : ∀ x ∈ linesOf (flatR L), x.u ∈ flatR L ∧ x.S = x.u.d := fun x hx => by
        unfold linesOf at hx
        obtain ⟨u, hu, rfl⟩ := List.mem_map.1 hx
        exact ⟨hu, rfl⟩
      have hcall := (totalU_any u4 (flatR L).length w.heap.size (linesOf (flatR L)) wo (linesOf_len _).symm hown hbw.size (fun x hx => (hgood x.u (hmem x hx).1).2.2.past hbw (Nat.le_refl _)) (fun x hx => (hgood x.u (hmem x hx).1).2.1) (fun x hx => (hgood x.u (hmem x hx).1).1)
        (fun x hx => by rw [(hmem x hx).2]; exact (hgood x.u (hmem x hx).1).2.1.dn) hn)
      rw [linesOf_pL, flatR_flat] at hcall
      obtain ⟨E, hE⟩ : ∃ E, resE Uk.cmp ((L.map Rw.l).flatten.map Up.p) = E := ⟨_, rfl⟩
      obtain ⟨RL, hRL⟩ : ∃ RL, resL Uk.cmp ((L.map Rw.l).flatten.map Up.p) = RL := ⟨_, rfl⟩
      have hcall : Hid (Calls Tryz.prog 125 #[u4, .func (.func 126) #[] #[], .func (.func 127) #[] #[]] wo fun x w' => ∃ A c, ∃ outL : List Up, x = .returned (.tuple #[.slice A outL.length c, .int .i64 E]) ∧ outL.map Up.p = RL ∧ Ups w' w'.heap.size A outL ∧ (∀ u ∈ outL, UOk u) ∧ Below w.heap.size wo w' ∧ Lo w.heap.size A outL) := by
        unfold TotSays at hcall
        rw [hE, hRL] at hcall
        exact Lib.hid hcall
      have hcl : consL (L.map Rw.l) = RL := by unfold consL; rw [if_pos hchk, hRL]
      have hce : consE (L.map Rw.l) = E := by unfold consE; rw [if_pos hchk, hE]
      have HC := Lib.hid (And.intro hcl (And.intro hce hbw))
      clear hown hchk hgood hmem hcl hce hbw hE hRL
      go_wp2_with fail
      refine hcall.out.mono ?_
      rintro _ w9 ⟨A', c', outL, rfl, k1, k2, k3, k4⟩
      have H9 := Lib.hid (And.intro k1 (And.intro k2 (And.intro k3 k4)))
      clear k1 k2 k3 k4 hcall
      go_wp2_with fail
      go_ret2
      exact ⟨A', c', outL, by rw [HC.out.2.1]; rfl, by rw [HC.out.1]; exact H9.out.1, H9.out.2.1, H9.out.2.2.1, HC.out.2.2.trans H9.out.2.2.2.1, H9.out.2.2.2.2⟩
end Go.Proofs.YthpjkikfadfgeaaGreat
namespace Go.Proofs.YthpjkikfadfgeaaGreat
open Go Go.RowKit

theorem eqIn_rounds (d : Nat) (a b c e : Int) (w : World) : (Op.equalIn (d + 2) 34 (.agg #[.int .u64 a, .int .u64 b]) (.agg #[.int .u64 c, .int .u64 e])).run Tryz.prog w = .ok ((a == c) && (b == e)) w := by
  have u := Tryz.underlying34
  have u1 := Tryz.underlying33
  have z1 := Tryz.sizeOf33
  have a1 := Tryz.isAgg33
  unfold Op.equalIn
  simp only [Sem.run_bind, run_underlying u, Result.andThen_ok, z1]
  by_cases h1 : a = c <;> by_cases h2 : b = e <;>
    simp [h1, h2, part, a1, z1, run_equalIn_int w _ _ _ _ _ _ u1, Std.Legacy.Range.forIn_eq_forIn_range', Std.Legacy.Range.size, List.range', go_sem]
theorem eql_rounds (a b c e : Int) (w : World) : (binOp .eql 34 (.agg #[.int .u64 a, .int .u64 b]) (.agg #[.int .u64 c, .int .u64 e])).run Tryz.prog w = .ok (.bool ((a == c) && (b == e))) w := by
  rw [run_eql_struct, show (10000 : Nat) = 9998 + 2 from rfl, eqIn_rounds]; rfl
theorem grd_rounds (op : BinOp) (x y : Operand) (xs ys : Array Value) (w : World) : (eqGuard op 34 x y (.agg xs) (.agg ys)).run Tryz.prog w = .ok () w := run_eqGuard_agg w op _ x y xs ys (by kernel_rfl)
theorem grd_time (op : BinOp) (x y : Operand) (xs ys : Array Value) (w : World) : (eqGuard op 36 x y (.agg xs) (.agg ys)).run Tryz.prog w = .ok () w := run_eqGuard_agg w op _ x y xs ys (by kernel_rfl)
def eqT (s t : Tm) : Bool := (s.e == t.e) && ((s.a == t.a) && (s.b == t.b))
theorem eqT_iff {s t : Tm} : eqT s t = true ↔ s = t := by
  cases s; cases t; simp [eqT]
theorem eqIn_time (s t : Tm) (w : World) : (Op.equalIn 10000 36 s.val t.val).run Tryz.prog w = .ok (eqT s t) w := by
  have u1 := Tryz.underlying33
  have z1 := Tryz.sizeOf33
  have a1 := Tryz.isAgg33
  have z2 := Tryz.sizeOf34
  have a2 := Tryz.isAgg34
  have hS : Tryz.prog.underlying 36 = some (.struct (Tryz.prog.fieldsOf 36)) := by kernel_rfl
  have hp : Tryz.prog.stoodInHeld 36 = false := by kernel_rfl
  unfold Tm.val
  rw [show (10000 : Nat) = 9996 + 1 + 2 + 1 from rfl, run_equalIn_agg w _ _ _ _ hS hp]
  simp only [Program.fieldsOf, Tryz.underlying36, eqT]
  have i0 : ∀ x y : Nat, ((x : Int) = (y : Int)) = (x = y) := fun x y => by simp; omega
  by_cases h1 : s.e = t.e
  · simp [Op.eqFields, part, a1, a2, z1, z2, h1, i0, run_equalIn_int w _ _ _ _ _ _ u1, go_sem]
    rw [show (9999 : Nat) = 9997 + 2 from rfl, eqIn_rounds]
    cases hq : ((s.a : Int) == (t.a : Int)) && ((s.b : Int) == (t.b : Int)) <;> simp_all
  · have h2 : (s.e == t.e) = false := by simpa using h1
    simp [Op.eqFields, part, a1, a2, z1, z2, h1, h2, i0, run_equalIn_int w _ _ _ _ _ _ u1, go_sem]
theorem neq_time (s t : Tm) (w : World) : (binOp .neq 36 s.val t.val).run Tryz.prog w = .ok (.bool (!eqT s t)) w := by
  have h := eqIn_time s t w
  unfold Tm.val at h ⊢
  rw [run_neq_struct, h]; rfl
end Go.Proofs.YthpjkikfadfgeaaGreat
namespace Go.Proofs.YthpjkikfadfgeaaGreat
open Go Go.RowKit
attribute [local go_sem ↓] Go.wp_at_zero Go.wp_at_succ

theorem max_le (a b c d : Nat) : ((((max a c : Nat) : Int) == (c : Int)) && (((max b d : Nat) : Int) == (d : Int))) = (decide (a ≤ c) && decide (b ≤ d)) := by
  rw [Bool.eq_iff_iff]; simp only [Bool.and_eq_true, beq_iff_eq, decide_eq_true_eq]; omega

set_option maxRecDepth 100000 in
set_option maxHeartbeats 800000 in
theorem ahead_any (s t : Tm) (w : World) :
    Calls Tryz.prog 66 #[s.val, t.val] w fun e w' => e = .returned (.bool (s.le t)) ∧ Below w.heap.size w w' := by
  obtain ⟨a, b, c⟩ := s
  obtain ⟨x, y, z⟩ := t
  unfold Tm.val Tm.le
  dsimp only
  by_cases h : a ≤ x
  · have heq := eql_rounds ((max b y : Nat) : Int) ((max c z : Nat) : Int) (y : Int) (z : Int)
    have hgd := fun (x1 y1 : Operand) (xs ys : Array Value) (w : World) => grd_rounds .eql x1 y1 xs ys w
    have hle : decide ((a : Int) ≤ (x : Int)) = true := by simp; omega
    have hm := max_le b c y z
    simp only [hm] at heq
    have hr : (decide (a ≤ x) && (decide (b ≤ y) && decide (c ≤ z))) = (decide (b ≤ y) && decide (c ≤ z)) := by simp [h]
    rw [hr]
    clear hm hr
    generalize (decide (b ≤ y) && decide (c ≤ z)) = r at heq
    go_enter Tryz.func66, Tryz.ntmps66
    go_wp2_with fail
    go_region_held3 (fun w' => w'.cell? ⟨w.heap.size, 0, none⟩ = some (.int .u64 (a : Int)) ∧ w'.cell? ⟨w.heap.size, 1, none⟩ = some (.int .u64 (b : Int)) ∧ w'.cell? ⟨w.heap.size, 2, none⟩ = some (.int .u64 (c : Int)) ∧
        w'.cell? ⟨w.heap.size + 1, 0, none⟩ = some (.int .u64 (x : Int)) ∧ w'.cell? ⟨w.heap.size + 1, 1, none⟩ = some (.int .u64 (y : Int)) ∧ w'.cell? ⟨w.heap.size + 1, 2, none⟩ = some (.int .u64 (z : Int)))
      (first | go_keep | (refine ⟨?_, ?_, ?_, ?_, ?_, ?_⟩ <;> (refine (hb.cell (by first | (simp; done) | (simp; omega))).trans ?_; simp [go_sem])))
      (first | (go_at_call 112; refine (each_greater _ _ _ _ _).mono ?_; rintro e w1 ⟨rfl, hb⟩))
    go_wp2_with fail
    go_ret
    exact ⟨rfl, ((((Below.refl _ _).alloc (Nat.le_refl _) _).alloc (by simp) _).drew).trans (hb.mono (by simp; omega))⟩
  · have hr : (decide (a ≤ x) && (decide (b ≤ y) && decide (c ≤ z))) = false := by simp [h]
    have hn : decide (a ≤ x) = false := by simpa using h
    rw [hr]
    clear hr h
    go_enter Tryz.func66, Tryz.ntmps66
    go_wp2_with fail
    go_quiet (fail)
    go_wp2_with fail
    go_ret
    exact ⟨rfl, below_draws (((Below.refl _ _).alloc (Nat.le_refl _) _).alloc (by simp) _) _⟩
end Go.Proofs.YthpjkikfadfgeaaGreat
namespace Go.Proofs.YthpjkikfadfgeaaGreat
open Go Go.RowKit

def CtsSays (l : List (List Vl × Int)) (e : Int) (base : Nat) (w : World) (x : Ending) (w' : World) : Prop :=
  ∃ A c, ∃ outL : List Ct, x = .returned (.tuple #[.slice A outL.length c, .int .i64 e]) ∧ outL.map Ct.p = l ∧ Cts w' w'.heap.size A outL ∧ (∀ u ∈ outL, COk u) ∧ Below base w w' ∧ LoC base A outL
def chkAt (l : List Up) (t : Tm) : Int := orI (chkUs l) (chk [t])
def atP (l : List Up) (t : Tm) : List (List Vl × Int) := (l.filter fun u => u.t.le t).map fun u => (u.row, u.d)
def atL (l : List Up) (t : Tm) : List (List Vl × Int) := if chkAt l t = 0 then resL cmpRows (atP l t) else []
def atE (l : List Up) (t : Tm) : Int := if chkAt l t = 0 then resE cmpRows (atP l t) else chkAt l t
def linesAt (l : List Up) (t : Tm) : List (Ln Ct) := (l.filter fun u => u.t.le t).map fun u => ⟨u.d, ⟨u.rA, u.rc, u.row, 0⟩⟩
end Go.Proofs.YthpjkikfadfgeaaGreat
namespace Go.Proofs.YthpjkikfadfgeaaGreat
open Go Go.RowKit

structure CLs (w : World) (B : Nat) (A : Option Addr) (L : List (Rw Ct)) : Prop where
  head : Lies 1 Rw.cells w B A L
  each_ : ∀ s ∈ L, Cts w B s.A s.l
theorem CLs.past {w w' : World} {B B' : Nat} {A : Option Addr} {L : List (Rw Ct)} (h : CLs w B A L) (hb : Below B' w w') (hB : B ≤ B') : CLs w' B A L := ⟨h.head.past hb hB, fun s hs => (h.each_ s hs).past hb hB⟩
theorem CLs.wide {w : World} {B B' : Nat} {A : Option Addr} {L : List (Rw Ct)} (h : CLs w B A L) (hB : B ≤ B') : CLs w B' A L := ⟨h.head.wide hB, fun s hs => (h.each_ s hs).wide hB⟩
theorem CLs.keep {w w' : World} {A : Option Addr} {L : List (Rw Ct)} (h : CLs w w.heap.size A L) (hb : Below w.heap.size w w') : CLs w' w'.heap.size A L := (h.past hb (Nat.le_refl _)).wide hb.size
theorem CLs.at_ {w : World} {B : Nat} {A : Option Addr} {L : List (Rw Ct)} (h : CLs w B A L) {k : Nat} {s : Rw Ct} (hx : L[k]? = some s) :
    ∃ b o, A = some ⟨b, o, none⟩ ∧ b < B ∧ w.cell? ⟨b, o + k, none⟩ = some (.slice s.A s.l.length s.c) ∧ Cts w B s.A s.l := by
  have hk := (List.getElem?_eq_some_iff.1 hx).1
  obtain ⟨b, o, e, hb, hc⟩ := h.head (by omega)
  refine ⟨b, o, e, hb, ?_, h.each_ s (List.mem_of_getElem? hx)⟩
  have := hc k s hx 0 _ rfl
  rwa [Nat.mul_one, Nat.add_zero] at this
def chkCs : List Ct → Int
  | [] => 0
  | c :: l => if chkRow c.row = 0 then chkCs l else chkRow c.row
def mergeL (L : List (List Ct)) : List (List Vl × Int) := if chkCs L.flatten = 0 then resL cmpRows (L.flatten.map Ct.p) else []
def mergeE (L : List (List Ct)) : Int := if chkCs L.flatten = 0 then resE cmpRows (L.flatten.map Ct.p) else chkCs L.flatten
def linesC (us : List Ct) : List (Ln Ct) := us.map fun u => ⟨u.n, u⟩
end Go.Proofs.YthpjkikfadfgeaaGreat
