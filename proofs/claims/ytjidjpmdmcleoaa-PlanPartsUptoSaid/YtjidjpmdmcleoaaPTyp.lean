/- The parts by which the schema of a plan is found. -/
import Derived.Test.YtjidjpmdmcleoaaPSch
namespace Go.Proofs.Ytjidjpmdmcleoaa
open Go Go.RowKit

def icell (n : Int) : List Value := [.int .i64 n]
theorem ints_lies {w : World} {B : Nat} {A : Option Addr} {l : List Int} : Ints w B A l ↔ Lies 1 icell w B A l := by
  constructor
  · intro h hp
    obtain ⟨b, o, e, hb, hc⟩ := h hp
    refine ⟨b, o, e, hb, fun i x hi j u hj => ?_⟩
    match j, hj with
    | 0, hj =>
      obtain rfl : Value.int .i64 x = u := by simpa [icell] using hj
      have := hc i x hi
      rwa [Nat.mul_one, Nat.add_zero]
  · intro h hp
    obtain ⟨b, o, e, hb, hc⟩ := h hp
    refine ⟨b, o, e, hb, fun i x hi => ?_⟩
    have := hc i x hi 0 _ rfl
    rwa [Nat.mul_one, Nat.add_zero] at this
/-- a slice that reads as a list, and lies in another block than g -/
structure LN (g : Nat) {α : Type} (size : Nat) (cells : α → List Value) (w : World) (A : Option Addr) (l : List α) : Prop where
  lies : Lies size cells w w.heap.size A l
  off : 0 < l.length → ∀ b o, A = some ⟨b, o, none⟩ → b ≠ g
abbrev TN (g : Nat) (w : World) (A : Option Addr) (l : List Int) : Prop := LN g 1 tcell w A l
theorem LN.next {g : Nat} {α : Type} {size : Nat} {cells : α → List Value} {w w' : World} {A : Option Addr} {l : List α} (h : LN g size cells w A l) (k : w.grownBy w' (some g)) : LN g size cells w' A l :=
  ⟨fun hp => by
    obtain ⟨b, o, e, hb, hc⟩ := h.lies hp
    have hne := h.off hp b o e
    exact ⟨b, o, e, Nat.lt_of_lt_of_le hb k.size, fun i x hi j u hj => ((grown_olds k).1 b _ hb hne).trans (hc i x hi j u hj)⟩, h.off⟩
theorem LN.more {g : Nat} {α : Type} {size : Nat} {cells : α → List Value} {w w' : World} {A : Option Addr} {l : List α} (h : LN g size cells w A l) (hb : Below w.heap.size w w') : LN g size cells w' A l :=
  ⟨(h.lies.past hb (Nat.le_refl _)).wide hb.size, h.off⟩
theorem LN.nil_ {g : Nat} {α : Type} {size : Nat} {cells : α → List Value} {w : World} {A : Option Addr} : LN g size cells w A [] := ⟨Lies.nil_, fun h => absurd h (by simp)⟩
theorem LN.of_lies {g : Nat} {α : Type} {size : Nat} {cells : α → List Value} {w : World} {A : Option Addr} {l : List α} (h : Lies size cells w g A l) (hg : g ≤ w.heap.size) : LN g size cells w A l :=
  ⟨h.wide hg, fun hp b o e => by
    obtain ⟨b', o', e', hb, _⟩ := h hp
    rw [e] at e'
    simp only [Option.some.injEq, Addr.mk.injEq, and_true] at e'
    omega⟩
theorem LN.tys {g : Nat} {w : World} {A : Option Addr} {l : List Int} (h : TN g w A l) : Tys w w.heap.size A l := tys_lies.2 h.lies
theorem tn_of_own {g : Nat} {w : World} {base n : Nat} {e : TypeId} {v : Value} {l : List Int} (hn : n = l.length) (h : w.ownsRow base e 1 v n (l.flatMap tcell)) (hg : g < base) :
    ∃ A c, v = .slice A l.length c ∧ (∀ b o, A = some ⟨b, o, none⟩ → base ≤ b) ∧ TN g w A l := by
  obtain ⟨A, c, hv, h1, _, h3⟩ := lies_of_own (by decide) tcell_len hn h
  have hb : ∀ b o, A = some ⟨b, o, none⟩ → base ≤ b := fun b o e => by subst hv e; exact (h.lt b rfl).1
  exact ⟨A, c, hv, hb, h3, fun hp b o e => by have := hb b o e; omega⟩
/-- the block of one of some schemas -/
def OldB (L : List (Sl Int)) (b : Nat) : Prop := ∃ s ∈ L, 0 < s.l.length ∧ ∃ o, s.A = some ⟨b, o, none⟩
theorem OldB.lt {g : Nat} {w : World} {A : Option Addr} {L : List (Sl Int)} {b : Nat} (h : OldB L b) (hl : ∀ s ∈ L, TN g w s.A s.l) : b < w.heap.size := by
  obtain ⟨s, hs, hp, o, e⟩ := h
  obtain ⟨b', o', e', hb, _⟩ := (hl s hs).lies hp
  rw [e] at e'
  simp only [Option.some.injEq, Addr.mk.injEq, and_true] at e'
  omega
/-- schemas, each in another block than g -/
structure SN (g : Nat) (w : World) (A : Option Addr) (L : List (Sl Int)) : Prop where
  head : LN g 1 Sl.cells w A L
  each_ : ∀ s ∈ L, TN g w s.A s.l
theorem SN.next {g : Nat} {w w' : World} {A : Option Addr} {L : List (Sl Int)} (h : SN g w A L) (k : w.grownBy w' (some g)) : SN g w' A L := ⟨h.head.next k, fun s hs => (h.each_ s hs).next k⟩
theorem SN.more {g : Nat} {w w' : World} {A : Option Addr} {L : List (Sl Int)} (h : SN g w A L) (hb : Below w.heap.size w w') : SN g w' A L := ⟨h.head.more hb, fun s hs => (h.each_ s hs).more hb⟩
theorem SN.ll {g : Nat} {w : World} {A : Option Addr} {L : List (Sl Int)} (h : SN g w A L) : LL 1 tcell w w.heap.size A L := ⟨h.head.lies, fun s hs => (h.each_ s hs).lies⟩
set_option maxRecDepth 100000 in
set_option maxHeartbeats 1600000 in
theorem psame_any (A0 : Option Addr) (n0 c0 : Nat) (u : Int) (A A' : Option Addr) (c c' : Nat) (l m : List Int) (g : Nat) (w : World) (hl : Tys w w.heap.size A l) (hm : Tys w w.heap.size A' m) (hn : l.length ≤ maxLen) (hn' : m.length ≤ maxLen) (ho : Own w g 80 (evL u A0 n0 c0)) :
    Calls Try.prog 46 #[.pointer (some ⟨g, 0, none⟩), .slice A l.length c, .slice A' m.length c'] w fun x w' => x = .returned (.tuple #[]) ∧ Upd w w' g 80 (evL (sameS l m u) A0 n0 c0) := by
  have hq := Lib.hid (equal_any A A' c c' l m w hl hm hn hn')
  have HO := Lib.hid ho
  have HS := Lib.hid (show sameS l m u = if l = m then u else fl u 11 from rfl)
  clear hl hm ho
  by_cases he : l = m
  · have hd : decide (l = m) = true := by simpa using he
    rw [hd] at hq
    have HE := Lib.hid he
    clear hd he
    go_enter Try.func46, Try.ntmps46
    go_wp2_with fail
    refine hq.out.mono ?_
    rintro _ w2 ⟨rfl, b2⟩
    have H2 := Lib.hid ((Upd.same HO.out).quiet b2)
    clear b2
    go_wp2_with fail
    exact bodyPost_end (results_none rfl _ _ _) rfl ⟨rfl, H2.out.as (by rw [HS.out, if_pos HE.out])⟩
  · have hd : decide (l = m) = false := by simpa using he
    rw [hd] at hq
    have HE := Lib.hid he
    clear hd he
    go_enter Try.func46, Try.ntmps46
    go_wp2_with fail
    refine hq.out.mono ?_
    rintro _ w2 ⟨rfl, b2⟩
    have H2 := Lib.hid ((Upd.same HO.out).quiet b2)
    have hgi := H2.out.own.inside
    clear b2
    go_wp2_with fail
    refine (fail_any g _ _ 11 _ _ H2.out.own).mono ?_
    rintro _ w3 ⟨rfl, u3⟩
    have U3 := Lib.hid (H2.out.trans u3)
    clear u3
    go_wp2_with fail
    exact bodyPost_end (results_none rfl _ _ _) rfl ⟨rfl, U3.out.as (by rw [HS.out, if_neg HE.out]; rfl)⟩
set_option maxRecDepth 100000 in
set_option maxHeartbeats 1600000 in
theorem short_any (A0 : Option Addr) (n0 c0 : Nat) (u : Int) (A : Option Addr) (c : Nat) (l : List Int) (g : Nat) (w : World) (hn : l.length ≤ maxLen) (ho : Own w g 80 (evL u A0 n0 c0)) :
    Calls Try.prog 50 #[.pointer (some ⟨g, 0, none⟩), .slice A l.length c] w fun x w' => x = .returned (.slice A l.length c) ∧ Upd w w' g 80 (evL (shortU l u) A0 n0 c0) := by
  have HO := Lib.hid ho
  have HS := Lib.hid (show shortU l u = if l.length > 8 then fl u 2 else u from rfl)
  have hgi := ho.inside
  unfold maxLen at hn
  clear ho
  by_cases h8 : l.length > 8
  · have t1 : decide ((8 : Int) < (l.length : Int)) = true := by simp; omega
    have HE := Lib.hid h8
    clear h8
    go_enter Try.func50, Try.ntmps50
    go_wp2_with fail
    refine (fail_any g _ _ 2 _ _ HO.out).mono ?_
    rintro _ w3 ⟨rfl, u3⟩
    have U3 := Lib.hid u3
    clear u3
    go_wp2_with fail
    go_ret
    exact ⟨rfl, U3.out.as (by rw [HS.out, if_pos HE.out]; rfl)⟩
  · have t1 : decide ((8 : Int) < (l.length : Int)) = false := by simp; omega
    have HE := Lib.hid h8
    clear h8
    go_enter Try.func50, Try.ntmps50
    go_wp2_with fail
    go_ret
    exact ⟨rfl, (Upd.same HO.out).as (by rw [HS.out, if_neg HE.out])⟩
theorem pick_in {L : List (Sl Int)} {k : Nat} {s : Sl Int} (h : L[k]? = some s) (u : Int) : pickS (L.map Sl.l) (k : Int) u = (s.l, u) := by
  have hk : k < L.length := (List.getElem?_eq_some_iff.1 h).1
  unfold pickS
  rw [if_pos ⟨by omega, by rw [List.length_map]; omega⟩, Int.toNat_natCast, List.getD_eq_getElem?_getD, List.getElem?_map, h]
  rfl
set_option maxRecDepth 100000 in
set_option maxHeartbeats 1600000 in
theorem pick_any (A0 : Option Addr) (n0 c0 : Nat) (u : Int) (A : Option Addr) (c : Nat) (L : List (Sl Int)) (i : Int) (g : Nat) (w : World) (hl : SN g w A L) (hn : L.length ≤ maxLen) (ho : Own w g 80 (evL u A0 n0 c0)) :
    Calls Try.prog 45 #[.pointer (some ⟨g, 0, none⟩), .slice A L.length c, .int .i64 i] w fun x w' => ∃ A' c', x = .returned (.slice A' (pickS (L.map Sl.l) i u).1.length c') ∧ (TN g w' A' (pickS (L.map Sl.l) i u).1 ∧ ∀ b o, 0 < (pickS (L.map Sl.l) i u).1.length → A' = some ⟨b, o, none⟩ → OldB L b) ∧ Upd w w' g 80 (evL (pickS (L.map Sl.l) i u).2 A0 n0 c0) := by
  have HO := Lib.hid ho
  have hgi := ho.inside
  have Hl := Lib.hid hl
  unfold maxLen at hn
  clear ho hl
  by_cases h0 : 0 ≤ i
  · obtain ⟨k, rfl⟩ : ∃ k : Nat, i = (k : Int) := ⟨i.toNat, by omega⟩
    have t1 : decide ((k : Int) < 0) = false := by simp
    by_cases h1 : k < L.length
    · have hx : L[k]? = some L[k] := List.getElem?_eq_getElem h1
      rw [pick_in hx]
      obtain ⟨b, o, rfl, hB, hc, _⟩ := Hl.out.ll.at_ hx
      have hs := Hl.out.each_ _ (List.mem_of_getElem? hx)
      have t2 : decide ((L.length : Int) ≤ (k : Int)) = false := by simp; omega
      have q0 : (0 : Int) ≤ (k : Int) := by omega
      have q1 : (k : Int) < (L.length : Int) := by omega
      have hmem := List.mem_of_getElem? hx
      generalize L[k] = s at *
      have HS := Lib.hid (And.intro hs (show ∀ b o, 0 < s.l.length → s.A = some ⟨b, o, none⟩ → OldB L b from fun b o hp e => ⟨s, hmem, hp, o, e⟩))
      clear hx hs h0 h1 hmem
      go_enter Try.func45, Try.ntmps45
      go_wp2_with fail
      go_ret
      exact ⟨_, _, rfl, HS.out, Upd.same HO.out⟩
    · have t2 : decide (L.length ≤ k) = true := by simp; omega
      have hp : pickS (L.map Sl.l) (k : Int) u = ([], fl u 1) := by unfold pickS; rw [if_neg (by rw [List.length_map]; omega)]
      rw [hp]
      clear hp h0 h1
      go_enter Try.func45, Try.ntmps45
      go_wp2_with fail
      refine (fail_any g _ _ 1 _ _ HO.out).mono ?_
      rintro _ w3 ⟨rfl, u3⟩
      have U3 := Lib.hid u3
      clear u3
      go_wp2_with fail
      go_ret
      exact ⟨_, _, rfl, ⟨LN.nil_, fun _ _ h => absurd h (by simp)⟩, U3.out⟩
  · have t1 : decide (i < 0) = true := by simpa using h0
    have hp : pickS (L.map Sl.l) i u = ([], fl u 1) := by unfold pickS; rw [if_neg (fun h => h0 h.1)]
    rw [hp]
    clear hp h0
    go_enter Try.func45, Try.ntmps45
    go_wp2_with fail
    refine (fail_any g _ _ 1 _ _ HO.out).mono ?_
    rintro _ w3 ⟨rfl, u3⟩
    have U3 := Lib.hid u3
    clear u3
    go_wp2_with fail
    go_ret
    exact ⟨_, _, rfl, ⟨LN.nil_, fun _ _ h => absurd h (by simp)⟩, U3.out⟩
theorem tcell_snoc {w : World} {base n : Nat} {e : TypeId} {v : Value} {l : List Int} {t : Int} (h : w.ownsRow base e 1 v (n + 1) (l.flatMap tcell ++ [.int .u8 t])) (hn : l.length = n) : w.ownsRow base e 1 v (l ++ [t]).length ((l ++ [t]).flatMap tcell) := by
  subst hn
  simpa [tcell] using h
def colsT (s cols : List Int) : List Int := cols.map (fun i => s.getD i.toNat 0)
theorem at_all {s cols : List Int} {k : Nat} {i : Int} (h : cols[k]? = some i) (hb : inC s i = false) : cols.all (inC s) = false := by
  cases ha : cols.all (inC s) with
  | false => rfl
  | true => rw [List.all_eq_true.1 ha i (List.mem_of_getElem? h)] at hb; cases hb
theorem at_next {s cols : List Int} {k : Nat} {i : Int} (h : cols[k]? = some i) : colsT s (cols.take (k + 1)) = colsT s (cols.take k) ++ [s.getD i.toNat 0] ∧ (cols.take (k + 1)).all (inC s) = ((cols.take k).all (inC s) && inC s i) := by
  unfold colsT; rw [List.take_add_one, h]; simp
set_option maxRecDepth 100000 in
set_option maxHeartbeats 3200000 in
theorem pat_any (A0 : Option Addr) (n0 c0 : Nat) (u : Int) (A : Option Addr) (c : Nat) (s : List Int) (A' : Option Addr) (c' : Nat) (cols : List Int) (g : Nat) (w : World) (hl : TN g w A s) (hc : LN g 1 icell w A' cols) (hn : s.length ≤ maxLen) (hn' : cols.length ≤ 140737488355328) (ho : Own w g 80 (evL u A0 n0 c0)) :
    Calls Try.prog 49 #[.pointer (some ⟨g, 0, none⟩), .slice A s.length c, .slice A' cols.length c'] w fun x w' => ∃ v, x = .returned v ∧ w'.ownsRow w.heap.size 30 1 v (atS s cols u).1.length ((atS s cols u).1.flatMap tcell) ∧ Upd w w' g 80 (evL (atS s cols u).2 A0 n0 c0) := by
  have HO := Lib.hid ho
  have hgi := ho.inside
  have Hl := Lib.hid (And.intro hl hc)
  unfold maxLen at hn
  obtain ⟨i0, hi, hz0, hz1, hz2⟩ := info_parts infoTy
  have HI := Lib.hid (And.intro Try.underlying34 (And.intro hi (And.intro hz0 (And.intro hz1 hz2))))
  clear ho hl hc hi hz0 hz1 hz2
  go_enter Try.func49, Try.ntmps49
  go_wp2_with fail
  go_loopw [7, 12] (fun v i wr => ∃ k : Nat, i = .int .i64 (k : Int) ∧ k ≤ cols.length ∧ (cols.take k).all (inC s) = true ∧ wr.ownsRow w.heap.size 30 1 v (colsT s (cols.take k)).length ((colsT s (cols.take k)).flatMap tcell) ∧ Below w.heap.size w wr)
    (fun _ i _ => cols.length - (intOf i).toNat)
  case atStart => exact ⟨0, rfl, by omega, rfl, World.ownsRow_nil _ _ _ _, Below.refl _ _⟩
  case round =>
    obtain ⟨k, rfl, hk, hall, hown, hb⟩ := hrel
    by_cases hlt : k < cols.length
    · have hx : cols[k]? = some cols[k] := List.getElem?_eq_getElem hlt
      obtain ⟨b, o, rfl, hB, hcc⟩ := (ints_lies.2 Hl.out.2.lies) (by omega)
      have d0 := (hb.cell (p := ⟨b, o + k, none⟩) hB).trans (hcc k _ hx)
      have hnx := at_next (s := s) hx
      have hbad := fun h => at_all (s := s) hx h
      have hln : (colsT s (cols.take k)).length = k := by unfold colsT; rw [List.length_map, List.length_take]; omega
      rw [hln] at hown
      have q0 : (0 : Int) ≤ (k : Int) := by omega
      have q1 : (k : Int) < (cols.length : Int) := by omega
      generalize cols[k] = j at *
      have HH := Lib.hid (And.intro hall (And.intro hown (And.intro hb (And.intro hnx (And.intro hbad hln)))))
      have hszb := hb.size
      clear hall hown hb hnx hbad hx hcc hln
      by_cases h0 : 0 ≤ j
      · obtain ⟨m, rfl⟩ : ∃ m : Nat, j = (m : Int) := ⟨j.toNat, by omega⟩
        have t1 : decide ((m : Int) < 0) = false := by simp
        by_cases h1 : m < s.length
        · have hy : s[m]? = some s[m] := List.getElem?_eq_getElem h1
          have hd : s.getD (m : Int).toNat 0 = s[m] := by rw [Int.toNat_natCast, List.getD_eq_getElem?_getD, hy]; rfl
          have hin : inC s (m : Int) = true := by unfold inC; simp; omega
          obtain ⟨b2, o2, rfl, hB2, hc2⟩ := Hl.out.1.tys (by omega)
          have e0 := (HH.out.2.2.1.cell (p := ⟨b2, o2 + m, none⟩) hB2).trans (hc2 m _ hy)
          have t2 : decide ((s.length : Int) ≤ (m : Int)) = false := by simp; omega
          have r0 : (0 : Int) ≤ (m : Int) := by omega
          have r1 : (m : Int) < (s.length : Int) := by omega
          generalize s[m] = t at *
          have HD := Lib.hid (And.intro hd hin)
          clear hd hin hc2 h0 h1 hy
          go_wp2_with (at_builtin; refine wpList_push _ rfl _ _ 34 rfl w.heap.size 30 i0 _ 1 1 HI.out.1 HI.out.2.1 HI.out.2.2.1 HI.out.2.2.2.1 HI.out.2.2.2.2 rfl (by decide) _ _ _ rfl HH.out.2.1 #[.int .u8 t] rfl rfl ?k1 ?k2 ?k3 ?k4 ?_)
          case k1 => rfl
          case k2 => unfold maxLen; omega
          case k3 => omega
          case k4 => omega
          intro v' w' ho' hb' _ _
          have H3 := Lib.hid (And.intro ho' (HH.out.2.2.1.trans hb'))
          clear ho' hb'
          go_wp2_with fail
          go_roundw
          case rel =>
            refine ⟨k + 1, by go_num, by omega, by rw [HH.out.2.2.2.1.2, HH.out.1, HD.out.2]; rfl, ?_, H3.out.2⟩
            rw [HH.out.2.2.2.1.1, HD.out.1]
            exact tcell_snoc H3.out.1 HH.out.2.2.2.2.2
          case measure => simp [intOf]; omega
        · have t2 : decide (s.length ≤ m) = true := by simp; omega
          have hin : inC s (m : Int) = false := by unfold inC; simp; omega
          have HF := Lib.hid (show atS s cols u = ([], fl u 1) by unfold atS; rw [HH.out.2.2.2.2.1 hin, if_neg (by simp)])
          have HU := Lib.hid ((Upd.same HO.out).pushed (B := w.heap.size) HH.out.2.2.1 (Nat.le_refl _) hgi)
          clear hin h0 h1
          go_wp2_with fail
          refine (fail_any g _ _ 1 _ _ HU.out.own).mono ?_
          rintro _ w3 ⟨rfl, u3⟩
          have U3 := Lib.hid (HU.out.trans u3)
          clear u3
          go_wp2_with fail
          go_ret
          exact ⟨_, rfl, by rw [HF.out]; exact World.ownsRow_nil _ _ _ _, U3.out.as (by rw [HF.out]; rfl)⟩
      · have t1 : decide (j < 0) = true := by simpa using h0
        have hin : inC s j = false := by unfold inC; simp; omega
        have HF := Lib.hid (show atS s cols u = ([], fl u 1) by unfold atS; rw [HH.out.2.2.2.2.1 hin, if_neg (by simp)])
        have HU := Lib.hid ((Upd.same HO.out).pushed (B := w.heap.size) HH.out.2.2.1 (Nat.le_refl _) hgi)
        clear hin h0
        go_wp2_with fail
        refine (fail_any g _ _ 1 _ _ HU.out.own).mono ?_
        rintro _ w3 ⟨rfl, u3⟩
        have U3 := Lib.hid (HU.out.trans u3)
        clear u3
        go_wp2_with fail
        go_ret
        exact ⟨_, rfl, by rw [HF.out]; exact World.ownsRow_nil _ _ _ _, U3.out.as (by rw [HF.out]; rfl)⟩
    · have hk2 : k = cols.length := by omega
      subst hk2
      rw [List.take_length] at hall hown
      have HF := Lib.hid (show atS s cols u = (colsT s cols, u) by unfold atS; rw [if_pos hall]; rfl)
      have HH := Lib.hid (And.intro hown hb)
      clear hall hown hb
      go_wp2_with fail
      go_ret
      exact ⟨_, rfl, by rw [HF.out]; exact HH.out.1, ((Upd.same HO.out).pushed (B := w.heap.size) HH.out.2 (Nat.le_refl _) hgi).as (by rw [HF.out])⟩
end Go.Proofs.Ytjidjpmdmcleoaa
namespace Go.Proofs.Ytjidjpmdmcleoaa
open Go Go.RowKit

def typesT (sch : List Int) (es : List Lx) : List Int := es.map (fun e => (inferE sch e).1)
def typesU (sch : List Int) (es : List Lx) (u : Int) : Int := es.foldl (fun u e => fl u (inferE sch e).2) u
theorem typesS_eq (sch : List Int) (es : List Lx) (u : Int) : typesS sch es u = (typesT sch es, typesU sch es u) := rfl
theorem typesT_next {sch : List Int} {es : List Lx} {k : Nat} {e : Lx} (h : es[k]? = some e) (u : Int) : typesT sch (es.take (k + 1)) = typesT sch (es.take k) ++ [(inferE sch e).1] ∧ typesU sch (es.take (k + 1)) u = fl (typesU sch (es.take k) u) (inferE sch e).2 := by
  unfold typesT typesU; rw [List.take_add_one, h]; simp
/-- the expressions of a plan: where they lie, and that they fit -/
structure EsIn (es : List Lx) (A : Option Addr) (w : World) (g : Nat) : Prop where
  lies : Lies 6 Lx.cells w g A es
  each_ : ∀ e ∈ es, LxOk 17 e ∧ LxIn w g 17 e
  len : es.length ≤ 140737488351232
theorem EsIn.past {es : List Lx} {A : Option Addr} {w w' : World} {g : Nat} (h : EsIn es A w g) (hb : Below g w w') : EsIn es A w' g :=
  ⟨h.lies.past hb (Nat.le_refl _), fun e he => ⟨(h.each_ e he).1, (h.each_ e he).2.past hb (Nat.le_refl _)⟩, h.len⟩
set_option maxRecDepth 100000 in
set_option maxHeartbeats 6400000 in
theorem ptypes_any (A0 : Option Addr) (n0 c0 : Nat) (u : Int) (eA : Option Addr) (ec : Nat) (es : List Lx) (A : Option Addr) (c : Nat) (s : List Int) (g : Nat) (w : World) (hE : EsIn es eA w g) (hl : TN g w A s) (hn : s.length ≤ maxLen) (ho : Own w g 80 (evL u A0 n0 c0)) :
    Calls Try.prog 48 #[.pointer (some ⟨g, 0, none⟩), .slice eA es.length ec, .slice A s.length c] w fun x w' => ∃ A' c', x = .returned (.slice A' (typesS s es u).1.length c') ∧ (TN g w' A' (typesS s es u).1 ∧ ∀ b o, A' = some ⟨b, o, none⟩ → w.heap.size ≤ b) ∧ Upd w w' g 80 (evL (shortU (typesS s es u).1 (typesS s es u).2) A0 n0 c0) := by
  rw [typesS_eq]
  have HO := Lib.hid ho
  have hgi := ho.inside
  have HL := Lib.hid (And.intro hE hl)
  have hel := hE.len
  have Hn := Lib.hid hn
  obtain ⟨i0, hi, hz0, hz1, hz2⟩ := info_parts infoTy
  have HI := Lib.hid (And.intro Try.underlying34 (And.intro hi (And.intro hz0 (And.intro hz1 hz2))))
  clear ho hl hE hn hi hz0 hz1 hz2
  go_enter Try.func48, Try.ntmps48
  go_wp2_with fail
  go_loopw [7, 14] (fun v i wr => ∃ k : Nat, i = .int .i64 (k : Int) ∧ k ≤ es.length ∧ wr.ownsRow w.heap.size 30 1 v (typesT s (es.take k)).length ((typesT s (es.take k)).flatMap tcell) ∧ Upd w wr g 80 (evL (typesU s (es.take k) u) A0 n0 c0))
    (fun _ i _ => es.length - (intOf i).toNat)
  case atStart => exact ⟨0, rfl, by omega, World.ownsRow_nil _ _ _ _, Upd.same HO.out⟩
  case round =>
    obtain ⟨k, rfl, hk, hown, hu⟩ := hrel
    by_cases hlt : k < es.length
    · have hx : es[k]? = some es[k] := List.getElem?_eq_getElem hlt
      obtain ⟨b, o, rfl, hB, hxs⟩ := lies_lx HL.out.1.lies (by omega)
      have hbw := hu.below (Nat.le_refl _) (Nat.le_of_lt hgi)
      have hxa := (hxs k _ hx).past hbw hB
      have hxe := HL.out.1.each_ _ (List.mem_of_getElem? hx)
      have hnx := typesT_next (sch := s) hx u
      have hln : (typesT s (es.take k)).length = k := by unfold typesT; rw [List.length_map, List.length_take]; omega
      rw [hln] at hown
      obtain ⟨a0, a1, a2, a3, a4, a5⟩ := hxa.six
      obtain ⟨W, hW, fb, hsz, fx⟩ := lxbox wr es[k]
      have hgw := hu.own.inside
      have hsw := hu.grow.size
      have hty := ((HL.out.2.next hu.grow).more fb).tys
      have hcall := Lib.hid (inferE_any es[k] A c s W hxe.1 (((hxe.2.past hbw (Nat.le_refl _)).past (fb.mono (by omega)) (Nat.le_refl _)).wide (by omega)) hty Hn.out)
      have hsix := (lxAt_own fx).six
      simp only [Nat.zero_add] at hsix
      obtain ⟨x0, x1, x2, x3, x4, x5⟩ := hsix
      generalize es[k] = e at *
      generalize inferE s e = R at *
      obtain ⟨rt, ru⟩ := R
      have HX := Lib.hid (And.intro (hu.quiet fb) (And.intro (own_below hown fb) (And.intro hnx hln)))
      unfold Lx.val at hcall
      have q0 : (0 : Int) ≤ (k : Int) := by omega
      have q1 : (k : Int) < (es.length : Int) := by omega
      clear hu hx hxs hbw hxa hxe hnx hln fb hsz fx hown hty
      go_upto_region 5 with fail
      rw [← hW]
      clear hW
      go_wp2_with fail
      refine hcall.out.mono ?_
      rintro _ w2 ⟨rfl, b2⟩
      have H2 := Lib.hid (And.intro (HX.out.1.quiet b2) (own_below HX.out.2.1 b2))
      have hgw2 := H2.out.1.own.inside
      clear b2 x0 x1 x2 x3 x4 x5 a0 a1 a2 a3 a4 a5
      go_wp2_with fail
      refine (fail_any g _ _ ru _ _ H2.out.1.own).mono ?_
      rintro _ w3 ⟨rfl, u3⟩
      have hk3 := H2.out.2.kept u3.grow (not_block H2.out.2 (by omega))
      have H3 := Lib.hid (And.intro (H2.out.1.trans u3) hk3)
      have hsz3 := (H2.out.1.trans u3).grow.size
      clear u3 hk3
      go_wp2_with (at_builtin; refine wpList_push _ rfl _ _ 34 rfl w.heap.size 30 i0 _ 1 1 HI.out.1 HI.out.2.1 HI.out.2.2.1 HI.out.2.2.2.1 HI.out.2.2.2.2 rfl (by decide) _ _ _ rfl H3.out.2 #[.int .u8 rt] rfl rfl ?k1 ?k2 ?k3 ?k4 ?_)
      case k1 => rfl
      case k2 => unfold maxLen; omega
      case k3 => omega
      case k4 => omega
      intro v' w' ho' hb' _ _
      have H4 := Lib.hid (And.intro ho' (H3.out.1.pushed hb' (Nat.le_refl _) (by omega)))
      clear ho' hb'
      go_wp2_with fail
      go_roundw
      case rel =>
        refine ⟨k + 1, by go_num, by omega, ?_, H4.out.2.as (by rw [HX.out.2.2.1.2]; rfl)⟩
        rw [HX.out.2.2.1.1]
        exact tcell_snoc H4.out.1 HX.out.2.2.2
      case measure => simp [intOf]; omega
    · have hk2 : k = es.length := by omega
      subst hk2
      rw [List.take_length] at hown hu
      obtain ⟨A', c', rfl, hc', ht⟩ := tn_of_own rfl hown hgi
      have hlen : (typesT s es).length ≤ maxLen := by unfold typesT maxLen; rw [List.length_map]; omega
      have HH := Lib.hid (And.intro hu ht)
      have HC := Lib.hid hc'
      have hsh := Lib.hid (short_any A0 n0 c0 _ A' c' (typesT s es) g wr hlen hu.own)
      clear hown hu ht hc'
      go_wp2_with fail
      refine hsh.out.mono ?_
      rintro _ w3 ⟨rfl, u3⟩
      have H3 := Lib.hid (And.intro (HH.out.1.trans u3) (HH.out.2.next u3.grow))
      clear u3
      go_wp2_with fail
      go_ret
      exact ⟨_, _, rfl, ⟨H3.out.2, HC.out⟩, H3.out.1⟩
theorem own_made1 {w : World} {base g n : Nat} {e : TypeId} {xs : List Value} (h : w.ownsRow base e 1 (.slice (some ⟨g, 0, none⟩) n n) n xs) : Own w g e xs := by
  rcases h.2 with ⟨h0, _⟩ | ⟨g', cap, cur, hv, hb, hg, h1, h2, h3, h4⟩
  · cases h0
  · simp only [Value.slice.injEq, Option.some.injEq, Addr.mk.injEq, and_true] at hv
    obtain ⟨rfl, _, rfl⟩ := hv
    rw [List.take_of_length_le (by rw [Array.length_toList, h3]; exact Nat.le_refl _)] at h4
    subst h4
    unfold Own
    rw [hg]
set_option maxRecDepth 100000 in
set_option maxHeartbeats 3200000 in
theorem listT_any (A : Option Addr) (c : Nat) (l : List Int) (w : World) (hl : Tys w w.heap.size A l) (hn : l.length ≤ 140737488351232) :
    Calls Try.prog 33 #[.slice A l.length c] w fun x w' => ∃ A' c', x = .returned (.slice A' l.length c') ∧ Tys w' w'.heap.size A' l ∧ Below w.heap.size w w' := by
  obtain ⟨i0, hi, hz0, hz1, hz2⟩ := info_parts infoTy
  have hU := Try.underlying34
  have hsz1 : (Try.prog.info? 30).map (·.size) = some 1 := by rw [hi]; simp [hz1]
  cases l with
  | nil =>
    clear hl hn hi hz0 hz1 hz2 hU hsz1
    go_enter Try.func33, Try.ntmps33
    go_wp2_with fail
    go_ret
    exact ⟨_, _, rfl, fun h => absurd h (by simp), Below.refl _ _⟩
  | cons t l =>
    obtain ⟨b, o, rfl, hB, hc⟩ := hl (by simp)
    obtain ⟨n, hn1⟩ : ∃ n, n = (t :: l).length := ⟨_, rfl⟩
    have hpos : 0 < n := by rw [hn1]; simp
    rw [← hn1] at hn ⊢
    have t1 : ((n : Int) == 0) = false := by simp; omega
    have HC := Lib.hid (And.intro hc hn1)
    clear hc hn1 hl
    go_enter Try.func33, Try.ntmps33
    go_wp2_with (refine wpList_make_full _ rfl (.tmp 8) (.tmp 8) 34 rfl w.heap.size 30 i0 _ 1 hU hi hz0 hz1 .i64 .i64 _ _ n rfl rfl rfl rfl ?c1 ?c2 ?c3 ?_)
    case c1 => rw [hz2]; omega
    case c2 => unfold maxLen; omega
    case c3 => exact Nat.le_refl _
    intro w1 ho1 hg1
    obtain ⟨cur, ho1⟩ : ∃ cur, w1.ownsRow w.heap.size 30 1 (.slice (some ⟨w.heap.size, 0, none⟩) n n) n cur := ⟨_, ho1⟩
    have hm1 := own_made1 ho1
    have hb1 : Below w.heap.size w w1 := (Below.refl _ _).grown hg1 (Nat.le_refl _) (fun k h => by cases h)
    have hlen1 : cur.length = n := by have := ho1.1; omega
    have hpos' : 0 < ((t :: l).map cellT).length → some (⟨w.heap.size, 0, none⟩ : Addr) = some ⟨w.heap.size, 0, none⟩ ∧ ∃ ad, some (⟨b, o, none⟩ : Addr) = some ad ∧ ∀ j v, ((t :: l).map cellT)[j]? = some v → w1.cell? (ad.add j) = some v := fun _ => ⟨rfl, _, rfl, fun j v hv => by
      rw [List.getElem?_map] at hv
      obtain ⟨x, hx, rfl⟩ := Option.map_eq_some_iff.1 hv
      have ea : (⟨b, o, none⟩ : Addr).add j = ⟨b, o + j, none⟩ := by unfold Addr.add; split <;> simp_all
      rw [ea]
      exact (hb1.cell (p := ⟨b, o + j, none⟩) hB).trans (HC.out.1 j x hx)⟩
    have hcs : ((t :: l).map cellT).length = Nat.min n n := by rw [List.length_map, ← HC.out.2]; exact (Nat.min_self n).symm
    have hcl : ((t :: l).map cellT).length = n := by rw [hcs]; exact Nat.min_self n
    have H1 := Lib.hid (And.intro hm1 (And.intro hb1 (And.intro hlen1 (And.intro hpos' (And.intro hcs hcl)))))
    obtain ⟨cs, hcse⟩ : ∃ cs, cs = (t :: l).map cellT := ⟨_, rfl⟩
    rw [← hcse] at H1
    have HE := Lib.hid hcse
    clear hm1 hb1 hlen1 hpos' hcs hcl ho1 hg1 hcse
    have hf1 : Hid (0 + cs.length ≤ cur.length) := Lib.hid (by rw [H1.out.2.2.2.2.2, H1.out.2.2.1]; omega)
    have hf2 : Hid (∀ v ∈ cs, v.oneCell' = true) := Lib.hid (by intro v hv; rw [HE.out] at hv; obtain ⟨x, _, rfl⟩ := List.mem_map.1 hv; rfl)
    have hU2 := Lib.hid hU
    have hs2 := Lib.hid hsz1
    clear hU hsz1 hi hz0 hz1 hz2
    go_wp2_with (refine wpList_copy_splice rfl (.tmp 10) (.tmp 11) 34 34 rfl 30 hU2.out hs2.out (some ⟨w.heap.size, 0, none⟩) (some ⟨b, o, none⟩) n n n c rfl rfl w.heap.size 0 cur 30 H1.out.1 cs H1.out.2.2.2.2.1 H1.out.2.2.2.1 hf1.out hf2.out w.heap.size w H1.out.2.1 (Nat.le_refl _) ?_)
    intro w2 hw2 hb2
    have H2 := Lib.hid (And.intro hw2 hb2)
    clear hw2 hb2
    go_wp2_with fail
    go_ret
    have hsp : splice cur 0 cs = cs := by
      unfold splice
      rw [List.take_zero, List.nil_append, Nat.zero_add, H1.out.2.2.2.2.2, ← H1.out.2.2.1, List.drop_length, List.append_nil]
    have ho2 : Own w2 w.heap.size 30 ((t :: l).map cellT) := by
      have := H2.out.1.out
      rw [hsp, HE.out] at this
      exact this
    refine ⟨_, _, rfl, fun _ => ⟨w.heap.size, 0, rfl, ho2.inside, fun i x hx => ?_⟩, H2.out.2⟩
    rw [Nat.zero_add, ho2.at_ i, List.getElem?_map, hx]
    rfl
end Go.Proofs.Ytjidjpmdmcleoaa
namespace Go.Proofs.Ytjidjpmdmcleoaa
open Go Go.RowKit

theorem redS_1 {p : Px} (h : p.agg = 1) (s : List Int) (u : Int) : redS p s u = ((atS s p.cols u).1 ++ [1], shortU ((atS s p.cols u).1 ++ [1]) (atS s p.cols u).2) := by unfold redS; simp only [if_pos h]
theorem redS_5 {p : Px} (h : p.agg = 5) (s : List Int) (u : Int) : redS p s u = (s, if p.n < 1 ∨ p.n > 8 then fl (atS s p.cols u).2 1 else (atS s p.cols u).2) := by unfold redS; simp only [if_neg (show ¬ p.agg = 1 by omega), if_pos h]
theorem redS_2 {p : Px} (h : p.agg = 2) (s : List Int) (u : Int) : redS p s u = ((atS s p.cols u).1 ++ (atS s [p.n] (atS s p.cols u).2).1, shortU ((atS s p.cols u).1 ++ (atS s [p.n] (atS s p.cols u).2).1) (sameS [1] (atS s [p.n] (atS s p.cols u).2).1 (atS s [p.n] (atS s p.cols u).2).2)) := by
  unfold redS; simp only [if_neg (show ¬ p.agg = 1 by omega), if_neg (show ¬ p.agg = 5 by omega), if_pos h]
theorem redS_0 {p : Px} (h1 : p.agg ≠ 1) (h5 : p.agg ≠ 5) (h2 : p.agg ≠ 2) (s : List Int) (u : Int) : redS p s u = ((atS s p.cols u).1 ++ (atS s [p.n] (atS s p.cols u).2).1, shortU ((atS s p.cols u).1 ++ (atS s [p.n] (atS s p.cols u).2).1) (atS s [p.n] (atS s p.cols u).2).2) := by
  unfold redS; simp only [if_neg h1, if_neg h5, if_neg h2]
theorem ints_one {w : World} {N : Nat} {t : TypeId} (a : Int) (hN : w.heap.size = N) : Lies 1 icell (w.alloc (.cells #[.int .i64 a] t)) (w.alloc (.cells #[.int .i64 a] t)).heap.size (some ⟨N, 0, none⟩) [a] := ints_lies.1 fun _ => by
  subst hN
  refine ⟨_, _, rfl, by simp, fun i x hx => ?_⟩
  match i, hx with
  | 0, hx => obtain rfl : a = x := by simpa using hx
             exact (Own.made w t [.int .i64 a]).at_ 0
theorem tys_one {w : World} {N : Nat} {t : TypeId} (a : Int) (hN : w.heap.size = N) : Tys (w.alloc (.cells #[.int .u8 a] t)) (w.alloc (.cells #[.int .u8 a] t)).heap.size (some ⟨N, 0, none⟩) [a] := fun _ => by
  subst hN
  refine ⟨_, _, rfl, by simp, fun i x hx => ?_⟩
  match i, hx with
  | 0, hx => obtain rfl : a = x := by simpa using hx
             exact (Own.made w t [.int .u8 a]).at_ 0
def RedPost (A : Option Addr) (p : Px) (s : List Int) (u : Int) (A0 : Option Addr) (n0 c0 g : Nat) (w : World) (x : Ending) (w' : World) : Prop :=
  ∃ A' c', x = .returned (.slice A' (redS p s u).1.length c') ∧ (TN g w' A' (redS p s u).1 ∧ ∀ b o, A' = some ⟨b, o, none⟩ → (A' = A ∧ (redS p s u).1 = s) ∨ w.heap.size ≤ b) ∧ Upd w w' g 80 (evL (redS p s u).2 A0 n0 c0)
theorem redPost_of {A : Option Addr} {p : Px} {s : List Int} {u : Int} {A0 : Option Addr} {n0 c0 g : Nat} {w w' : World} {r : List Int × Int} (he : redS p s u = r) {A' : Option Addr} {n c' : Nat} (hn : n = r.1.length) (ht : TN g w' A' r.1) (hb : ∀ b o, A' = some ⟨b, o, none⟩ → (A' = A ∧ r.1 = s) ∨ w.heap.size ≤ b) (hu : Upd w w' g 80 (evL r.2 A0 n0 c0)) : RedPost A p s u A0 n0 c0 g w (.returned (.slice A' n c')) w' := by
  subst he hn; exact ⟨_, _, rfl, ⟨ht, hb⟩, hu⟩
set_option maxRecDepth 100000 in
set_option maxHeartbeats 6400000 in
theorem preduce_any (A0 : Option Addr) (n0 c0 : Nat) (u : Int) (p : Px) (b o : Nat) (A : Option Addr) (c : Nat) (s : List Int) (g : Nat) (w : World) (hat : PAt w b o p) (hbg : b < g) (hc : Ints w g p.cA p.cols) (hl : TN g w A s) (hn : s.length ≤ maxLen) (hcl : p.cols.length ≤ 140737488351232) (ho : Own w g 80 (evL u A0 n0 c0)) :
    Calls Try.prog 52 #[.pointer (some ⟨g, 0, none⟩), .pointer (some ⟨b, o, none⟩), .slice A s.length c] w (RedPost A p s u A0 n0 c0 g w) := by
  have hgi := ho.inside
  have hat1 := Lib.hid (pat_any A0 n0 c0 u A c s p.cA p.cc p.cols g w hl (LN.of_lies (ints_lies.1 hc) (by omega)) hn (by omega) ho)
  have hal := atS_len s p.cols u
  obtain ⟨e0, e1, e2, e3, e4, e5, e6, e7⟩ := hat.eight
  have HH := Lib.hid (And.intro hat (And.intro hl hn))
  obtain ⟨i0, hi, hz0, hz1, hz2⟩ := info_parts infoTy
  have HI := Lib.hid (And.intro Try.underlying34 (And.intro hi (And.intro hz0 (And.intro hz1 hz2))))
  have R1 := fun h => Lib.hid (redS_1 (p := p) h s u)
  have R5 := fun h => Lib.hid (redS_5 (p := p) h s u)
  have R2 := fun h => Lib.hid (redS_2 (p := p) h s u)
  have R0 := fun h1 h5 h2 => Lib.hid (redS_0 (p := p) h1 h5 h2 s u)
  clear hat hc hl hn ho hi hz0 hz1 hz2
  generalize atS s p.cols u = a at *
  obtain ⟨al, au⟩ := a
  dsimp only at *
  go_enter Try.func52, Try.ntmps52
  go_wp2_with fail
  refine hat1.out.mono ?_
  rintro _ w1 ⟨v1, rfl, o1, u1⟩
  have hat2 := HH.out.1.past (u1.below (Nat.le_refl _) (Nat.le_of_lt hgi)) hbg
  have H1 := Lib.hid (And.intro o1 (And.intro u1 hat2))
  have hs1 := u1.grow.size
  have hg1 := u1.own.inside
  obtain ⟨e0, e1, e2, e3, e4, e5, e6, e7⟩ := hat2.eight
  clear o1 u1 hat2 hat1
  by_cases h1 : p.agg = 1
  · have R1 := R1 h1
    rw [h1] at e6
    clear h1 R5 R2 R0
    go_wp2_with (at_builtin; refine wpList_push _ rfl _ _ 34 rfl w.heap.size 30 i0 _ 1 1 HI.out.1 HI.out.2.1 HI.out.2.2.1 HI.out.2.2.2.1 HI.out.2.2.2.2 rfl (by decide) _ _ _ rfl H1.out.1 #[.int .u8 1] rfl rfl ?k1 ?k2 ?k3 ?k4 ?_)
    case k1 => rfl
    case k2 => unfold maxLen; omega
    case k3 => omega
    case k4 => omega
    intro v' w' ho' hb' _ _
    have ho2 := tcell_snoc ho' rfl
    obtain ⟨A', c', rfl, hc', ht⟩ := tn_of_own rfl ho2 hgi
    have hU := H1.out.2.1.pushed hb' (Nat.le_refl _) (by omega)
    have hsh := Lib.hid (short_any A0 n0 c0 au A' c' (al ++ [1]) g w' (by rw [List.length_append]; unfold maxLen; simp; omega) hU.own)
    have H3 := Lib.hid (And.intro ht hU)
    obtain ⟨L, hL⟩ : ∃ L, L = al ++ [1] := ⟨_, rfl⟩
    rw [← hL] at hsh H3 R1 ⊢
    have HC := Lib.hid hc'
    clear ho' hb' ho2 ht hU hL hc'
    go_wp2_with fail
    refine hsh.out.mono ?_
    rintro _ w3 ⟨rfl, u3⟩
    have H4 := Lib.hid (And.intro (H3.out.1.next u3.grow) (H3.out.2.trans u3))
    clear u3
    go_wp2_with fail
    go_ret
    exact redPost_of R1.out rfl H4.out.1 (fun b o h => .inr (HC.out b o h)) H4.out.2
  · have t1 : (p.agg == 1) = false := by simpa using h1
    by_cases h5 : p.agg = 5
    · have R5 := R5 h5
      rw [h5] at e6
      clear h1 h5 t1 R1 R2 R0
      by_cases hlo : p.n < 1
      · have t2 : decide (p.n < 1) = true := by simpa using hlo
        rw [if_pos (.inl hlo)] at R5
        clear hlo
        go_wp2_with fail
        refine (fail_any g _ _ 1 _ _ H1.out.2.1.own).mono ?_
        rintro _ w3 ⟨rfl, u3⟩
        have H3 := Lib.hid (H1.out.2.1.trans u3)
        clear u3
        go_wp2_with fail
        go_ret
        exact redPost_of R5.out rfl (HH.out.2.1.next H3.out.grow) (fun _ _ _ => .inl ⟨rfl, rfl⟩) H3.out
      · have t2 : decide (p.n < 1) = false := by simpa using hlo
        by_cases hhi : p.n > 8
        · have t3 : decide (8 < p.n) = true := by simpa using hhi
          rw [if_pos (.inr hhi)] at R5
          clear hlo hhi
          go_wp2_with fail
          refine (fail_any g _ _ 1 _ _ H1.out.2.1.own).mono ?_
          rintro _ w3 ⟨rfl, u3⟩
          have H3 := Lib.hid (H1.out.2.1.trans u3)
          clear u3
          go_wp2_with fail
          go_ret
          exact redPost_of R5.out rfl (HH.out.2.1.next H3.out.grow) (fun _ _ _ => .inl ⟨rfl, rfl⟩) H3.out
        · have t3 : decide (8 < p.n) = false := by simpa using hhi
          rw [if_neg (by rintro (h | h); exact hlo h; exact hhi h)] at R5
          clear hlo hhi
          go_wp2_with fail
          go_ret
          exact redPost_of R5.out rfl (HH.out.2.1.next H1.out.2.1.grow) (fun _ _ _ => .inl ⟨rfl, rfl⟩) H1.out.2.1
    · have t5 : (p.agg == 5) = false := by simpa using h5
      clear R1 R5
      have hat3 := fun V h1 h2 h3 => Lib.hid (pat_any A0 n0 c0 au A c s (some ⟨w1.heap.size, 0, none⟩) 1 [p.n] g V h1 h2 HH.out.2.2 (by simp) h3)
      obtain ⟨B0, hB0⟩ : ∃ B0, atS s [p.n] au = B0 := ⟨_, rfl⟩
      rw [hB0] at hat3 R2 R0
      have HB0 := Lib.hid hB0
      obtain ⟨bl, bu⟩ := B0
      dsimp only at hat3 R2 R0
      obtain ⟨V, hV⟩ : ∃ V, V = w1.alloc (.cells #[.int .i64 p.n] 3) := ⟨_, rfl⟩
      have hvb : Below w1.heap.size w1 V := by rw [hV]; exact (Below.refl _ _).alloc (Nat.le_refl _) _
      have hvi : LN g 1 icell V (some ⟨w1.heap.size, 0, none⟩) [p.n] := by
        rw [hV]
        exact ⟨ints_one p.n rfl, fun _ b' o' h => by simp only [Option.some.injEq, Addr.mk.injEq] at h; omega⟩
      have hcall := hat3 V ((HH.out.2.1.next H1.out.2.1.grow).more hvb) hvi (H1.out.2.1.quiet hvb).own
      have HV := Lib.hid (And.intro hvb (H1.out.2.1.quiet hvb))
      have hgV := (H1.out.2.1.quiet hvb).own.inside
      clear hvb hvi hat3
      go_wp2_with fail
      rw [← hV]
      clear hV
      refine hcall.out.mono ?_
      rintro _ w2 ⟨v2, rfl, o2, u2⟩
      obtain ⟨A2, c2, rfl, hc2, ht2⟩ := tn_of_own rfl o2 hgV
      have hU2 := HV.out.2.trans u2
      have hk2 := (own_below H1.out.1 HV.out.1).kept u2.grow (not_block (own_below H1.out.1 HV.out.1) (by omega))
      have hp2 := HH.out.1.past (hU2.below (Nat.le_refl _) (Nat.le_of_lt hgi)) hbg
      have H2 := Lib.hid (And.intro hU2 (And.intro hk2 ht2))
      have hs2 := hU2.grow.size
      have hg2 := hU2.own.inside
      clear e0 e1 e2 e3 e4 e5 e6 e7
      obtain ⟨e0, e1, e2, e3, e4, e5, e6, e7⟩ := hp2.eight
      clear o2 u2 hU2 hk2 ht2 hp2 hcall hB0
      have hB0 := HB0.out
      by_cases h2 : p.agg = 2
      · have R2 := R2 h2
        rw [h2] at e6
        clear h1 h5 h2 t1 t5 R0
        obtain ⟨V2, hV2⟩ : ∃ V, V = w2.alloc (.cells #[.int .u8 1] 30) := ⟨_, rfl⟩
        have hvb : Below w2.heap.size w2 V2 := by rw [hV2]; exact (Below.refl _ _).alloc (Nat.le_refl _) _
        have hvt : Tys V2 V2.heap.size (some ⟨w2.heap.size, 0, none⟩) [1] := by rw [hV2]; exact tys_one 1 rfl
        have hbl := atS_len s [p.n] au
        rw [hB0] at hbl
        have hcall := Lib.hid (psame_any A0 n0 c0 bu (some ⟨w2.heap.size, 0, none⟩) A2 1 c2 [1] bl g V2 hvt (H2.out.2.2.more hvb).tys (by unfold maxLen; simp) (by unfold maxLen; simp at hbl; omega) (H2.out.1.quiet hvb).own)
        have HV2 := Lib.hid (And.intro (H2.out.1.quiet hvb) (And.intro (own_below H2.out.2.1 hvb) (H2.out.2.2.more hvb)))
        clear hvb hvt hbl hB0
        go_wp2_with fail
        rw [← hV2]
        clear hV2
        refine hcall.out.mono ?_
        rintro _ w7 ⟨rfl, u7⟩
        have H7 := Lib.hid (And.intro (HV2.out.2.1.kept u7.grow (not_block HV2.out.2.1 (by omega))) (And.intro (HV2.out.1.trans u7) (HV2.out.2.2.next u7.grow)))
        clear u7 hcall
        have hB0 := HB0.out
        have hof := H7.out.2.2
        have hlen := atS_len s [p.n] au
        rw [hB0] at hlen
        have H8 := Lib.hid (And.intro H7.out.1 (And.intro H7.out.2.1 hof))
        have hsz8 := (H7.out.2.1).grow.size
        clear hof
        go_wp2_with (at_builtin; refine wpList_append_lies _ rfl _ _ 34 30 rfl i0 _ 1 HI.out.1 HI.out.2.1 HI.out.2.2.1 HI.out.2.2.2.1 HI.out.2.2.2.2 rfl (by decide) tcell_len tcell_one w.heap.size _ _ _ rfl H8.out.1 _ rfl H8.out.2.2.lies ?m1 ?m2 ?m3 ?_)
        case m1 => unfold maxLen; simp at hlen; omega
        case m2 => simp at hlen; omega
        case m3 => omega
        intro v' w' ho' hb'
        have ho9 : w'.ownsRow w.heap.size 30 1 v' (al ++ bl).length ((al ++ bl).flatMap tcell) := by rw [List.length_append, List.flatMap_append]; exact ho'
        obtain ⟨A', c', rfl, hc', ht⟩ := tn_of_own rfl ho9 hgi
        have hU := H8.out.2.1.pushed hb' (Nat.le_refl _) (by omega)
        have hsh := Lib.hid (short_any A0 n0 c0 _ A' c' (al ++ bl) g w' (by rw [List.length_append]; unfold maxLen; simp at hlen; omega) hU.own)
        have H9 := Lib.hid (And.intro ht hU)
        obtain ⟨L, hL⟩ : ∃ L, L = al ++ bl := ⟨_, rfl⟩
        rw [← hL] at hsh H9 R2 ⊢
        have HC := Lib.hid hc'
        clear ho' hb' ho9 ht hU hL hc'
        go_wp2_with fail
        refine hsh.out.mono ?_
        rintro _ w3 ⟨rfl, u3⟩
        have H10 := Lib.hid (And.intro (H9.out.1.next u3.grow) (H9.out.2.trans u3))
        clear u3
        go_wp2_with fail
        go_ret
        exact redPost_of R2.out rfl H10.out.1 (fun b o h => .inr (HC.out b o h)) H10.out.2
      · have R0 := R0 h1 h5 h2
        have t2 : (p.agg == 2) = false := by simpa using h2
        clear h1 h5 h2 R2
        have hof := H2.out.2.2
        have hlen := atS_len s [p.n] au
        rw [hB0] at hlen
        have H8 := Lib.hid (And.intro H2.out.2.1 (And.intro H2.out.1 hof))
        have hsz8 := (H2.out.1).grow.size
        clear hof
        go_wp2_with (at_builtin; refine wpList_append_lies _ rfl _ _ 34 30 rfl i0 _ 1 HI.out.1 HI.out.2.1 HI.out.2.2.1 HI.out.2.2.2.1 HI.out.2.2.2.2 rfl (by decide) tcell_len tcell_one w.heap.size _ _ _ rfl H8.out.1 _ rfl H8.out.2.2.lies ?m1 ?m2 ?m3 ?_)
        case m1 => unfold maxLen; simp at hlen; omega
        case m2 => simp at hlen; omega
        case m3 => omega
        intro v' w' ho' hb'
        have ho9 : w'.ownsRow w.heap.size 30 1 v' (al ++ bl).length ((al ++ bl).flatMap tcell) := by rw [List.length_append, List.flatMap_append]; exact ho'
        obtain ⟨A', c', rfl, hc', ht⟩ := tn_of_own rfl ho9 hgi
        have hU := H8.out.2.1.pushed hb' (Nat.le_refl _) (by omega)
        have hsh := Lib.hid (short_any A0 n0 c0 _ A' c' (al ++ bl) g w' (by rw [List.length_append]; unfold maxLen; simp at hlen; omega) hU.own)
        have H9 := Lib.hid (And.intro ht hU)
        obtain ⟨L, hL⟩ : ∃ L, L = al ++ bl := ⟨_, rfl⟩
        rw [← hL] at hsh H9 R0 ⊢
        have HC := Lib.hid hc'
        clear ho' hb' ho9 ht hU hL hc'
        go_wp2_with fail
        refine hsh.out.mono ?_
        rintro _ w3 ⟨rfl, u3⟩
        have H10 := Lib.hid (And.intro (H9.out.1.next u3.grow) (H9.out.2.trans u3))
        clear u3
        go_wp2_with fail
        go_ret
        exact redPost_of R0.out rfl H10.out.1 (fun b o h => .inr (HC.out b o h)) H10.out.2
end Go.Proofs.Ytjidjpmdmcleoaa
