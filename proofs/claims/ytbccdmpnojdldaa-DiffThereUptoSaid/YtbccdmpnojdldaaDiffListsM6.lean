/- Part 6 of the texts on which DiffLists rests: facts and contracts. -/
import Derived.Test.YtbccdmpnojdldaaDiffListsM5
import Derived.Test.YtbccdmpnojdldaaRows
import Derived.WalkKit
import Derived.ProofKit
import Derived.OpenShut
import Derived.JoinedCond
import Derived.Carry
import Derived.ChangeArms
import Derived.Deep.Slices
import Derived.SizedLaws
namespace Go.Proofs.Ytbccdmpnojdldaa
open Go Go.RowKit

theorem same_ups (A A' : Option Addr) (c c' : Nat) (l m : List Up) (w : World) (hl : Ups w w.heap.size A l) (hm : Ups w w.heap.size A' m) (hol : ∀ u ∈ l, UOk u) (hom : ∀ u ∈ m, UOk u) (hn : l.length ≤ 1099511627776) (hn' : m.length ≤ 1099511627776) (h : l.map Up.p = m.map Up.p) :
    Calls Try.prog 8 #[.slice A l.length c, .slice A' m.length c'] w fun x w' => x = .returned (.bool true) ∧ Below w.heap.size w w' :=
  (sameU_any A A' c c' l m w hl hm hol hom hn hn').mono fun x w' ⟨b, h1, h2, h3⟩ => ⟨by rw [h1, h2.2 h], h3⟩
theorem tells_bool {p : Prop} {B : Bool} {w : World} {x : Ending} {w' : World} (hB : B = true ↔ p) (h : Tells p w x w') : x = .returned (.bool B) ∧ Below w.heap.size w w' := by
  obtain ⟨b, h1, h2, h3⟩ := h
  have : b = B := by cases b <;> cases B <;> simp_all
  exact ⟨by rw [h1, this], h3⟩
theorem bool_for (p : Prop) : ∃ B : Bool, B = true ↔ p := by
  by_cases h : p
  · exact ⟨true, by simpa using h⟩
  · exact ⟨false, by simpa using h⟩
set_option maxRecDepth 100000 in
set_option maxHeartbeats 12800000 in
theorem lists_walk (A : Option Addr) (c : Nat) (L : List (Rw Up)) (w : World) (hl : ULs w w.heap.size A L) (hok : ∀ s ∈ L, ∀ u ∈ s.l, UOk u) (hn : (flatR L).length ≤ 1048576) (hn2 : L.length ≤ 1048576) :
    Calls Try.prog 3 #[.slice A L.length c] w fun e w' => e = .returned (.bool true) ∧ Below w.heap.size w w' := by
  have y0 := fun W => Lib.hid (lists_true W)
  have z1 := Lib.hid (consolidate_any A c L w hl hok (by omega) (by omega))
  have z2 := fun W (hb : Below w.heap.size w W) => Lib.hid (rcons_any A c L W (hl.keep hb) hok hn hn2)
  have hcl := consL_len (L.map Rw.l)
  have hfl : (L.map Rw.l).flatten.length = (flatR L).length := by rw [flatR_flat]
  rw [hfl] at hcl
  have HL := Lib.hid (And.intro hl hok)
  obtain ⟨RL, hRL⟩ : ∃ RL, consL (L.map Rw.l) = RL := ⟨_, rfl⟩
  obtain ⟨RE, hRE⟩ : ∃ RE, consE (L.map Rw.l) = RE := ⟨_, rfl⟩
  rw [hRL] at z1 z2 hcl
  rw [hRE] at z1 z2
  clear hl hok hRL hRE hfl
  go_enter Try.func3, Try.ntmps3
  go_wp2_with fail
  refine z1.out.mono ?_
  rintro _ w1 ⟨A1, c1, l1, rfl, hp1, hu1, ok1, b1⟩
  have hl1 : l1.length ≤ 1048576 := by have := congrArg List.length hp1; rw [List.length_map] at this; omega
  have H1 := Lib.hid (And.intro hp1 (And.intro hu1 (And.intro ok1 b1)))
  clear hp1 hu1 ok1 b1
  go_wp2_with fail
  refine (z2 _ H1.out.2.2.2).out.mono ?_
  rintro _ w2 ⟨A2, c2, l2, rfl, hp2, hu2, ok2, b2⟩
  have hl2 : l2.length ≤ 1048576 := by have := congrArg List.length hp2; rw [List.length_map] at this; omega
  have H2 := Lib.hid (And.intro (hp2.trans H1.out.1.symm) (And.intro hu2 (And.intro ok2 (And.intro (belows H1.out.2.2.2 b2) (H1.out.2.1.keep b2)))))
  clear hp2 hu2 ok2 b2
  go_wp2_with fail
  refine (y0 _).out.mono ?_
  rintro _ w3 ⟨rfl, b3⟩
  have z3 := Lib.hid (same_ups A1 A2 c1 c2 l1 l2 w3 (H2.out.2.2.2.2.keep b3) (H2.out.2.1.keep b3) H1.out.2.2.1 H2.out.2.2.1 (by omega) (by omega) H2.out.1.symm)
  have H3 := Lib.hid (belows H2.out.2.2.2.1 b3)
  clear b3
  have t0 : (RE != RE) = false := by simp
  go_wp2_with fail
  refine z3.out.mono ?_
  rintro _ w4 ⟨rfl, b4⟩
  have H4 := Lib.hid (belows H3.out b4)
  clear b4 z3
  go_wp2_with fail
  go_loopw [34] (fun v34 wr => ∃ k : Nat, v34 = .int .i64 (k : Int) ∧ k ≤ L.length ∧ Below w.heap.size w wr) (fun v34 _ => L.length - (intOf v34).toNat)
  case atStart => exact ⟨0, rfl, by omega, H4.out⟩
  case round =>
    obtain ⟨k, rfl, hk, hb⟩ := hrel
    obtain ⟨wi, hwi⟩ : ∃ wi, wi = wr := ⟨_, rfl⟩
    subst hwi
    by_cases hlt : k < L.length
    · have hx : L[k]? = some L[k] := List.getElem?_eq_getElem hlt
      have hxm := List.mem_of_getElem? hx
      generalize L[k] = s at *
      obtain ⟨b, o, rfl, hB, hc0, hups⟩ := (HL.out.1.keep hb).at_ hx
      have hokS := HL.out.2 s hxm
      have hsn : s.l.length ≤ 1048576 := by
        have h2 := flatR_len hx (Nat.le_refl _)
        omega
      obtain ⟨Bv, hBv⟩ := bool_for (EvenP s.l)
      obtain ⟨K, hK⟩ : ∃ K, chkUs s.l = K := ⟨_, rfl⟩
      have hin := fun p : Past wi => hups.keep p.h
      have u1 : ∀ p : Past wi, Calls Try.prog 9 #[.slice s.A s.l.length s.c] p.w fun e w' => e = .returned (.int .i64 K) ∧ ∃ q : Past wi, w' = q.w := fun p => calls_past (by have := dcheck_any s.A s.c s.l p.w (hin p) (by omega) hokS; rw [hK] at this; exact this)
      have u2 : ∀ p : Past wi, Calls Try.prog 10 #[.slice s.A s.l.length s.c] p.w fun e w' => e = .returned (.int .i64 K) ∧ ∃ q : Past wi, w' = q.w := fun p => calls_past (by have := rcheck_any s.A s.c s.l p.w (hin p) (by omega) hokS; rw [hK] at this; exact this)
      have u3 : ∀ p : Past wi, Calls Try.prog 11 #[.slice s.A s.l.length s.c] p.w fun e w' => e = .returned (.bool Bv) ∧ ∃ q : Past wi, w' = q.w := fun p => calls_past ((even_any s.A s.c s.l p.w (hin p) hokS (by omega)).mono fun x w' h => tells_bool hBv h)
      have u4 : ∀ p : Past wi, Calls Try.prog 12 #[.slice s.A s.l.length s.c] p.w fun e w' => e = .returned (.bool Bv) ∧ ∃ q : Past wi, w' = q.w := fun p => calls_past ((reven_any s.A s.c s.l p.w (hin p) hokS (by omega)).mono fun x w' h => tells_bool hBv h)
      have q0 : (0 : Int) ≤ (k : Int) := by omega
      have q1 : (k : Int) < (L.length : Int) := by omega
      have q2 : decide ((k : Int) < (L.length : Int)) = true := decide_eq_true q1
      have t1 : (K != K) = false := by simp
      have t2 : (Bv != Bv) = false := by simp
      have HB := Lib.hid hb
      obtain ⟨KA, hKA⟩ : ∃ KA, s.A = KA := ⟨_, rfl⟩
      rw [hKA] at u1 u2 u3 u4 hc0 hups hin
      obtain ⟨kc, hkc⟩ : ∃ kc, s.c = kc := ⟨_, rfl⟩
      rw [hkc] at u1 u2 u3 u4 hc0
      by_cases hlen : 1 < s.l.length
      · have g0 : s.l[0]? = some s.l[0] := List.getElem?_eq_getElem (by omega)
        have g1 : s.l[1]? = some s.l[1] := List.getElem?_eq_getElem (by omega)
        have m0 := List.mem_of_getElem? g0
        have m1 := List.mem_of_getElem? g1
        generalize s.l[0] = x at *
        generalize s.l[1] = y at *
        obtain ⟨g, p, rfl, hB2, hys⟩ := lies_up hups.head (by omega)
        have e1 := fun q : Past wi => ((hys 0 x g0).past_ q.h hB2).six
        have e2 := fun q : Past wi => ((hys 1 y g1).past_ q.h hB2).six
        simp only [Nat.zero_mul, Nat.add_zero, Nat.one_mul] at e1 e2
        obtain ⟨r, hr⟩ : ∃ r, x.k.cmp y.k = r := ⟨_, rfl⟩
        have u5 : ∀ q : Past wi, Calls Try.prog 13 #[.agg #[.slice x.kA x.key.length x.kc, .slice x.rA x.row.length x.rc, .int .u64 (x.t.e : Int), .int .u64 (x.t.a : Int), .int .u64 (x.t.b : Int), .int .i64 x.d], .agg #[.slice y.kA y.key.length y.kc, .slice y.rA y.row.length y.rc, .int .u64 (y.t.e : Int), .int .u64 (y.t.a : Int), .int .u64 (y.t.b : Int), .int .i64 y.d]] q.w fun e w' => e = .returned (.int .i64 r) ∧ ∃ q' : Past wi, w' = q'.w := fun q =>
          calls_past ((dcompare_gr x y q.w ((hin q).each_ x m0) ((hin q).each_ y m1) (hokS x m0) (hokS y m1)).mono fun e w' h => ⟨by rw [h.1, hr], h.2.below⟩)
        have u6 : ∀ q : Past wi, Calls Try.prog 14 #[.agg #[.slice x.kA x.key.length x.kc, .slice x.rA x.row.length x.rc, .int .u64 (x.t.e : Int), .int .u64 (x.t.a : Int), .int .u64 (x.t.b : Int), .int .i64 x.d], .agg #[.slice y.kA y.key.length y.kc, .slice y.rA y.row.length y.rc, .int .u64 (y.t.e : Int), .int .u64 (y.t.a : Int), .int .u64 (y.t.b : Int), .int .i64 y.d]] q.w fun e w' => e = .returned (.int .i64 r) ∧ ∃ q' : Past wi, w' = q'.w := fun q =>
          calls_past ((rcompare_any x y q.w ((hin q).each_ x m0) ((hin q).each_ y m1) (hokS x m0) (hokS y m1)).mono fun e w' h => ⟨by rw [h.1, hr], h.2⟩)
        have t3 : (r != r) = false := by simp
        have t4 : decide (1 < (s.l.length : Int)) = true := decide_eq_true (by omega)
        have t5 : decide (1 < s.l.length) = true := decide_eq_true hlen
        have q5 : (1 : Int) < (s.l.length : Int) := by omega
        have q6 : (0 : Int) < (s.l.length : Int) := by omega
        clear g0 g1 m0 m1 hys hups hin hxm hx hokS hsn hBv hK hKA hkc hb hr hlen
        generalize s.l.length = n at *
        go_upto_region 8 with fail
        refine wp_region_past wi (by kernel_rfl) (by kernel_rfl) (Below.refl _ _) ?_
        repeat (first | go_big_quiet_step ((first | (go_at_call 9; exact u1 _) | (go_at_call 10; exact u2 _) | (go_at_call 11; exact u3 _) | (go_at_call 12; exact u4 _) | (go_at_call 13; exact u5 _) | (go_at_call 14; exact u6 _))) | quiet_step ((first | (go_at_call 9; exact u1 _) | (go_at_call 10; exact u2 _) | (go_at_call 11; exact u3 _) | (go_at_call 12; exact u4 _) | (go_at_call 13; exact u5 _) | (go_at_call 14; exact u6 _))))
        refine wpQuiet_nil ?_
        intro wz hw'
        obtain ⟨⟨wy, hbz⟩, hw''⟩ := hw'
        dsimp only at hw''
        subst hw''
        have HZ := Lib.hid (belows HB.out hbz)
        clear u1 u2 u3 u4 u5 u6 e1 e2 hbz
        by_cases h9 : k = 9
        · have t6 : ((k : Int) == 9) = true := by rw [beq_iff_eq]; omega
          clear h9
          go_wp2_with fail
          go_ret
          exact ⟨rfl, HZ.out⟩
        · have t6 : ((k : Int) == 9) = false := by rw [beq_eq_false_iff_ne]; omega
          clear h9
          go_wp2_with fail
          go_roundw
          case rel => exact ⟨k + 1, by go_num, by omega, HZ.out⟩
          case measure => simp [intOf]; omega
      · have t4 : decide (1 < (s.l.length : Int)) = false := decide_eq_false (by omega)
        have t5 : decide (1 < s.l.length) = false := decide_eq_false hlen
        clear hups hin hxm hx hokS hsn hBv hK hKA hkc hb hlen
        generalize s.l.length = n at *
        go_upto_region 8 with fail
        refine wp_region_past wi (by kernel_rfl) (by kernel_rfl) (Below.refl _ _) ?_
        repeat (first | go_big_quiet_step (((first | (go_at_call 9; exact u1 _) | (go_at_call 10; exact u2 _) | (go_at_call 11; exact u3 _) | (go_at_call 12; exact u4 _)))) | quiet_step (((first | (go_at_call 9; exact u1 _) | (go_at_call 10; exact u2 _) | (go_at_call 11; exact u3 _) | (go_at_call 12; exact u4 _)))))
        refine wpQuiet_nil ?_
        intro wz hw'
        obtain ⟨⟨wy, hbz⟩, hw''⟩ := hw'
        dsimp only at hw''
        subst hw''
        have HZ := Lib.hid (belows HB.out hbz)
        clear u1 u2 u3 u4 hbz
        by_cases h9 : k = 9
        · have t6 : ((k : Int) == 9) = true := by rw [beq_iff_eq]; omega
          clear h9
          go_wp2_with fail
          go_ret
          exact ⟨rfl, HZ.out⟩
        · have t6 : ((k : Int) == 9) = false := by rw [beq_eq_false_iff_ne]; omega
          clear h9
          go_wp2_with fail
          go_roundw
          case rel => exact ⟨k + 1, by go_num, by omega, HZ.out⟩
          case measure => simp [intOf]; omega
    · have q2 : decide ((k : Int) < (L.length : Int)) = false := decide_eq_false (by omega)
      have HB := Lib.hid hb
      clear hb
      go_wp2_with fail
      go_ret
      exact ⟨rfl, HB.out⟩
theorem lists_law (A : Option Addr) (c : Nat) (L : List (Rw Up)) (w : World) (hl : ULs w w.heap.size A L) (hok : ∀ s ∈ L, ∀ u ∈ s.l, UOk u) (_ : L.length ≤ c) (_ : c ≤ maxLen) (hn2 : L.length ≤ 1048576) (_ : ∀ s ∈ L, s.l.length ≤ s.c ∧ s.c ≤ maxLen) (hn : (flatR L).length ≤ 1048576) :
    Calls Try.prog 3 #[.slice A L.length c] w fun e w' => e = .returned (.bool true) ∧ Below w.heap.size w w' := lists_walk A c L w hl hok hn hn2
end Go.Proofs.Ytbccdmpnojdldaa
namespace Go.Proofs.Ytbccdmpnojdldaa
open Go
variable {H : Type}
theorem bulk_pos (d : DataW H) : 1 ≤ Rows.uptoBulk d := by
  cases d with
  | lit l => cases l <;> simp [Rows.uptoBulk]
  | nil => simp [Rows.uptoBulk]
  | ptr d => simp [Rows.uptoBulk]
  | slice es sp => simp [Rows.uptoBulk]
  | agg ps => simp [Rows.uptoBulk]
  | iface t d => simp [Rows.uptoBulk]
  | map es => simp [Rows.uptoBulk]
  | held h => simp [Rows.uptoBulk]
theorem bulk_all : ∀ es : List (DataW H), es.length ≤ Rows.uptoBulkAll es
  | [] => by simp
  | d :: r => by
    have := bulk_all r
    have := bulk_pos d
    simp only [List.length_cons, Rows.uptoBulkAll]
    omega
theorem bulk_slice (es sp : List (DataW H)) : es.length ≤ Rows.uptoBulk (.slice es sp) := by
  have := bulk_all es
  simp only [Rows.uptoBulk]
  omega
end Go.Proofs.Ytbccdmpnojdldaa
namespace Go.Proofs.Ytbccdmpnojdldaa
open Go Go.RowKit Go.ChangeShapes Go.WideShapes Go.ChangeAt Go.Deep

section
variable {H : Type} {enc : TypeId × Value → H} {P : Program} {w : World} {base : Nat} {spare : Nat → Bool} {held : Bool}
/-- the slice, its list; and what its reading tells of its length -/
theorem open_list_at {α : Type} [Inhabited α] {size : Nat} {cells : α → List Value} {OK : α → Prop} {t e : TypeId} (ht : P.underlying t = some (.slice e)) (hc : P.cellsOf e = size) (hpos : 0 < size) (hcl : ∀ x, (cells x).length = size)
    (dec : ∀ {n : Nat} {cs : List Value} {x : DataW H × List MemPlace}, DataW.trod enc P w base spare held n e cs = some x → ∃ a, cs = cells a ∧ OK a)
    {fuel : Nat} {cs : List Value} {x : DataW H × List MemPlace} (hf : DataW.trod enc P w base spare held fuel t cs = some x) :
    ∃ (A : Option Addr) (c : Nat) (l : List α), cs = [.slice A l.length c] ∧ l.length ≤ c ∧ c ≤ maxLen ∧ Lies size cells w w.heap.size A l ∧ (∀ a ∈ l, OK a) ∧ (x.1 = .nil ∧ l = [] ∧ c = 0 ∨ ∃ es sp, x.1 = .slice es sp ∧ es.length = l.length) := by
  rcases open_slice ht hf with ⟨e, hx⟩ | ⟨a, len, cap, m, n, D, Pl, e, hb, hl, hm, hmm, hx, hi⟩
  · subst e hx
    exact ⟨none, 0, [], rfl, by simp, by unfold maxLen; omega, fun h => absurd h (by simp), fun a ha => (by cases ha), .inl ⟨rfl, rfl, rfl⟩⟩
  · subst e hx
    obtain ⟨n0, rfl⟩ : ∃ n0, n0 = len := ⟨_, rfl⟩
    obtain ⟨c0, rfl⟩ : ∃ c0, c0 = cap := ⟨_, rfl⟩
    have hlm : n0 ≤ m := by rw [hmm]; split <;> omega
    rw [hc] at hi
    have hT : ∀ i, ∃ x : α, i < n0 → OK x ∧ ∀ (j : Nat) (u : Value), (cells x)[j]? = some u → w.cell? ((a.add (i * size)).add j) = some u := by
      intro i
      by_cases hil : i < n0
      · obtain ⟨cs', hcs, htr⟩ := hi i (by omega)
        obtain ⟨x, rfl, hok⟩ := dec htr
        obtain ⟨_, _, hat⟩ := World.cells?_some hcs
        refine ⟨x, fun _ => ⟨hok, fun j u hj => ?_⟩⟩
        have hjs : j < size := by have := (List.getElem?_eq_some_iff.1 hj).1; rw [hcl] at this; exact this
        rw [hat j hjs]
        exact hj
      · exact ⟨default, fun h => absurd h hil⟩
    obtain ⟨f, hf'⟩ : ∃ f : Nat → α, ∀ i, i < n0 → OK (f i) ∧ ∀ (j : Nat) (u : Value), (cells (f i))[j]? = some u → w.cell? ((a.add (i * size)).add j) = some u :=
      ⟨fun i => Classical.choose (hT i), fun i => Classical.choose_spec (hT i)⟩
    clear hT
    have hlen : ((List.range n0).map f).length = n0 := by simp
    refine ⟨some a, c0, (List.range n0).map f, by rw [hlen], by rw [hlen]; exact hl, hm, fun hp => ?_, fun x hx => ?_, .inr ⟨_, _, rfl, by simp⟩⟩
    · rw [hlen] at hp
      have hz : ((a.add (0 * size)).add 0) = a := by unfold Addr.add; simp
      obtain ⟨v0, h0⟩ : ∃ v0, w.cell? a = some v0 := by
        have h1 : 0 < (cells (f 0)).length := by rw [hcl]; exact hpos
        have := (hf' 0 hp).2 0 _ (List.getElem?_eq_getElem h1)
        rw [hz] at this
        exact ⟨_, this⟩
      have hspot : a.spot = none := by
        cases hs : a.spot with
        | none => rfl
        | some s =>
          unfold World.cell? at h0
          rw [hs] at h0
          split at h0 <;> simp at h0
      obtain ⟨b, o, sp⟩ := a
      simp only at hspot
      subst hspot
      have hadd : ∀ k j, ((⟨b, o, none⟩ : Addr).add k).add j = ⟨b, o + k + j, none⟩ := fun k j => by unfold Addr.add; split <;> split <;> simp_all
      refine ⟨b, o, rfl, World.block_lt_of_cell? w _ h0, fun i x hit j u hj => ?_⟩
      have hil : i < n0 := by have := (List.getElem?_eq_some_iff.1 hit).1; omega
      have hti : f i = x := by simpa [hil] using hit
      subst hti
      have := (hf' i hil).2 j u hj
      rwa [hadd] at this
    · obtain ⟨i, hi1, rfl⟩ := List.mem_map.1 hx
      exact (hf' i (List.mem_range.1 hi1)).1
theorem open_list {α : Type} [Inhabited α] {size : Nat} {cells : α → List Value} {OK : α → Prop} {t e : TypeId} (ht : P.underlying t = some (.slice e)) (hc : P.cellsOf e = size) (hpos : 0 < size) (hcl : ∀ x, (cells x).length = size)
    (dec : ∀ {n : Nat} {cs : List Value} {x : DataW H × List MemPlace}, DataW.trod enc P w base spare held n e cs = some x → ∃ a, cs = cells a ∧ OK a)
    {v : Value} {d : DataW H} {p : List MemPlace} {r : Reach} {b0 : Nat} (hv : Value.okWide P w r b0 t v) (h : DataW.Trod enc P w base spare held t v d p) :
    ∃ (A : Option Addr) (c : Nat) (l : List α), v = .slice A l.length c ∧ l.length ≤ c ∧ c ≤ maxLen ∧ Lies size cells w w.heap.size A l ∧ (∀ a ∈ l, OK a) ∧ (d = .nil ∧ l = [] ∧ c = 0 ∨ ∃ es sp, d = .slice es sp ∧ es.length = l.length) := by
  obtain ⟨a0, n0, c0, rfl⟩ := okWide_slice ht hv
  obtain ⟨fuel, hf⟩ := h
  obtain ⟨A, c, l, e, h1⟩ := open_list_at ht hc hpos hcl dec hf
  exact ⟨A, c, l, by simpa [Value.cells] using e, h1⟩
end
end Go.Proofs.Ytbccdmpnojdldaa
namespace Go.Proofs.Ytbccdmpnojdldaa
open Go Go.RowKit Go.ChangeShapes Go.WideShapes Go.ChangeAt Go.Deep

section
variable {H : Type} {enc : TypeId × Value → H} {P : Program} {w : World} {base : Nat} {spare : Nat → Bool} {held : Bool}
theorem lies_gen {α : Type} {size : Nat} {cells : α → List Value} (hcl : ∀ x, 0 < (cells x).length) {len : Nat} {a : Addr} {f : Nat → α} (hp : 0 < len) (hf : ∀ i, i < len → ∀ (j : Nat) (u : Value), (cells (f i))[j]? = some u → w.cell? ((a.add (i * size)).add j) = some u) :
    Lies size cells w w.heap.size (some a) ((List.range len).map f) := fun _ => by
  have hz : ((a.add (0 * size)).add 0) = a := by unfold Addr.add; simp
  obtain ⟨v0, h0⟩ : ∃ v0, w.cell? a = some v0 := by
    have := hf 0 hp 0 _ (List.getElem?_eq_getElem (hcl (f 0)))
    rw [hz] at this
    exact ⟨_, this⟩
  have hspot : a.spot = none := by
    cases hs : a.spot with
    | none => rfl
    | some s =>
      unfold World.cell? at h0
      rw [hs] at h0
      split at h0 <;> simp at h0
  obtain ⟨b, o, sp⟩ := a
  simp only at hspot
  subst hspot
  have hadd : ∀ k j, ((⟨b, o, none⟩ : Addr).add k).add j = ⟨b, o + k + j, none⟩ := fun k j => by unfold Addr.add; split <;> split <;> simp_all
  refine ⟨b, o, rfl, World.block_lt_of_cell? w _ h0, fun i x hit j u hj => ?_⟩
  have hil : i < len := by have := (List.getElem?_eq_some_iff.1 hit).1; simpa using this
  have hti : f i = x := by simpa [hil] using hit
  subst hti
  have := hf i hil j u hj
  rwa [hadd] at this
theorem bulk_sum : ∀ es : List (DataW H × List MemPlace), (es.map (fun z => Rows.uptoBulk z.1)).sum = Rows.uptoBulkAll (es.map (·.1))
  | [] => by simp [Rows.uptoBulkAll]
  | x :: es => by simp only [List.map_cons, List.sum_cons, Rows.uptoBulkAll]; rw [bulk_sum es]
theorem mem_le_sum : ∀ {bs : List Nat} {b : Nat}, b ∈ bs → b ≤ bs.sum
  | [], _, h => by cases h
  | x :: bs, b, h => by
    rw [List.sum_cons]
    rcases List.mem_cons.1 h with rfl | h
    · omega
    · have := mem_le_sum h; omega
theorem len_le_sum : ∀ {bs : List Nat}, (∀ b ∈ bs, 1 ≤ b) → bs.length ≤ bs.sum
  | [], _ => Nat.le_refl _
  | x :: bs, h => by
    have h1 := h x (by simp)
    have h2 := len_le_sum (bs := bs) fun b hb => h b (by simp [hb])
    rw [List.sum_cons, List.length_cons]
    omega
theorem sum_pair {α : Type} {g : α → Nat} : ∀ (l : List α) (bs : List Nat), bs.length = l.length → (∀ (i : Nat) (a : α), l[i]? = some a → ∃ b, bs[i]? = some b ∧ g a ≤ b) → (l.map g).sum ≤ bs.sum
  | [], _, _, _ => Nat.zero_le _
  | x :: l, [], h, _ => by simp at h
  | x :: l, b :: bs, h, hp => by
    obtain ⟨b', h1, h2⟩ := hp 0 x rfl
    obtain rfl : b = b' := by simpa using h1
    have := sum_pair l bs (by simpa using h) fun i a hi => by
      obtain ⟨b2, h3, h4⟩ := hp (i + 1) a (by simpa using hi)
      exact ⟨b2, by simpa using h3, h4⟩
    simp only [List.map_cons, List.sum_cons]
    omega
/-- the slice, its list, and how much each of its elements tells -/
theorem open_list_bulk {α : Type} [Inhabited α] {size : Nat} {cells : α → List Value} {OK : α → Nat → Prop} {t e : TypeId} {fuel : Nat} (ht : P.underlying t = some (.slice e)) (hc : P.cellsOf e = size) (hcl : ∀ x, 0 < (cells x).length)
    (dec : ∀ {n : Nat} {cs : List Value} {x : DataW H × List MemPlace}, n < fuel → DataW.trod enc P w base spare held n e cs = some x → ∃ a, cs = cells a ∧ OK a (Rows.uptoBulk x.1))
    {cs : List Value} {x : DataW H × List MemPlace} (hf : DataW.trod enc P w base spare held fuel t cs = some x) :
    ∃ (A : Option Addr) (c : Nat) (l : List α) (bs : List Nat), cs = [.slice A l.length c] ∧ l.length ≤ c ∧ c ≤ maxLen ∧ Lies size cells w w.heap.size A l ∧ bs.length = l.length ∧ bs.sum + 1 ≤ Rows.uptoBulk x.1 ∧ (∀ b ∈ bs, 1 ≤ b) ∧
      ∀ (i : Nat) (a : α), l[i]? = some a → ∃ b, bs[i]? = some b ∧ OK a b := by
  rcases DataW.trod_slice ht hf with ⟨h1, h2⟩ | ⟨a, len, cap, elems, rest, n, hfu, h1, h2, hb, hl, hm, hlen, hel, hsp, hns⟩
  · subst h1 h2
    exact ⟨none, 0, [], [], rfl, Nat.le_refl _, Nat.zero_le _, Lies.nil_, rfl, by simp [Rows.uptoBulk], fun b h => (by cases h), fun i a h => (by simp at h)⟩
  · rw [hc] at hel
    have hT : ∀ i, i < len → ∃ y : α, (∃ b, (elems.map (fun z => Rows.uptoBulk z.1))[i]? = some b ∧ OK y b) ∧ ∀ (j : Nat) (u : Value), (cells y)[j]? = some u → w.cell? ((a.add (i * size)).add j) = some u := fun i hi => by
      have h1 := hel i hi
      rw [List.getElem?_eq_getElem (by omega)] at h1
      obtain ⟨cs', h2, h3⟩ := Option.bind_eq_some_iff.1 h1
      obtain ⟨y, rfl, hy⟩ := dec (by omega) h3
      obtain ⟨_, hle2, hat⟩ := World.cells?_some h2
      refine ⟨y, ⟨_, by rw [List.getElem?_map, List.getElem?_eq_getElem (by omega)]; rfl, hy⟩, fun j u hj => ?_⟩
      rw [hat j (by have := (List.getElem?_eq_some_iff.1 hj).1; omega)]
      exact hj
    obtain ⟨f, hf'⟩ := choose_lt hT
    have hle : ((List.range len).map f).length = len := by simp
    refine ⟨some a, cap, (List.range len).map f, elems.map (fun z => Rows.uptoBulk z.1), by rw [hle]; exact h1, by rw [hle]; exact hl, hm, ?_, by rw [hle, List.length_map, hlen], ?_, ?_, ?_⟩
    · by_cases hp : 0 < len
      · exact lies_gen hcl hp fun i hi => (hf' i hi).2
      · exact fun h => by rw [hle] at h; omega
    · rw [h2]
      simp only [Rows.uptoBulk]
      rw [bulk_sum]
      omega
    · intro b hb
      obtain ⟨z, _, rfl⟩ := List.mem_map.1 hb
      exact bulk_pos _
    · intro i y hi
      have hil : i < len := by have := (List.getElem?_eq_some_iff.1 hi).1; simpa using this
      have hti : f i = y := by simpa [hil] using hi
      subst hti
      exact (hf' i hil).1
end
end Go.Proofs.Ytbccdmpnojdldaa
namespace Go.Proofs.Ytbccdmpnojdldaa
open Go Go.RowKit Go.ChangeShapes Go.WideShapes Go.ChangeAt Go.Deep

set_option maxRecDepth 100000
section
variable {H : Type} {enc : TypeId × Value → H} {w : World} {base : Nat} {spare : Nat → Bool} {held : Bool}
theorem wf_nat {n : Int} (h : (Lit.int .u64 n).wf = true) : ∃ m : Nat, n = (m : Int) := by
  have h2 : 0 ≤ n := by
    have : 0 ≤ n ∧ n ≤ 18446744073709551615 := by simpa [Lit.wf, IntKind.min, IntKind.max, IntKind.signed, IntKind.bits] using h
    exact this.1
  exact ⟨n.toNat, (Int.toNat_of_nonneg h2).symm⟩
theorem trod_time {fuel : Nat} {cs : List Value} {x : DataW H × List MemPlace} (h : DataW.trod enc Try.prog w base spare held fuel 36 cs = some x) : ∃ t : Tm, cs = t.cells := by
  obtain ⟨xs, n, _, _, hlen, hxs, hf⟩ := DataW.trod_struct Try.underlying36 h
  have hc : Try.prog.cellsOf 36 = 3 := by kernel_rfl
  have hc1 : Try.prog.cellsOf 33 = 1 := by kernel_rfl
  have hc2 : Try.prog.cellsOf 34 = 2 := by kernel_rfl
  rw [hc] at hlen
  match cs, hlen with
  | [c0, c1, c2], _ =>
    have h0 := hf 0 _ rfl
    have h1 := hf 1 _ rfl
    match xs, hxs with
    | [y0, y1], _ =>
      simp only [hc1, hc2, List.drop_zero, List.take_succ_cons, List.take_zero, List.drop_succ_cons, List.getElem?_cons_zero, List.getElem?_cons_succ] at h0 h1
      obtain ⟨n0, e0, _, w0⟩ := DataW.trod_int Try.underlying33 h0
      obtain ⟨zs, m, _, _, _, hzs, hg⟩ := DataW.trod_array Try.underlying34 h1
      match zs, hzs with
      | [z0, z1], _ =>
        have k0 := hg 0 (by omega)
        have k1 := hg 1 (by omega)
        simp only [hc1, Nat.zero_mul, Nat.one_mul, List.drop_zero, List.take_succ_cons, List.take_zero, List.drop_succ_cons, List.getElem?_cons_zero, List.getElem?_cons_succ] at k0 k1
        obtain ⟨n1, e1, _, w1⟩ := DataW.trod_int Try.underlying33 k0
        obtain ⟨n2, e2, _, w2⟩ := DataW.trod_int Try.underlying33 k1
        obtain ⟨m0, rfl⟩ := wf_nat w0
        obtain ⟨m1, rfl⟩ := wf_nat w1
        obtain ⟨m2, rfl⟩ := wf_nat w2
        obtain rfl := (List.cons.inj e0).1
        obtain rfl := (List.cons.inj e1).1
        obtain rfl := (List.cons.inj e2).1
        exact ⟨⟨m0, m1, m2⟩, rfl⟩
theorem open_time {r : Reach} {b0 : Nat} {v : Value} {d : DataW H} {p : List MemPlace} (hv : Value.okWide Try.prog w r b0 36 v) (h : DataW.Trod enc Try.prog w base spare held 36 v d p) : ∃ t : Tm, v = t.val := by
  obtain ⟨cs, rfl, hsz⟩ := okWide_struct Try.underlying36 hv
  obtain ⟨fuel, hf⟩ := h
  obtain ⟨t, ht⟩ := trod_time hf
  refine ⟨t, ?_⟩
  obtain ⟨l⟩ := cs
  simp only [Value.cells] at ht
  unfold Tm.val
  rw [show l = t.cells from by simpa using ht]
  rfl
/-- the slice, its list; and what its reading tells of its length -/
theorem open_times {v : Value} {d : DataW H} {p : List MemPlace} {r : Reach} {b0 : Nat} (hv : Value.okWide Try.prog w r b0 87 v) (h : DataW.Trod enc Try.prog w base spare held 87 v d p) :
    ∃ (A : Option Addr) (c : Nat) (l : List Tm), v = .slice A l.length c ∧ l.length ≤ c ∧ c ≤ maxLen ∧ Times w w.heap.size A l ∧ (d = .nil ∧ l = [] ∧ c = 0 ∨ ∃ es sp, d = .slice es sp ∧ es.length = l.length) := by
  obtain ⟨a0, n0, c0, rfl⟩ := okWide_slice Try.underlying87 hv
  obtain ⟨fuel, hf⟩ := h
  simp only [Value.cells] at hf
  rcases open_slice Try.underlying87 hf with ⟨e, hx⟩ | ⟨a, len, cap, m, n, D, Pl, e, hb, hl, hm, hmm, hx, hi⟩
  · simp only [List.cons.injEq, and_true, Value.slice.injEq] at e
    obtain ⟨rfl, rfl, rfl⟩ := e
    obtain ⟨rfl, _⟩ := Prod.mk.inj hx
    exact ⟨none, 0, [], rfl, by simp, by unfold maxLen; omega, Times.nil_, .inl ⟨rfl, rfl, rfl⟩⟩
  · simp only [List.cons.injEq, and_true, Value.slice.injEq] at e
    obtain ⟨rfl, rfl, rfl⟩ := e
    obtain ⟨rfl, rfl⟩ := Prod.mk.inj hx
    have hlm : n0 ≤ m := by rw [hmm]; split <;> omega
    have hc3 : Try.prog.cellsOf 36 = 3 := by kernel_rfl
    rw [hc3] at hi
    have hT : ∀ i, ∃ t : Tm, i < n0 → (w.cell? ((a.add (i * 3)).add 0) = some (.int .u64 (t.e : Int)) ∧ w.cell? ((a.add (i * 3)).add 1) = some (.int .u64 (t.a : Int)) ∧ w.cell? ((a.add (i * 3)).add 2) = some (.int .u64 (t.b : Int))) := by
      intro i
      by_cases hil : i < n0
      · obtain ⟨cs', hcs, htr⟩ := hi i (by omega)
        obtain ⟨t, rfl⟩ := trod_time htr
        obtain ⟨_, _, hat⟩ := World.cells?_some hcs
        exact ⟨t, fun _ => ⟨hat 0 (by omega), hat 1 (by omega), hat 2 (by omega)⟩⟩
      · exact ⟨default, fun h => absurd h hil⟩
    obtain ⟨f, hf'⟩ : ∃ f : Nat → Tm, ∀ i, i < n0 → (w.cell? ((a.add (i * 3)).add 0) = some (.int .u64 ((f i).e : Int)) ∧ w.cell? ((a.add (i * 3)).add 1) = some (.int .u64 ((f i).a : Int)) ∧ w.cell? ((a.add (i * 3)).add 2) = some (.int .u64 ((f i).b : Int))) :=
      ⟨fun i => Classical.choose (hT i), fun i => Classical.choose_spec (hT i)⟩
    clear hT
    have hlen : ((List.range n0).map f).length = n0 := by simp
    refine ⟨some a, c0, (List.range n0).map f, by rw [hlen], by rw [hlen]; exact hl, hm, fun hpos => ?_, .inr ⟨_, _, rfl, by simp⟩⟩
    rw [hlen] at hpos
    have haa : ∀ k, (a.add k).add 0 = a.add k := fun k => by unfold Addr.add; simp
    have hspot : a.spot = none := by
      have hz : ((a.add (0 * 3)).add 0) = a := by rw [haa]; unfold Addr.add; simp
      obtain ⟨v0, h0⟩ : ∃ v0, w.cell? a = some v0 := ⟨_, by have := (hf' 0 hpos).1; rwa [hz] at this⟩
      cases hs : a.spot with
      | none => rfl
      | some s =>
        unfold World.cell? at h0
        rw [hs] at h0
        split at h0 <;> simp at h0
    obtain ⟨b, o, sp⟩ := a
    simp only at hspot
    subst hspot
    have hblk : b < w.heap.size := by
      have hz : (((⟨b, o, none⟩ : Addr).add (0 * 3)).add 0).block = b := by unfold Addr.add; simp
      have := World.block_lt_of_cell? w _ (hf' 0 hpos).1
      rwa [hz] at this
    have hadd : ∀ k j, ((⟨b, o, none⟩ : Addr).add k).add j = ⟨b, o + k + j, none⟩ := fun k j => by unfold Addr.add; split <;> split <;> simp_all
    refine ⟨b, o, rfl, hblk, fun i t hit => ?_⟩
    have hil : i < n0 := by have := (List.getElem?_eq_some_iff.1 hit).1; omega
    have hti : f i = t := by simpa [hil] using hit
    obtain ⟨q0, q1, q2⟩ := hf' i hil
    rw [hadd] at q0 q1 q2
    rw [← hti]
    exact ⟨q0, q1, q2⟩
end
end Go.Proofs.Ytbccdmpnojdldaa
namespace Go.Proofs.Ytbccdmpnojdldaa
open Go Go.RowKit

/-- a slice at A of as many rows as L has reads as L; all of it lies below block B; each row takes fewer than 2^47 bytes -/
def RowsAt (w : World) (B : Nat) (A : Option Addr) (L : List (List Vl)) : Prop :=
  0 < L.length → ∃ b o, A = some ⟨b, o, none⟩ ∧ b < B ∧ ∀ (i : Nat) (l : List Vl), L[i]? = some l → ∃ A' c', w.cell? ⟨b, o + i, none⟩ = some (.slice A' l.length c') ∧ Vals w B A' l
section
variable {w w' : World} {B B' : Nat} {A : Option Addr} {L : List (List Vl)}
theorem RowsAt.past (h : RowsAt w B A L) (hb : Below B' w w') (hB : B ≤ B') : RowsAt w' B A L := fun hn => by
  obtain ⟨b, o, e, hlt, hc⟩ := h hn
  refine ⟨b, o, e, hlt, fun i l hi => ?_⟩
  obtain ⟨A', c', h1, h2⟩ := hc i l hi
  exact ⟨A', c', (hb.cell (p := ⟨b, o + i, none⟩) (show b < B' by omega)).trans h1, h2.past hb hB⟩
theorem RowsAt.wide (h : RowsAt w B A L) (hB : B ≤ B') : RowsAt w B' A L := fun hn => by
  obtain ⟨b, o, e, hlt, hc⟩ := h hn
  refine ⟨b, o, e, by omega, fun i l hi => ?_⟩
  obtain ⟨A', c', h1, h2⟩ := hc i l hi
  exact ⟨A', c', h1, h2.wide hB⟩
end
theorem rowsAt_keep {a b : World} {A : Option Addr} {L : List (List Vl)} (h : RowsAt a a.heap.size A L) (hb : Below a.heap.size a b) : RowsAt b b.heap.size A L := (h.past hb (Nat.le_refl _)).wide hb.size
/-- the lengths, added up -/
def lens (L : List (List Vl)) : Nat := (L.map List.length).sum
theorem lens_flat (L : List (List Vl)) : L.flatten.length = lens L := by simp [lens, List.length_flatten]
theorem lens_snoc {L : List (List Vl)} {k : Nat} {l : List Vl} (h : L[k]? = some l) : lens (L.take (k + 1)) = lens (L.take k) + l.length := by
  rw [List.take_add_one, h]; simp [lens]
theorem flat_snoc {L : List (List Vl)} {k : Nat} {l : List Vl} (h : L[k]? = some l) : (L.take (k + 1)).flatten = (L.take k).flatten ++ l := by
  rw [List.take_add_one, h]; simp
theorem lens_take : ∀ (L : List (List Vl)) (k : Nat), lens (L.take k) ≤ lens L
  | [], k => by simp [lens]
  | l :: L, 0 => by simp [lens]
  | l :: L, k + 1 => by
    have := lens_take L k
    unfold lens at *
    simp only [List.take_succ_cons, List.map_cons, List.sum_cons]
    omega
end Go.Proofs.Ytbccdmpnojdldaa
namespace Go.Proofs.Ytbccdmpnojdldaa
open Go Go.RowKit Go.ChangeShapes Go.WideShapes Go.ChangeAt Go.Deep

set_option maxRecDepth 100000
section
variable {H : Type} {enc : TypeId × Value → H} {w : World} {base : Nat} {spare : Nat → Bool} {held : Bool}
set_option maxRecDepth 100000 in
theorem trod_val {fuel : Nat} {cs : List Value} {x : DataW H × List MemPlace} (h : DataW.trod enc Try.prog w base spare held fuel 84 cs = some x) : ∃ v : Vl, cs = v.cells ∧ VOk v := by
  obtain ⟨xs, n, _, _, hlen, hxs, hf⟩ := DataW.trod_struct Try.underlying84 h
  have hc : Try.prog.cellsOf 84 = 3 := by kernel_rfl
  have hcb : Try.prog.cellsOf 4 = 1 := by kernel_rfl
  have hci : Try.prog.cellsOf 2 = 1 := by kernel_rfl
  have hcs : Try.prog.cellsOf 9 = 1 := by kernel_rfl
  rw [hc] at hlen
  match cs, hlen with
  | [c0, c1, c2], _ =>
    have h0 := hf 0 _ rfl
    have h1 := hf 1 _ rfl
    have h2 := hf 2 _ rfl
    match xs, hxs with
    | [y0, y1, y2], _ =>
      simp only [hcb, hci, hcs, List.drop_zero, List.take_succ_cons, List.take_zero, List.drop_succ_cons, List.getElem?_cons_zero, List.getElem?_cons_succ] at h0 h1 h2
      obtain ⟨n0, e0, _⟩ := DataW.trod_bool Try.underlying4 h0
      obtain ⟨n1, e1, _, w1⟩ := DataW.trod_int Try.underlying2 h1
      obtain ⟨n2, e2, _, w2⟩ := DataW.trod_string Try.underlying9 h2
      obtain rfl := (List.cons.inj e0).1
      obtain rfl := (List.cons.inj e1).1
      obtain rfl := (List.cons.inj e2).1
      exact ⟨⟨n0, n1, n2⟩, rfl, w2, wf_i64 w1⟩
/-- a row, and what its reading tells -/
theorem open_rowC {fuel : Nat} {cs : List Value} {x : DataW H × List MemPlace} (h : DataW.trod enc Try.prog w base spare held fuel 32 cs = some x) :
    ∃ (A : Option Addr) (c : Nat) (l : List Vl), cs = [.slice A l.length c] ∧ Vals w w.heap.size A l ∧ (∀ v ∈ l, VOk v) ∧ l.length ≤ Rows.uptoBulk x.1 := by
  obtain ⟨A, c, l, bs, e, h1, h2, h3, h4, h5, h6, h7⟩ := open_list_bulk (size := 3) (cells := Vl.cells) (OK := fun v _ => VOk v) Try.underlying32 (by kernel_rfl) (fun _ => by simp [Vl.cells]) (fun {n cs x} _ ht => trod_val ht) h
  have := len_le_sum h6
  refine ⟨A, c, l, e, vals_of_lies h3, fun v hv => ?_, by omega⟩
  obtain ⟨i, hi⟩ := List.getElem?_of_mem hv
  exact (h7 i v hi).elim fun _ h => h.2
/-- an update's part of what came in -/
def UIs (w : World) (u : Up) (b : Nat) : Prop := UIn w w.heap.size u ∧ (b ≤ 1048576 → UOk u)
set_option maxRecDepth 100000 in
theorem trod_up {fuel : Nat} {cs : List Value} {x : DataW H × List MemPlace} (h : DataW.trod enc Try.prog w base spare held fuel 38 cs = some x) : ∃ u : Up, cs = u.cells ∧ UIs w u (Rows.uptoBulk x.1) := by
  obtain ⟨xs, n, hfu, hx, hlen, hxs, hf⟩ := DataW.trod_struct Try.underlying38 h
  have hc : Try.prog.cellsOf 38 = 6 := by kernel_rfl
  have hc0 : Try.prog.cellsOf 32 = 1 := by kernel_rfl
  have hc1 : Try.prog.cellsOf 36 = 3 := by kernel_rfl
  have hc2 : Try.prog.cellsOf 2 = 1 := by kernel_rfl
  rw [hc] at hlen
  match cs, hlen with
  | [c0, c1, c2, c3, c4, c5], _ =>
    have h0 := hf 0 _ rfl
    have h1 := hf 1 _ rfl
    have h2 := hf 2 _ rfl
    have h3 := hf 3 _ rfl
    match xs, hxs with
    | [y0, y1, y2, y3], _ =>
      simp only [hc0, hc1, hc2, List.drop_zero, List.take_succ_cons, List.take_zero, List.drop_succ_cons, List.getElem?_cons_zero, List.getElem?_cons_succ] at h0 h1 h2 h3
      obtain ⟨A0, k0, l0, e0, i0, o0, m0⟩ := open_rowC h0
      obtain ⟨A1, k1, l1, e1, i1, o1, m1⟩ := open_rowC h1
      obtain ⟨t, e2⟩ := trod_time h2
      obtain ⟨d, e3, _, w3⟩ := DataW.trod_int Try.underlying2 h3
      have hM : Rows.uptoBulk x.1 = Rows.uptoBulk y0.1 + (Rows.uptoBulk y1.1 + (Rows.uptoBulk y2.1 + (Rows.uptoBulk y3.1 + 0))) + 1 := by
        rw [hx]
        simp only [List.map_cons, List.map_nil, Rows.uptoBulk, Rows.uptoBulkAll]
      obtain rfl := (List.cons.inj e0).1
      obtain rfl := (List.cons.inj e1).1
      obtain rfl := (List.cons.inj e3).1
      simp only [Tm.cells, List.cons.injEq, and_true] at e2
      obtain ⟨rfl, rfl, rfl⟩ := e2
      refine ⟨⟨A0, k0, l0, A1, k1, l1, t, d⟩, rfl, ⟨i0, i1⟩, fun hb => ⟨?_, ?_, o0, o1, wf_i64 w3⟩⟩
      · show l0.length ≤ _; omega
      · show l1.length ≤ _; omega
theorem open_upsC {fuel : Nat} {cs : List Value} {x : DataW H × List MemPlace} (h : DataW.trod enc Try.prog w base spare held fuel 23 cs = some x) :
    ∃ s : Rw Up, cs = s.cells ∧ s.l.length ≤ s.c ∧ s.c ≤ maxLen ∧ Ups w w.heap.size s.A s.l ∧ (Rows.uptoBulk x.1 ≤ 1048576 → ∀ u ∈ s.l, UOk u) ∧ s.l.length + 1 ≤ Rows.uptoBulk x.1 := by
  obtain ⟨A, c, l, bs, e, h1, h2, h3, h4, h5, h6, h7⟩ := open_list_bulk (size := 6) (cells := Up.cells) (OK := UIs w) Try.underlying23 (by kernel_rfl) (fun _ => by simp [Up.cells]) (fun {n cs x} _ ht => trod_up ht) h
  have := len_le_sum h6
  refine ⟨⟨A, c, l⟩, e, h1, h2, ⟨h3, fun u hu => ?_⟩, fun hb u hu => ?_, by show l.length + 1 ≤ _; omega⟩
  · obtain ⟨i, hi⟩ := List.getElem?_of_mem hu
    exact (h7 i u hi).elim fun _ h => h.2.1
  · obtain ⟨i, hi⟩ := List.getElem?_of_mem hu
    obtain ⟨b, hb1, hb2⟩ := h7 i u hi
    have := mem_le_sum (List.mem_of_getElem? hb1)
    exact hb2.2 (by omega)
theorem open_ups {v : Value} {d : DataW H} {p : List MemPlace} {r : Reach} {b0 : Nat} (hv : Value.okWide Try.prog w r b0 23 v) (h : DataW.Trod enc Try.prog w base spare held 23 v d p) :
    ∃ (A : Option Addr) (c : Nat) (l : List Up), v = .slice A l.length c ∧ l.length ≤ c ∧ c ≤ maxLen ∧ Ups w w.heap.size A l ∧ (Rows.uptoBulk d ≤ 1048576 → ∀ u ∈ l, UOk u) ∧ l.length ≤ Rows.uptoBulk d := by
  obtain ⟨a0, n0, c0, rfl⟩ := okWide_slice Try.underlying23 hv
  obtain ⟨fuel, hf⟩ := h
  simp only [Value.cells] at hf
  obtain ⟨⟨A, c, l⟩, e, h1, h2, h3, h4, h5⟩ := open_upsC hf
  exact ⟨A, c, l, by simpa [Rw.cells] using e, h1, h2, h3, h4, Nat.le_of_succ_le h5⟩
theorem sum_len {α : Type} : ∀ {L : List (Rw α)} {bs : List Nat}, bs.length = L.length → (∀ (i : Nat) (s : Rw α), L[i]? = some s → ∃ b, bs[i]? = some b ∧ s.l.length ≤ b) → (flatR L).length ≤ bs.sum := fun {L bs} hl h => by
  have := sum_pair (g := fun s : Rw α => s.l.length) L bs hl h
  unfold flatR
  rw [List.length_flatMap]
  exact this
theorem open_uplists {v : Value} {d : DataW H} {p : List MemPlace} {r : Reach} {b0 : Nat} (hv : Value.okWide Try.prog w r b0 22 v) (h : DataW.Trod enc Try.prog w base spare held 22 v d p) :
    ∃ (A : Option Addr) (c : Nat) (L : List (Rw Up)), v = .slice A L.length c ∧ L.length ≤ c ∧ c ≤ maxLen ∧ ULs w w.heap.size A L ∧ (Rows.uptoBulk d ≤ 1048576 → ∀ s ∈ L, ∀ u ∈ s.l, UOk u) ∧ (flatR L).length ≤ Rows.uptoBulk d ∧ L.length ≤ Rows.uptoBulk d ∧ ∀ s ∈ L, s.l.length ≤ s.c ∧ s.c ≤ maxLen := by
  obtain ⟨a0, n0, c0, rfl⟩ := okWide_slice Try.underlying22 hv
  obtain ⟨fuel, hf⟩ := h
  simp only [Value.cells] at hf
  obtain ⟨A, c, l, bs, e, h1, h2, h3, h4, h5, h6, h7⟩ := open_list_bulk (size := 1) (cells := Rw.cells (α := Up)) (OK := fun s b => s.l.length ≤ s.c ∧ s.c ≤ maxLen ∧ Ups w w.heap.size s.A s.l ∧ (b ≤ 1048576 → ∀ u ∈ s.l, UOk u) ∧ s.l.length + 1 ≤ b) Try.underlying22 (by kernel_rfl) (fun _ => by simp [Rw.cells]) (fun {n cs x} _ ht => open_upsC ht) hf
  change bs.sum + 1 ≤ Rows.uptoBulk d at h5
  have hlen := len_le_sum h6
  have hsum := sum_len (L := l) (bs := bs) (α := Up) h4 fun i s hi => by
    obtain ⟨b, hb, hs⟩ := h7 i s hi
    exact ⟨b, hb, by omega⟩
  refine ⟨A, c, l, by simpa using e, h1, h2, ⟨h3, fun s hs => ?_⟩, fun hb s hs => ?_, by omega, by omega, fun s hs => ?_⟩
  · obtain ⟨i, hi⟩ := List.getElem?_of_mem hs
    exact (h7 i s hi).elim fun _ h => h.2.2.2.1
  · obtain ⟨i, hi⟩ := List.getElem?_of_mem hs
    obtain ⟨b, hb1, hb2⟩ := h7 i s hi
    have := mem_le_sum (List.mem_of_getElem? hb1)
    exact hb2.2.2.2.1 (by omega)
  · obtain ⟨i, hi⟩ := List.getElem?_of_mem hs
    exact (h7 i s hi).elim fun _ h => ⟨h.2.1, h.2.2.1⟩
end
end Go.Proofs.Ytbccdmpnojdldaa
