/- Part 10 of the texts on which JoinThere rests: facts and contracts. -/
import Derived.Test.YtjffohpdjicfpaaGreatJoinThereM9
namespace Go.Proofs.YtjffohpdjicfpaaGreat
open Go Go.RowKit
def listsS (L : List Lv) : List (Rw Up) := L.flatMap partsR
theorem partsR_in {w : World} {B : Nat} {l : Lv} (h : LvIn w B l) (ol : LvOk l) : ∀ r ∈ partsR l, Ups w B r.A r.l := by
  intro r hr
  unfold partsR at hr
  split at hr
  · simp only [List.mem_cons, List.not_mem_nil, or_false] at hr
    rcases hr with rfl | rfl | rfl
    · exact ups_dropQ h.m.a ol.cap.a
    · exact ups_dropQ h.m.b ol.cap.b
    · exact h.m.o
  · simp only [List.mem_cons, List.not_mem_nil, or_false] at hr
    subst hr
    exact h.b.ups
theorem partsR_uok {l : Lv} (ol : LvOk l) : ∀ r ∈ partsR l, ∀ u ∈ r.l, UOk u := by
  intro r hr u hu
  unfold partsR at hr
  split at hr
  · simp only [List.mem_cons, List.not_mem_nil, or_false] at hr
    rcases hr with rfl | rfl | rfl
    · exact ol.m.a.ok u (List.mem_of_mem_drop hu)
    · exact ol.m.b.ok u (List.mem_of_mem_drop hu)
    · exact ol.m.o.ok u hu
  · simp only [List.mem_cons, List.not_mem_nil, or_false] at hr
    subst hr
    exact ol.b.l.ok u hu
theorem infoUl : (Tryz.prog.info? 22).map (fun i => (i.zero, i.size, i.bytes)) = some (some (.slice none 0 0), 1, 24) := by kernel_rfl
theorem rwcell_len {α : Type} (s : Rw α) : (Rw.cells s).length = 1 := rfl
def CollS (f : List Tm) (l : List Up) (w : World) (x : Ending) (w' : World) : Prop :=
  ∃ b : Bt, x = .returned (.tuple #[.slice b.uA b.l.length b.uc, .int .i64 (bldE f l)]) ∧ (bldE f l = 0 → FrontOk f ∧ b.f = f ∧ b.l.map Up.p = consL [advL f l]) ∧ (bldE f l ≠ 0 → b = Bt.nil) ∧ BtIn w' w'.heap.size b ∧ BtOk b ∧ BtLo w.heap.size b ∧ Below w.heap.size w w'
structure ClI (base : Nat) (Ls : List (Rw Up)) (v : Value) (wr : World) : Prop where
  own : wr.ownsRow base 22 1 v Ls.length (Ls.flatMap Rw.cells)
structure PtI (v : Value) (G : Nat) (R : List (Rw Up)) (wr : World) : Prop where
  in_ : G < wr.heap.size
  ne : v.ownBlock ≠ some G
  cells : ∀ j r, R[j]? = some r → wr.cell? ⟨G, j, none⟩ = some (.slice r.A r.l.length r.c)
theorem PtI.push {v v' : Value} {G : Nat} {R : List (Rw Up)} {w w' : World} (h : PtI v G R w) (hg : w.grownBy w' v.ownBlock) (hv : v'.ownBlock = v.ownBlock ∨ v'.ownBlock = some (w.heap.size + 1)) : PtI v' G R w' := by
  have hin := h.in_
  refine ⟨Nat.lt_of_lt_of_le h.in_ hg.size, ?_, fun j r hr => ?_⟩
  · rcases hv with e | e
    · rw [e]; exact h.ne
    · rw [e]; intro hh; injection hh with hh; omega
  · rw [← h.cells j r hr]
    unfold World.cell?
    rw [hg.block G h.in_ (fun e => h.ne e.symm)]
theorem partsR_pos (l : Lv) : 0 < (partsR l).length := by
  unfold partsR
  split <;> simp
theorem cl_keep {base : Nat} {Ls : List (Rw Up)} {v : Value} {w w' : World} (h : ClI base Ls v w) (hb : Below w.heap.size w w') : ClI base Ls v w' := ⟨own_below h.own hb⟩
theorem pt_start {base : Nat} {Ls : List (Rw Up)} {v : Value} {w V w' : World} {G : Nat} {R : List (Rw Up)} (h : ClI base Ls v w) (_ : Below w.heap.size w w') (hG : V.heap.size ≤ G) (hV : w.heap.size ≤ V.heap.size) (hu : ULs w' w'.heap.size (some ⟨G, 0, none⟩) R) (hp : 0 < R.length) : PtI v G R w' := by
  obtain ⟨g, o, e, hgi, hgc⟩ := hu.head hp
  simp only [Option.some.injEq, Addr.mk.injEq, and_true] at e
  obtain ⟨rfl, rfl⟩ := e
  refine ⟨hgi, fun e => ?_, fun j r hr => ?_⟩
  · have := (h.own.lt _ e).2
    omega
  · have := hgc j r hr 0 _ rfl
    simpa using this
theorem PtI.keep {v : Value} {G : Nat} {R : List (Rw Up)} {w w' : World} (h : PtI v G R w) (hb : Below w.heap.size w w') : PtI v G R w' :=
  ⟨Nat.lt_of_lt_of_le h.in_ hb.size, h.ne, fun j r hr => (hb.cell (p := ⟨G, j, none⟩) h.in_).trans (h.cells j r hr)⟩
theorem cl_push {base : Nat} {Ls : List (Rw Up)} {r : Rw Up} {v : Value} {w : World} (h : w.ownsRow base 22 1 v (Ls.length + 1) (Ls.flatMap Rw.cells ++ #[Value.slice r.A r.l.length r.c].toList)) : ClI base (Ls ++ [r]) v w := by
  refine ⟨?_⟩
  rw [List.length_append, List.flatMap_append]
  exact h
def seekQ (l : List Up) (q : Up → Bool) : Nat := (l.takeWhile q).length
theorem seekQ_len (l : List Up) (q : Up → Bool) : seekQ l q ≤ l.length := (List.takeWhile_sublist _).length_le
theorem seekQ_lt : ∀ (l : List Up) (q : Up → Bool) (i : Nat) (u : Up), i < seekQ l q → l[i]? = some u → q u = true
  | [], _, _, _, h, _ => by simp [seekQ] at h
  | x :: l, q, i, u, h, hu => by
    by_cases hx : q x = true
    · cases i with
      | zero => simp only [List.getElem?_cons_zero, Option.some.injEq] at hu; rw [← hu]; exact hx
      | succ i =>
        simp only [List.getElem?_cons_succ] at hu
        refine seekQ_lt l q i u ?_ hu
        unfold seekQ at h ⊢
        rw [List.takeWhile_cons_of_pos hx, List.length_cons] at h
        omega
    · unfold seekQ at h
      rw [List.takeWhile_cons_of_neg hx] at h
      simp at h
theorem seekQ_at : ∀ (l : List Up) (q : Up → Bool) (u : Up), l[seekQ l q]? = some u → q u = false
  | [], _, _, h => by simp at h
  | x :: l, q, u, h => by
    by_cases hx : q x = true
    · refine seekQ_at l q u ?_
      unfold seekQ at h ⊢
      rw [List.takeWhile_cons_of_pos hx, List.length_cons, List.getElem?_cons_succ] at h
      exact h
    · unfold seekQ at h
      rw [List.takeWhile_cons_of_neg hx] at h
      simp only [List.length_nil, List.getElem?_cons_zero, Option.some.injEq] at h
      rw [← h]
      simpa using hx
theorem seekQ_ge {l : List Up} {q : Up → Bool} (hl : l.Pairwise fun x y => q y = true → q x = true) {i : Nat} {u : Up} (h : seekQ l q ≤ i) (hu : l[i]? = some u) : q u = false := by
  have hi := (List.getElem?_eq_some_iff.1 hu).1
  rcases Nat.eq_or_lt_of_le h with e | hlt
  · exact seekQ_at l q u (by rw [e]; exact hu)
  · have hs : seekQ l q < l.length := by omega
    have h1 := seekQ_at l q _ (List.getElem?_eq_getElem hs)
    have h2 := List.pairwise_iff_getElem.1 hl _ _ hs hi hlt
    have h3 : l[i] = u := (List.getElem?_eq_some_iff.1 hu).2
    cases hq : q u
    · rfl
    · rw [h3] at h2
      rw [h2 hq] at h1
      cases h1
set_option maxRecDepth 100000 in
set_option maxHeartbeats 3200000 in
theorem skey1_any (P Q : Nat) (lA : Option Addr) (lc : Nat) (l : List Up) (A : Option Addr) (c : Nat) (key : List Vl) (k : Nat) (u : Up) (w : World) (hb : Own w P 22 [.slice lA l.length lc]) (hk : Own w Q 47 [.slice A key.length c]) (hin : Ups w w.heap.size lA l) (hv : Vals w w.heap.size A key) (hn : key.length ≤ maxLen) (hok : UOk u) (hu : l[k]? = some u) :
    Calls Tryz.prog 146 #[.int .i64 (k : Int), .pointer (some ⟨P, 0, none⟩), .pointer (some ⟨Q, 0, none⟩)] w fun e w' => e = .returned (.bool (!decide (cmpRows u.key key < 0))) ∧ Below w.heap.size w w' := by
  have hlt : k < l.length := (List.getElem?_eq_some_iff.1 hu).1
  have hui := hin.each_ u (List.mem_of_getElem? hu)
  obtain ⟨b', o, hA, hB, hxs⟩ := lies_up hin.head (by omega)
  have hX := fun p : Past w => (hb.past p.h hb.inside).at_ 0
  simp only [List.getElem?_cons_zero] at hX
  have hQ := fun p : Past w => (hk.past p.h hk.inside).at_ 0
  simp only [List.getElem?_cons_zero] at hQ
  have hE := fun p : Past w => ((hxs k u hu).past_ p.h hB).six
  have e0 := fun p : Past w => (hE p).1
  have x1 := fun p : Past w => hX p
  rw [hA] at x1
  have u1 := fun p : Past w => calls_past ((rows_gr u.kA A u.kc c u.key key p.w ((hui.key.past p.h (Nat.le_refl _)).wide p.h.size) ((hv.past p.h (Nat.le_refl _)).wide p.h.size) (Nat.le_trans hok.kn (by unfold maxLen; omega)) hn).mono fun x w' h => ⟨h.1, h.2.below⟩)
  have q0 : (0 : Int) ≤ (k : Int) := by omega
  have q1 : (k : Int) < (l.length : Int) := by omega
  obtain ⟨z, hz⟩ : ∃ z, cmpRows u.key key = z := ⟨_, rfl⟩
  rw [hz] at u1
  rw [show (!decide (cmpRows u.key key < 0)) = decide (0 ≤ z) from by rw [hz]; by_cases h : 0 ≤ z <;> simp [h] <;> omega]
  obtain ⟨B, hB'⟩ : ∃ B, decide (0 ≤ z) = B := ⟨_, rfl⟩
  rw [hB']
  clear hb hk hin hv hn hok hu hui hxs hX hE hz hA hB hlt
  go_enter Tryz.func146, Tryz.ntmps146
  go_upto_region 1 with fail
  refine wp_region_past w (by kernel_rfl) (by kernel_rfl) (Below.refl _ _) ?_
  repeat (first | go_big_quiet_step (fail) | quiet_step (fail))
  quiet_step ((go_at_call 73; exact u1 _))
  repeat (first | go_big_quiet_step (fail) | quiet_step (fail))
  clear u1
  refine wpQuiet_nil ?_
  intro wz hw'
  obtain ⟨⟨wy, hbz⟩, hw''⟩ := hw'
  dsimp only at hw''
  subst hw''
  go_wp2_with fail
  go_ret
  exact ⟨rfl, hbz⟩
def SeeksK1 (P Q : Nat) (l : List Up) (q : Up → Bool) (w : World) : Prop :=
  ∀ (k : Nat) (u : Up) (W : World), l[k]? = some u → Below w.heap.size w W → Calls Tryz.prog 146 #[.int .i64 (k : Int), .pointer (some ⟨P, 0, none⟩), .pointer (some ⟨Q, 0, none⟩)] W fun e w' => e = .returned (.bool (!q u)) ∧ Below W.heap.size W w'
set_option maxRecDepth 100000 in
set_option maxHeartbeats 3200000 in
theorem searchK1_any (P Q : Nat) (l : List Up) (q : Up → Bool) (w : World) (hl : l.Pairwise fun x y => q y = true → q x = true) (hn : l.length ≤ 1099511627776) (hs : SeeksK1 P Q l q w) :
    Calls Tryz.prog 49 #[.int .i64 (l.length : Int), .func (.func 146) #[] #[.pointer (some ⟨P, 0, none⟩), .pointer (some ⟨Q, 0, none⟩)]] w fun x w' => x = .returned (.int .i64 (seekQ l q : Int)) ∧ Below w.heap.size w w' := by
  have HS := Lib.hid hs
  have HK := Lib.hid hl
  clear hs hl
  go_enter Tryz.func49, Tryz.ntmps49
  go_wp2_with fail
  go_loopw [5, 6] (fun v5 v6 wr => ∃ i j : Nat, v5 = .int .i64 (i : Int) ∧ v6 = .int .i64 (j : Int) ∧ i ≤ seekQ l q ∧ seekQ l q ≤ j ∧ j ≤ l.length ∧ Below w.heap.size w wr) (fun v5 v6 _ => (intOf v6).toNat - (intOf v5).toNat)
  case atStart => exact ⟨0, l.length, rfl, rfl, Nat.zero_le _, seekQ_len l q, Nat.le_refl _, Below.refl _ _⟩
  case round =>
    obtain ⟨i, j, rfl, rfl, h1, h2, h3, hb⟩ := hrel
    by_cases hlt : i < j
    · have t0 : decide ((i : Int) < (j : Int)) = true := decide_eq_true (by omega)
      have t0' : decide (i < j) = true := decide_eq_true hlt
      obtain ⟨m, hm⟩ : ∃ m, m = (i + j) / 2 := ⟨_, rfl⟩
      have hmI : ((i : Int) + (j : Int)) / 2 = (m : Int) := by omega
      have him : i ≤ m := by omega
      have hmj : m < j := by omega
      have hml : m < l.length := by omega
      have hx : l[m]? = some l[m] := List.getElem?_eq_getElem hml
      have hlo := fun h => seekQ_lt l q m l[m] h hx
      have hhi := fun h => seekQ_ge HK.out h hx
      have y1 := Lib.hid (HS.out m _ wr hx hb)
      generalize l[m] = u at *
      obtain ⟨B, hB⟩ : ∃ B, (!q u) = B := ⟨_, rfl⟩
      rw [hB] at y1
      cases B with
      | true =>
        have h4 : seekQ l q ≤ m := by
          apply Decidable.byContradiction
          intro h
          have h5 := hlo (by omega)
          rw [h5] at hB
          cases hB
        have HH := Lib.hid (And.intro hb (And.intro h1 (And.intro h4 hml)))
        clear hb h1 h2 hx hlo hhi hB h4 hm
        go_wp2_with fail
        refine y1.out.mono ?_
        rintro _ w2 ⟨rfl, b2⟩
        have H2 := Lib.hid (HH.out.1.trans (b2.mono HH.out.1.size))
        clear b2
        go_wp2_with fail
        go_roundw
        case rel => exact ⟨i, m, rfl, by first | rfl | go_num, HH.out.2.1, HH.out.2.2.1, by omega, H2.out⟩
        case measure => simp [intOf]; omega
      | false =>
        have h4 : m + 1 ≤ seekQ l q := by
          apply Decidable.byContradiction
          intro h
          have h5 := hhi (by omega)
          rw [h5] at hB
          cases hB
        have HH := Lib.hid (And.intro hb (And.intro h2 (And.intro h4 hml)))
        clear hb h1 h2 hx hlo hhi hB h4 hm
        go_wp2_with fail
        refine y1.out.mono ?_
        rintro _ w2 ⟨rfl, b2⟩
        have H2 := Lib.hid (HH.out.1.trans (b2.mono HH.out.1.size))
        clear b2
        go_wp2_with fail
        go_roundw
        case rel => exact ⟨m + 1, j, by go_num, rfl, HH.out.2.2.1, HH.out.2.1, h3, H2.out⟩
        case measure => simp [intOf]; omega
    · have t0 : decide ((i : Int) < (j : Int)) = false := decide_eq_false (by omega)
      have t0' : decide (i < j) = false := decide_eq_false hlt
      have HH := Lib.hid (And.intro hb (show i = seekQ l q by omega))
      clear hb h1 h2
      go_wp2_with fail
      go_ret
      exact ⟨by rw [HH.out.2]; rfl, HH.out.1⟩
theorem seeksK1_of {P Q : Nat} {lA : Option Addr} {lc : Nat} {l : List Up} {A : Option Addr} {c : Nat} {key : List Vl} {w : World} (hb : Own w P 22 [.slice lA l.length lc]) (hk : Own w Q 47 [.slice A key.length c]) (hin : Ups w w.heap.size lA l) (hv : Vals w w.heap.size A key) (hn : key.length ≤ maxLen) (hok : ∀ u ∈ l, UOk u) : SeeksK1 P Q l (fun u => decide (cmpRows u.key key < 0)) w := fun k u W hu hW =>
  skey1_any P Q lA lc l A c key k u W (hb.past hW hb.inside) (hk.past hW hk.inside) (hin.keep hW) ((hv.past hW (Nat.le_refl _)).wide hW.size) hn (hok u (List.mem_of_getElem? hu)) hu
set_option maxRecDepth 100000 in
set_option maxHeartbeats 3200000 in
theorem skey2_any (P Q : Nat) (lA : Option Addr) (lc : Nat) (l : List Up) (A : Option Addr) (c : Nat) (key : List Vl) (k : Nat) (u : Up) (w : World) (hb : Own w P 22 [.slice lA l.length lc]) (hk : Own w Q 47 [.slice A key.length c]) (hin : Ups w w.heap.size lA l) (hv : Vals w w.heap.size A key) (hn : key.length ≤ maxLen) (hok : UOk u) (hu : l[k]? = some u) :
    Calls Tryz.prog 147 #[.int .i64 (k : Int), .pointer (some ⟨P, 0, none⟩), .pointer (some ⟨Q, 0, none⟩)] w fun e w' => e = .returned (.bool (!decide (cmpRows u.key key ≤ 0))) ∧ Below w.heap.size w w' := by
  have hlt : k < l.length := (List.getElem?_eq_some_iff.1 hu).1
  have hui := hin.each_ u (List.mem_of_getElem? hu)
  obtain ⟨b', o, hA, hB, hxs⟩ := lies_up hin.head (by omega)
  have hX := fun p : Past w => (hb.past p.h hb.inside).at_ 0
  simp only [List.getElem?_cons_zero] at hX
  have hQ := fun p : Past w => (hk.past p.h hk.inside).at_ 0
  simp only [List.getElem?_cons_zero] at hQ
  have hE := fun p : Past w => ((hxs k u hu).past_ p.h hB).six
  have e0 := fun p : Past w => (hE p).1
  have x1 := fun p : Past w => hX p
  rw [hA] at x1
  have u1 := fun p : Past w => calls_past ((rows_gr u.kA A u.kc c u.key key p.w ((hui.key.past p.h (Nat.le_refl _)).wide p.h.size) ((hv.past p.h (Nat.le_refl _)).wide p.h.size) (Nat.le_trans hok.kn (by unfold maxLen; omega)) hn).mono fun x w' h => ⟨h.1, h.2.below⟩)
  have q0 : (0 : Int) ≤ (k : Int) := by omega
  have q1 : (k : Int) < (l.length : Int) := by omega
  obtain ⟨z, hz⟩ : ∃ z, cmpRows u.key key = z := ⟨_, rfl⟩
  rw [hz] at u1
  rw [show (!decide (cmpRows u.key key ≤ 0)) = decide (0 < z) from by rw [hz]; by_cases h : 0 < z <;> simp [h] <;> omega]
  obtain ⟨B, hB'⟩ : ∃ B, decide (0 < z) = B := ⟨_, rfl⟩
  rw [hB']
  clear hb hk hin hv hn hok hu hui hxs hX hE hz hA hB hlt
  go_enter Tryz.func147, Tryz.ntmps147
  go_upto_region 1 with fail
  refine wp_region_past w (by kernel_rfl) (by kernel_rfl) (Below.refl _ _) ?_
  repeat (first | go_big_quiet_step (fail) | quiet_step (fail))
  quiet_step ((go_at_call 73; exact u1 _))
  repeat (first | go_big_quiet_step (fail) | quiet_step (fail))
  clear u1
  refine wpQuiet_nil ?_
  intro wz hw'
  obtain ⟨⟨wy, hbz⟩, hw''⟩ := hw'
  dsimp only at hw''
  subst hw''
  go_wp2_with fail
  go_ret
  exact ⟨rfl, hbz⟩
def SeeksK2 (P Q : Nat) (l : List Up) (q : Up → Bool) (w : World) : Prop :=
  ∀ (k : Nat) (u : Up) (W : World), l[k]? = some u → Below w.heap.size w W → Calls Tryz.prog 147 #[.int .i64 (k : Int), .pointer (some ⟨P, 0, none⟩), .pointer (some ⟨Q, 0, none⟩)] W fun e w' => e = .returned (.bool (!q u)) ∧ Below W.heap.size W w'
set_option maxRecDepth 100000 in
set_option maxHeartbeats 3200000 in
theorem searchK2_any (P Q : Nat) (l : List Up) (q : Up → Bool) (w : World) (hl : l.Pairwise fun x y => q y = true → q x = true) (hn : l.length ≤ 1099511627776) (hs : SeeksK2 P Q l q w) :
    Calls Tryz.prog 49 #[.int .i64 (l.length : Int), .func (.func 147) #[] #[.pointer (some ⟨P, 0, none⟩), .pointer (some ⟨Q, 0, none⟩)]] w fun x w' => x = .returned (.int .i64 (seekQ l q : Int)) ∧ Below w.heap.size w w' := by
  have HS := Lib.hid hs
  have HK := Lib.hid hl
  clear hs hl
  go_enter Tryz.func49, Tryz.ntmps49
  go_wp2_with fail
  go_loopw [5, 6] (fun v5 v6 wr => ∃ i j : Nat, v5 = .int .i64 (i : Int) ∧ v6 = .int .i64 (j : Int) ∧ i ≤ seekQ l q ∧ seekQ l q ≤ j ∧ j ≤ l.length ∧ Below w.heap.size w wr) (fun v5 v6 _ => (intOf v6).toNat - (intOf v5).toNat)
  case atStart => exact ⟨0, l.length, rfl, rfl, Nat.zero_le _, seekQ_len l q, Nat.le_refl _, Below.refl _ _⟩
  case round =>
    obtain ⟨i, j, rfl, rfl, h1, h2, h3, hb⟩ := hrel
    by_cases hlt : i < j
    · have t0 : decide ((i : Int) < (j : Int)) = true := decide_eq_true (by omega)
      have t0' : decide (i < j) = true := decide_eq_true hlt
      obtain ⟨m, hm⟩ : ∃ m, m = (i + j) / 2 := ⟨_, rfl⟩
      have hmI : ((i : Int) + (j : Int)) / 2 = (m : Int) := by omega
      have him : i ≤ m := by omega
      have hmj : m < j := by omega
      have hml : m < l.length := by omega
      have hx : l[m]? = some l[m] := List.getElem?_eq_getElem hml
      have hlo := fun h => seekQ_lt l q m l[m] h hx
      have hhi := fun h => seekQ_ge HK.out h hx
      have y1 := Lib.hid (HS.out m _ wr hx hb)
      generalize l[m] = u at *
      obtain ⟨B, hB⟩ : ∃ B, (!q u) = B := ⟨_, rfl⟩
      rw [hB] at y1
      cases B with
      | true =>
        have h4 : seekQ l q ≤ m := by
          apply Decidable.byContradiction
          intro h
          have h5 := hlo (by omega)
          rw [h5] at hB
          cases hB
        have HH := Lib.hid (And.intro hb (And.intro h1 (And.intro h4 hml)))
        clear hb h1 h2 hx hlo hhi hB h4 hm
        go_wp2_with fail
        refine y1.out.mono ?_
        rintro _ w2 ⟨rfl, b2⟩
        have H2 := Lib.hid (HH.out.1.trans (b2.mono HH.out.1.size))
        clear b2
        go_wp2_with fail
        go_roundw
        case rel => exact ⟨i, m, rfl, by first | rfl | go_num, HH.out.2.1, HH.out.2.2.1, by omega, H2.out⟩
        case measure => simp [intOf]; omega
      | false =>
        have h4 : m + 1 ≤ seekQ l q := by
          apply Decidable.byContradiction
          intro h
          have h5 := hhi (by omega)
          rw [h5] at hB
          cases hB
        have HH := Lib.hid (And.intro hb (And.intro h2 (And.intro h4 hml)))
        clear hb h1 h2 hx hlo hhi hB h4 hm
        go_wp2_with fail
        refine y1.out.mono ?_
        rintro _ w2 ⟨rfl, b2⟩
        have H2 := Lib.hid (HH.out.1.trans (b2.mono HH.out.1.size))
        clear b2
        go_wp2_with fail
        go_roundw
        case rel => exact ⟨m + 1, j, by go_num, rfl, HH.out.2.2.1, HH.out.2.1, h3, H2.out⟩
        case measure => simp [intOf]; omega
    · have t0 : decide ((i : Int) < (j : Int)) = false := decide_eq_false (by omega)
      have t0' : decide (i < j) = false := decide_eq_false hlt
      have HH := Lib.hid (And.intro hb (show i = seekQ l q by omega))
      clear hb h1 h2
      go_wp2_with fail
      go_ret
      exact ⟨by rw [HH.out.2]; rfl, HH.out.1⟩
theorem seeksK2_of {P Q : Nat} {lA : Option Addr} {lc : Nat} {l : List Up} {A : Option Addr} {c : Nat} {key : List Vl} {w : World} (hb : Own w P 22 [.slice lA l.length lc]) (hk : Own w Q 47 [.slice A key.length c]) (hin : Ups w w.heap.size lA l) (hv : Vals w w.heap.size A key) (hn : key.length ≤ maxLen) (hok : ∀ u ∈ l, UOk u) : SeeksK2 P Q l (fun u => decide (cmpRows u.key key ≤ 0)) w := fun k u W hu hW =>
  skey2_any P Q lA lc l A c key k u W (hb.past hW hb.inside) (hk.past hW hk.inside) (hin.keep hW) ((hv.past hW (Nat.le_refl _)).wide hW.size) hn (hok u (List.mem_of_getElem? hu)) hu
def keyN (l : List Up) (key : List Vl) : Nat := seekQ l (fun u => decide (cmpRows u.key key < 0))
def keyM (l : List Up) (key : List Vl) : Nat := seekQ (l.drop (keyN l key)) (fun u => decide (cmpRows u.key key ≤ 0))
def keyR (r : Rw Up) (key : List Vl) : Rw Up := ⟨dropA r.A r.c (keyN r.l key), r.c - keyN r.l key, (r.l.drop (keyN r.l key)).take (keyM r.l key)⟩
theorem key_mono1 {l : List Up} {key : List Vl} (h : KeysUp l) : l.Pairwise fun x y => decide (cmpRows y.key key < 0) = true → decide (cmpRows x.key key < 0) = true := h.imp fun {x y} h1 h2 => by
  have h3 := of_decide_eq_true h2
  exact decide_eq_true (row_lin.le_lt h1 h3)
theorem key_mono2 {l : List Up} {key : List Vl} (h : KeysUp l) : l.Pairwise fun x y => decide (cmpRows y.key key ≤ 0) = true → decide (cmpRows x.key key ≤ 0) = true := h.imp fun {x y} h1 h2 => by
  have h3 := of_decide_eq_true h2
  exact decide_eq_true ((row_lin.le _ _ _ h1 h3).1)
theorem two_boxes (w : World) (A : Option Addr) (n c : Nat) (A' : Option Addr) (n' c' : Nat) : ∃ V, V = (w.alloc (.cells #[.slice A n c] 22)).alloc (.cells #[.slice A' n' c'] 47) ∧ Below w.heap.size w V ∧ Own V w.heap.size 22 [.slice A n c] ∧ Own V (w.heap.size + 1) 47 [.slice A' n' c'] := by
  obtain ⟨V1, e1, s1, b1, o1⟩ := boxd w [.slice A n c] 22
  obtain ⟨V2, e2, s2, b2, o2⟩ := boxd V1 [.slice A' n' c'] 47
  exact ⟨V2, by rw [e2, e1], b1.trans (b2.mono b1.size), o1.past b2 o1.inside, by rw [← s1]; exact o2⟩
set_option maxRecDepth 100000 in
set_option maxHeartbeats 6400000 in
theorem keyed_pos (g o lc : Nat) (l : List Up) (A : Option Addr) (c : Nat) (key : List Vl) (w : World) (hu : Ups w w.heap.size (some ⟨g, o, none⟩) l) (hok : ∀ u ∈ l, UOk u) (hc : l.length ≤ lc) (hcm : lc ≤ maxLen) (hn : l.length ≤ 1099511627776) (hv : Vals w w.heap.size A key) (hkn : key.length ≤ maxLen) (hk : KeysUp l) :
    Calls Tryz.prog 100 #[.slice (some ⟨g, o, none⟩) l.length lc, .slice A key.length c] w fun x w' => x = .returned (.slice (keyR ⟨some ⟨g, o, none⟩, lc, l⟩ key).A (keyR ⟨some ⟨g, o, none⟩, lc, l⟩ key).l.length (keyR ⟨some ⟨g, o, none⟩, lc, l⟩ key).c) ∧ Below w.heap.size w w' := by
  obtain ⟨V, hV, bV, oP, oQ⟩ := two_boxes w (some ⟨g, o, none⟩) l.length lc A key.length c
  obtain ⟨n1, hn1⟩ : ∃ n1, keyN l key = n1 := ⟨_, rfl⟩
  have hl1 : n1 ≤ l.length := by rw [← hn1]; exact seekQ_len _ _
  obtain ⟨B1, hB1⟩ : ∃ B1 : Option Addr, (if lc = n1 then (some ⟨g, o, none⟩ : Option Addr) else some ⟨g, o + n1 * 6, none⟩) = B1 := ⟨_, rfl⟩
  have HBB := Lib.hid (show dropA (some ⟨g, o, none⟩) lc n1 = B1 from by rw [← hB1]; rfl)
  have u1 := fun p : Past V => calls_past (searchK1_any w.heap.size (w.heap.size + 1) l (fun u => decide (cmpRows u.key key < 0)) p.w (key_mono1 hk) hn (seeksK1_of (oP.past p.h oP.inside) (oQ.past p.h oQ.inside) ((hu.keep bV).keep p.h) ((((hv.past bV (Nat.le_refl _)).wide bV.size).past p.h (Nat.le_refl _)).wide p.h.size) hkn hok))
  have hs1 : seekQ l (fun u => decide (cmpRows u.key key < 0)) = n1 := hn1
  rw [hs1] at u1
  have x1 := fun p : Past V => (oP.past p.h oP.inside).at_ 0
  simp only [List.getElem?_cons_zero] at x1
  have H := Lib.hid (And.intro hu (And.intro hok (And.intro hv (And.intro hkn (And.intro hk (And.intro bV (And.intro oP (And.intro oQ hn1))))))))
  have q1 : (0 : Int) ≤ (n1 : Int) := by omega
  have q2 : (n1 : Int) ≤ (l.length : Int) := by omega
  clear hu hok hv hkn hk bV hn1 hs1
  go_enter Tryz.func100, Tryz.ntmps100
  go_upto_region 1 with fail
  rw [← hV]
  clear hV
  refine wp_region_past_tail V 6 (by kernel_rfl) (by kernel_rfl) (Below.refl _ _) ?_
  repeat (first | go_big_quiet_step ((go_at_call 49; exact u1 _)) | quiet_step ((go_at_call 49; exact u1 _)))
  refine wpQuiet_nil ?_
  intro wt hw'
  obtain ⟨⟨wu, hbt⟩, hw''⟩ := hw'
  dsimp only at hw''
  subst hw''
  have o2 := oP.past hbt oP.inside
  have o3 := oQ.past hbt oQ.inside
  have e0 := o2.at_ 0
  simp only [List.getElem?_cons_zero] at e0
  have f0 := o2.open_ 0
  have hPQ : w.heap.size + 1 ≠ w.heap.size := by omega
  have hP3 := o3.inside
  obtain ⟨W, hW⟩ : ∃ W, W = wt.setCell ⟨w.heap.size, 0, none⟩ (.slice B1 (l.length - n1) (lc - n1)) := ⟨_, rfl⟩
  have oX : Own W w.heap.size 22 [.slice B1 (l.drop n1).length (lc - n1)] := by
    rw [hW, List.length_drop]
    exact o2.set_ 0 _
  have oY : Own W (w.heap.size + 1) 47 [.slice A key.length c] := by
    rw [hW]
    exact (KeptK.set_ (S := fun b => b = w.heap.size) (KeptK.refl wt _) (.inl rfl) _).own o3 hPQ
  have hbW : Below w.heap.size w W := by
    rw [hW]
    exact (belows H.out.2.2.2.2.2.1 hbt).setCell (p := ⟨w.heap.size, 0, none⟩) (Nat.le_refl _) _
  have hu1 : Ups W W.heap.size B1 (l.drop n1) := by
    rw [← HBB.out]
    exact (ups_dropQ H.out.1 hc).keep hbW
  have hvW := (H.out.2.2.1.past hbW (Nat.le_refl _)).wide hbW.size
  have hok1 : ∀ u ∈ l.drop n1, UOk u := fun u h => H.out.2.1 u (List.mem_of_mem_drop h)
  have hk1 : KeysUp (l.drop n1) := H.out.2.2.2.2.1.sublist (List.drop_sublist _ _)
  have hln : (l.drop n1).length = l.length - n1 := List.length_drop ..
  obtain ⟨n2, hn2⟩ : ∃ n2, keyM l key = n2 := ⟨_, rfl⟩
  have hn2' : seekQ (l.drop n1) (fun u => decide (cmpRows u.key key ≤ 0)) = n2 := by
    rw [← hn2, ← H.out.2.2.2.2.2.2.2.2]
    rfl
  have hl2 : n2 ≤ l.length - n1 := by rw [← hn2', ← hln]; exact seekQ_len _ _
  have u2 := fun p : Past W => calls_past (searchK2_any w.heap.size (w.heap.size + 1) (l.drop n1) (fun u => decide (cmpRows u.key key ≤ 0)) p.w (key_mono2 hk1) (by omega) (seeksK2_of (oX.past p.h oX.inside) (oY.past p.h oY.inside) (hu1.keep p.h) ((hvW.past p.h (Nat.le_refl _)).wide p.h.size) H.out.2.2.2.1 hok1))
  rw [hn2', hln] at u2
  have x2 := fun p : Past W => (oX.past p.h oX.inside).at_ 0
  rw [hln] at x2
  simp only [List.getElem?_cons_zero] at x2
  have p1 : (0 : Int) ≤ (n2 : Int) := by omega
  have p2 : (n2 : Int) ≤ ((lc - n1 : Nat) : Int) := by omega
  have HR := Lib.hid (And.intro hbW (And.intro hn2 hl2))
  clear u1 x1 hbt o2 o3 oX oY hbW hu1 hvW hok1 hk1 hn2 hn2' hP3 oP oQ
  go_upto_region 2 with fail
  rw [← hW]
  clear hW e0 f0
  refine wp_region_past W (by kernel_rfl) (by kernel_rfl) (Below.refl _ _) ?_
  repeat (first | go_big_quiet_step ((go_at_call 49; exact u2 _)) | quiet_step ((go_at_call 49; exact u2 _)))
  refine wpQuiet_nil ?_
  intro wz hw'
  obtain ⟨⟨wy, hbz⟩, hw''⟩ := hw'
  dsimp only at hw''
  subst hw''
  have HZ := Lib.hid (belows HR.out.1 hbz)
  clear u2 x2 hbz
  go_wp2_with fail
  go_ret
  refine ⟨?_, HZ.out⟩
  show Ending.returned (Value.slice B1 n2 (lc - n1)) = _
  unfold keyR
  dsimp only
  rw [H.out.2.2.2.2.2.2.2.2, HR.out.2.1, HBB.out, List.length_take, hln, Nat.min_eq_left HR.out.2.2]
set_option maxRecDepth 100000 in
set_option maxHeartbeats 6400000 in
theorem keyed_nil (A0 : Option Addr) (lc : Nat) (A : Option Addr) (c : Nat) (key : List Vl) (w : World) (hcm : lc ≤ maxLen) (hv : Vals w w.heap.size A key) (hkn : key.length ≤ maxLen) :
    Calls Tryz.prog 100 #[.slice A0 0 lc, .slice A key.length c] w fun x w' => x = .returned (.slice A0 0 lc) ∧ Below w.heap.size w w' := by
  obtain ⟨V, hV, bV, oP, oQ⟩ := two_boxes w A0 0 lc A key.length c
  have hu : Ups V V.heap.size A0 [] := ⟨fun h => by simp at h, fun u h => by cases h⟩
  have u1 := fun p : Past V => calls_past (searchK1_any w.heap.size (w.heap.size + 1) [] (fun u => decide (cmpRows u.key key < 0)) p.w List.Pairwise.nil (by simp) (seeksK1_of (oP.past p.h oP.inside) (oQ.past p.h oQ.inside) (hu.keep p.h) ((((hv.past bV (Nat.le_refl _)).wide bV.size).past p.h (Nat.le_refl _)).wide p.h.size) hkn (fun u h => by cases h)))
  have hs1 : seekQ [] (fun u => decide (cmpRows u.key key < 0)) = 0 := rfl
  rw [hs1] at u1
  simp only [List.length_nil, Int.ofNat_zero] at u1
  have x1 := fun p : Past V => (oP.past p.h oP.inside).at_ 0
  simp only [List.getElem?_cons_zero] at x1
  have H := Lib.hid (And.intro hv (And.intro hkn bV))
  clear hv hkn hu hs1 bV
  go_enter Tryz.func100, Tryz.ntmps100
  go_upto_region 1 with fail
  rw [← hV]
  clear hV
  refine wp_region_past_tail V 6 (by kernel_rfl) (by kernel_rfl) (Below.refl _ _) ?_
  repeat (first | go_big_quiet_step ((go_at_call 49; exact u1 _)) | quiet_step ((go_at_call 49; exact u1 _)))
  refine wpQuiet_nil ?_
  intro wt hw'
  obtain ⟨⟨wu, hbt⟩, hw''⟩ := hw'
  dsimp only at hw''
  subst hw''
  have o2 := oP.past hbt oP.inside
  have o3 := oQ.past hbt oQ.inside
  have e0 := o2.at_ 0
  simp only [List.getElem?_cons_zero] at e0
  have f0 := o2.open_ 0
  have hPQ : w.heap.size + 1 ≠ w.heap.size := by omega
  obtain ⟨W, hW⟩ : ∃ W, W = wt.setCell ⟨w.heap.size, 0, none⟩ (.slice A0 0 lc) := ⟨_, rfl⟩
  have oX : Own W w.heap.size 22 [.slice A0 0 lc] := by
    rw [hW]
    exact o2.set_ 0 _
  have oY : Own W (w.heap.size + 1) 47 [.slice A key.length c] := by
    rw [hW]
    exact (KeptK.set_ (S := fun b => b = w.heap.size) (KeptK.refl wt _) (.inl rfl) _).own o3 hPQ
  have hbW : Below w.heap.size w W := by
    rw [hW]
    exact (belows H.out.2.2 hbt).setCell (p := ⟨w.heap.size, 0, none⟩) (Nat.le_refl _) _
  have hu1 : Ups W W.heap.size A0 [] := ⟨fun h => by simp at h, fun u h => by cases h⟩
  have hvW := (H.out.1.past hbW (Nat.le_refl _)).wide hbW.size
  have u2 := fun p : Past W => calls_past (searchK2_any w.heap.size (w.heap.size + 1) [] (fun u => decide (cmpRows u.key key ≤ 0)) p.w List.Pairwise.nil (by simp) (seeksK2_of (oX.past p.h oX.inside) (oY.past p.h oY.inside) (hu1.keep p.h) ((hvW.past p.h (Nat.le_refl _)).wide p.h.size) H.out.2.1 (fun u h => by cases h)))
  have hs2 : seekQ [] (fun u => decide (cmpRows u.key key ≤ 0)) = 0 := rfl
  rw [hs2] at u2
  simp only [List.length_nil, Int.ofNat_zero] at u2
  have x2 := fun p : Past W => (oX.past p.h oX.inside).at_ 0
  simp only [List.getElem?_cons_zero] at x2
  have HR := Lib.hid hbW
  clear u1 x1 hbt o2 o3 oX oY hbW hu1 hvW hs2 oP oQ
  go_upto_region 2 with fail
  rw [← hW]
  clear hW e0 f0
  refine wp_region_past W (by kernel_rfl) (by kernel_rfl) (Below.refl _ _) ?_
  repeat (first | go_big_quiet_step ((go_at_call 49; exact u2 _)) | quiet_step ((go_at_call 49; exact u2 _)))
  refine wpQuiet_nil ?_
  intro wz hw'
  obtain ⟨⟨wy, hbz⟩, hw''⟩ := hw'
  dsimp only at hw''
  subst hw''
  have HZ := Lib.hid (belows HR.out hbz)
  clear u2 x2 hbz
  go_wp2_with fail
  go_ret
  exact ⟨rfl, HZ.out⟩
theorem dropA_zero (A : Option Addr) (c : Nat) : dropA A c 0 = A := by
  unfold dropA
  split
  · rfl
  · cases A <;> simp
theorem keyed_any (r : Rw Up) (A : Option Addr) (c : Nat) (key : List Vl) (w : World) (hu : Ups w w.heap.size r.A r.l) (hok : ∀ u ∈ r.l, UOk u) (hc : r.l.length ≤ r.c) (hcm : r.c ≤ maxLen) (hn : r.l.length ≤ 1099511627776) (hv : Vals w w.heap.size A key) (hkn : key.length ≤ maxLen) (hk : KeysUp r.l) :
    Calls Tryz.prog 100 #[.slice r.A r.l.length r.c, .slice A key.length c] w fun x w' => x = .returned (.slice (keyR r key).A (keyR r key).l.length (keyR r key).c) ∧ Below w.heap.size w w' := by
  obtain ⟨rA, rc, l⟩ := r
  by_cases h0 : l.length = 0
  · obtain rfl : l = [] := List.eq_nil_of_length_eq_zero h0
    refine (keyed_nil rA rc A c key w hcm hv hkn).mono fun x w' h => ⟨h.1.trans ?_, h.2⟩
    show Ending.returned (.slice rA 0 rc) = .returned (.slice (dropA rA rc 0) 0 (rc - 0))
    rw [dropA_zero]
    rfl
  · obtain ⟨g, o, hA, _⟩ := hu.head (by show 0 < l.length; omega)
    have hA : rA = some ⟨g, o, none⟩ := hA
    subst hA
    exact keyed_pos g o rc l A c key w hu hok hc hcm hn hv hkn hk
structure LvRm (l : Lv) : Prop where
  le : l.b.l.length ≤ l.b.uc
  uc : l.b.uc ≤ maxLen
  ole : l.m.o.length ≤ l.m.oc
  oc : l.m.oc ≤ maxLen
def listsK (key : List Vl) (L : List Lv) : List (Rw Up) := L.flatMap fun l => (partsR l).map (keyR · key)
def partsK (key : List Vl) (L : List Lv) : List Up := flatR (listsK key L)
theorem listsK_flat (key : List Vl) (L : List Lv) : flatR (listsK key L) = partsK key L := rfl
theorem listsK_take {key : List Vl} {L : List Lv} {k : Nat} {l : Lv} (h : L[k]? = some l) : listsK key (L.take (k + 1)) = listsK key (L.take k) ++ (partsR l).map (keyR · key) := by
  unfold listsK
  rw [List.take_add_one, h, List.flatMap_append]
  simp
theorem listsK_len (key : List Vl) (L : List Lv) : (listsK key L).length ≤ 3 * L.length := by
  induction L with
  | nil => exact Nat.zero_le _
  | cons l L ih =>
    have h := partsR_len l
    show ((l :: L).flatMap fun l => (partsR l).map (keyR · key)).length ≤ _
    rw [List.flatMap_cons, List.length_append, List.length_cons, List.length_map]
    have ih : (L.flatMap fun l => (partsR l).map (keyR · key)).length ≤ 3 * L.length := ih
    omega
theorem keyR_le (r : Rw Up) (key : List Vl) : (keyR r key).l.length ≤ r.l.length := by
  unfold keyR
  simp only [List.length_take, List.length_drop]
  omega
theorem flat_key_le (key : List Vl) : ∀ R : List (Rw Up), (flatR (R.map (keyR · key))).length ≤ (flatR R).length
  | [] => Nat.zero_le _
  | r :: R => by
    have h1 := keyR_le r key
    have h2 := flat_key_le key R
    show ((keyR r key).l ++ flatR (R.map (keyR · key))).length ≤ (r.l ++ flatR R).length
    rw [List.length_append, List.length_append]
    omega
theorem partsK_le (key : List Vl) : ∀ L : List Lv, (partsK key L).length ≤ (partsS L).length
  | [] => Nat.zero_le _
  | l :: L => by
    have h1 := flat_key_le key (partsR l)
    rw [partsR_flat] at h1
    have h2 := partsK_le key L
    have e : partsK key (l :: L) = flatR ((partsR l).map (keyR · key)) ++ partsK key L := by
      unfold partsK listsK flatR
      rw [List.flatMap_cons, List.flatMap_append]
    rw [e, partsS_cons, List.length_append, List.length_append]
    omega
theorem keyR_in {w : World} {B : Nat} {r : Rw Up} {key : List Vl} (h : Ups w B r.A r.l) (hc : r.l.length ≤ r.c) : Ups w B (keyR r key).A (keyR r key).l := by
  have h1 := ups_dropQ (q := keyN r.l key) h hc
  unfold keyR
  refine ⟨fun hp => ?_, fun u hu => h1.each_ u (List.mem_of_mem_take hu)⟩
  rw [List.length_take] at hp
  obtain ⟨b, o, e, hb, hx⟩ := h1.head (by omega)
  refine ⟨b, o, e, hb, fun i x hi j u hj => hx i x ?_ j u hj⟩
  rw [List.getElem?_take] at hi
  split at hi
  · exact hi
  · cases hi
theorem partsR_room {l : Lv} (ol : LvOk l) (h : LvRm l) : ∀ r ∈ partsR l, r.l.length ≤ r.c ∧ r.c ≤ maxLen ∧ r.l.length ≤ 1099511627776 := by
  intro r hr
  have a1 := ol.cap.a
  have a2 := ol.cap.an
  have b1 := ol.cap.b
  have b2 := ol.cap.bn
  have n1 := ol.m.a.n
  have n2 := ol.m.b.n
  have n3 := ol.m.o.n
  have n4 := ol.b.l.n
  have h1 := h.le
  have h2 := h.uc
  have h3 := h.ole
  have h4 := h.oc
  unfold partsR at hr
  split at hr
  · simp only [List.mem_cons, List.not_mem_nil, or_false] at hr
    rcases hr with rfl | rfl | rfl
    · simp only [List.length_drop]; omega
    · simp only [List.length_drop]; omega
    · exact ⟨h3, h4, n3⟩
  · simp only [List.mem_cons, List.not_mem_nil, or_false] at hr
    subst hr
    exact ⟨h1, h2, n4⟩
theorem partsR_keys {f : List Tm} {l : Lv} (g : LvGood f l) : ∀ r ∈ partsR l, KeysUp r.l := by
  intro r hr
  unfold partsR at hr
  split at hr
  · next hb =>
    have h3 := (g.busy hb).2.2.1
    simp only [List.mem_cons, List.not_mem_nil, or_false] at hr
    rcases hr with rfl | rfl | rfl
    · exact (even_keys h3.even.1).sublist (List.drop_sublist _ _)
    · exact (even_keys h3.even.2.1).sublist (List.drop_sublist _ _)
    · exact even_keys h3.even.2.2
  · next hb =>
    have h4 := (g.idle (by simpa using hb)).2.1
    simp only [List.mem_cons, List.not_mem_nil, or_false] at hr
    subst hr
    exact even_keys h4.2.1
set_option maxRecDepth 100000 in
set_option maxHeartbeats 1600000 in
theorem grp1_any (K : Nat) (r : Rw Up) (A : Option Addr) (c : Nat) (key : List Vl) (w : World) (hK : Own w K 47 [.slice A key.length c]) (hu : Ups w w.heap.size r.A r.l) (hok : ∀ u ∈ r.l, UOk u) (hc : r.l.length ≤ r.c) (hcm : r.c ≤ maxLen) (hn : r.l.length ≤ 1099511627776) (hv : Vals w w.heap.size A key) (hkn : key.length ≤ maxLen) (hk : KeysUp r.l) :
    Calls Tryz.prog 99 #[.slice r.A r.l.length r.c, .pointer (some ⟨K, 0, none⟩)] w fun x w' => x = .returned (.slice (keyR r key).A (keyR r key).l.length (keyR r key).c) ∧ Below w.heap.size w w' := by
  have y1 := Lib.hid (keyed_any r A c key w hu hok hc hcm hn hv hkn hk)
  have d0 := hK.at_ 0
  simp only [List.getElem?_cons_zero] at d0
  obtain ⟨q, hq⟩ : ∃ q, keyR r key = q := ⟨_, rfl⟩
  rw [hq] at y1 ⊢
  clear hK hu hok hc hcm hn hv hkn hk hq
  go_enter Tryz.func99, Tryz.ntmps99
  go_wp2_with fail
  refine y1.out.mono ?_
  rintro _ w1 ⟨rfl, b1⟩
  have H1 := Lib.hid b1
  clear b1 y1
  go_wp2_with fail
  go_ret
  exact ⟨rfl, H1.out⟩
set_option maxRecDepth 100000 in
set_option maxHeartbeats 6400000 in
theorem collect_key (K : Nat) (A : Option Addr) (c : Nat) (key : List Vl) (s : Sp) (w : World) (hK : Own w K 47 [.slice A key.length c]) (hv : Vals w w.heap.size A key) (hkn : key.length ≤ maxLen) (hr : ∀ l ∈ s.L, LvRm l) (hs : SpIn w w.heap.size s) (os : SpOk s) (hg : SpGood s.f s.L) (hn : (partsS s.L).length ≤ 1099511627776) :
    Calls Tryz.prog 98 #[s.val, .func (.func 99) #[] #[.pointer (some ⟨K, 0, none⟩)]] w (CollS s.f (partsK key s.L) w) := by
  obtain ⟨i0, hi, hz0, hz1, hz2⟩ := info_parts infoUl
  have HI := Lib.hid (And.intro Tryz.underlying53 (And.intro hi (And.intro hz0 (And.intro hz1 hz2))))
  obtain ⟨V, hV, hvb, hvs, hvo⟩ := spbox w s
  have hin := hs.keep hvb
  have H := Lib.hid (And.intro hin (And.intro os (And.intro hvb (And.intro hvo (And.intro hg hn)))))
  have hnL := os.n
  have HV := Lib.hid (And.intro (hK.past hvb hK.inside) (And.intro ((hv.past hvb (Nat.le_refl _)).wide hvb.size) (And.intro hkn hr)))
  clear hK hv hkn hr
  rw [show s.val = .agg #[.slice s.sA s.f.length s.sc, .slice s.lA s.L.length s.lc] from rfl]
  have hX := Lib.hid (fun W (hb : Below V.heap.size V W) => own2 (hvo.past hb hvo.inside))
  obtain ⟨d0, d1⟩ := own2 hvo
  have h0 := World.ownsRow_nil V V.heap.size 22 1
  clear hs os hvb hvs hvo hin hi hz0 hz1 hz2 hg hn
  go_enter Tryz.func98, Tryz.ntmps98
  go_upto_region 1 with fail
  rw [← hV]
  clear hV
  go_wp2_with fail
  go_loopw [6, 16] (fun v i wr => ∃ k : Nat, i = .int .i64 (k : Int) ∧ k ≤ s.L.length ∧ ClI V.heap.size (listsK key (s.L.take k)) v wr ∧ Below V.heap.size V wr)
    (fun _ i _ => s.L.length - (intOf i).toNat)
  case atStart => exact ⟨0, rfl, by omega, ⟨h0⟩, Below.refl _ _⟩
  case round =>
    obtain ⟨k, rfl, hk, hown, hb⟩ := hrel
    by_cases hlt : k < s.L.length
    · obtain ⟨l, hl⟩ : ∃ l, s.L[k]? = some l := ⟨_, List.getElem?_eq_getElem hlt⟩
      obtain ⟨b, o, hA, hB, hc⟩ := lies_lv H.out.1.lev.head (by omega)
      obtain ⟨c0, c1, c2, c3, c4, c5, c6, c7, c8, c9⟩ := lv_ten fun j u hj => (hb.cell (p := ⟨b, o + k * 10 + j, none⟩) hB).trans (hc k l hl j u hj)
      have hlm := List.mem_of_getElem? hl
      have hli := ((H.out.1.lev.each_ l hlm).past hb (Nat.le_refl _)).wide hb.size
      have hlo := H.out.2.1.each_ l hlm
      obtain ⟨V5, hV5, hb5, hs5, ho5⟩ := lvbox wr l
      obtain ⟨e0, e1, e2, e3, e4, e5, e6, e7, e8, e9⟩ := own10 ho5
      have u1 := Lib.hid (parts_anyS l s.f V5 (hli.keep hb5) hlo (H.out.2.2.2.2.1.each l hlm) (H.out.2.2.2.2.1.pos l hlm))
      rw [show l.val = .agg #[.int .i64 l.cls, .bool l.busy, .slice l.b.sA l.b.f.length l.b.sc, .slice l.b.uA l.b.l.length l.b.uc, .slice l.m.aA l.m.a.length l.m.ac, .slice l.m.bA l.m.b.length l.m.bc, .int .i64 l.m.i, .int .i64 l.m.j, .slice l.m.sA l.m.f.length l.m.sc, .slice l.m.oA l.m.o.length l.m.oc] from rfl] at u1
      have hpl := partsR_len l
      have hll := listsK_len key (s.L.take k)
      rw [List.length_take, Nat.min_eq_left (by omega)] at hll
      have hru := partsR_uok hlo
      have hrk := partsR_keys (H.out.2.2.2.2.1.each l hlm)
      have hrr := partsR_room hlo (HV.out.2.2.2 l hlm)
      have HRR := Lib.hid (And.intro (partsR_in (H.out.1.lev.each_ l hlm) hlo) (And.intro hru (And.intro hrk hrr)))
      have htk := listsK_take (key := key) hl
      have HA := Lib.hid hA
      have HK := Lib.hid (And.intro hown (And.intro hb (And.intro hb5 htk)))
      have q0 : (0 : Int) ≤ (k : Int) := by omega
      have q1 : (k : Int) < (s.L.length : Int) := by omega
      obtain ⟨d0, d1⟩ := hX.out wr hb
      clear hru hrk hrr hlm hli hlo hl hown hb hb5 htk hc
      go_upto_region 5 with fail
      rw [← hV5]
      clear hV5
      go_wp2_with fail
      refine u1.out.mono ?_
      rintro _ w1 ⟨G, rfl, hul, hG, hb1⟩
      have hpt := pt_start HK.out.1 (belows HK.out.2.2.1 hb1) hG HK.out.2.2.1.size hul (partsR_pos l)
      have hb1' := belows HK.out.2.1 (belows HK.out.2.2.1 hb1)
      have hown1 := cl_keep HK.out.1 (belows HK.out.2.2.1 hb1)
      have H1 := Lib.hid (And.intro hpt (And.intro hb1' hown1))
      have hpp := partsR_pos l
      clear hpt hb1' hown1 hul hG hb1
      clear u1 e0 e1 e2 e3 e4 e5 e6 e7 e8 e9 c0 c1 c2 c3 c4 c5 c6 c7 c8 c9 d0 d1
      go_wp2_with fail
      go_loopw [6, 23] (fun v i wi => ∃ j : Nat, i = .int .i64 (j : Int) ∧ j ≤ (partsR l).length ∧ ClI V.heap.size (listsK key (s.L.take k) ++ ((partsR l).take j).map (keyR · key)) v wi ∧ PtI v G (partsR l) wi ∧ Below V.heap.size V wi)
        (fun _ i _ => (partsR l).length - (intOf i).toNat)
      case atStart => exact ⟨0, rfl, by omega, by simpa using H1.out.2.2, H1.out.1, H1.out.2.1⟩
      case round =>
        obtain ⟨j, rfl, hj, hown2, hp2, hb2⟩ := hrel
        by_cases hlt2 : j < (partsR l).length
        · obtain ⟨r, hr⟩ : ∃ r, (partsR l)[j]? = some r := ⟨_, List.getElem?_eq_getElem hlt2⟩
          have z0 := hp2.cells j r hr
          have z1 := z0
          rw [show j = 0 + j by omega] at z1
          have q2 : (0 : Int) ≤ (j : Int) := by omega
          have q3 : (j : Int) < ((partsR l).length : Int) := by omega
          have htj : ((partsR l).take (j + 1)).map (keyR · key) = ((partsR l).take j).map (keyR · key) ++ [keyR r key] := by rw [List.take_add_one, hr, List.map_append]; rfl
          have hrm := List.mem_of_getElem? hr
          have hlj : (listsK key (s.L.take k) ++ ((partsR l).take j).map (keyR · key)).length ≤ 3 * k + 3 := by rw [List.length_append, List.length_map, List.length_take]; omega
          generalize hLs : listsK key (s.L.take k) ++ ((partsR l).take j).map (keyR · key) = Ls at hown2 hlj
          have y9 := Lib.hid (grp1_any K r A c key _ (HV.out.1.past hb2 HV.out.1.inside) (((HRR.out.1 r hrm).past hb2 (Nat.le_refl _)).wide hb2.size) (HRR.out.2.1 r hrm) (HRR.out.2.2.2 r hrm).1 (HRR.out.2.2.2 r hrm).2.1 (HRR.out.2.2.2 r hrm).2.2 ((HV.out.2.1.past hb2 (Nat.le_refl _)).wide hb2.size) HV.out.2.2.1 (HRR.out.2.2.1 r hrm))
          obtain ⟨r', hr'⟩ : ∃ r', keyR r key = r' := ⟨_, rfl⟩
          rw [hr'] at y9 htj
          have H2 := Lib.hid (And.intro hown2 (And.intro hp2 (And.intro hb2 (And.intro hLs htj))))
          clear hown2 hp2 hb2 hr hLs htj hrm hr'
          go_wp2_with fail
          refine y9.out.mono ?_
          rintro _ w2 ⟨rfl, b2⟩
          have hown3 := cl_keep H2.out.1 b2
          have hp3 := H2.out.2.1.keep b2
          have hb3 := belows H2.out.2.2.1 b2
          have H3 := Lib.hid (And.intro hown3 (And.intro hp3 hb3))
          clear b2 hown3 hp3 hb3 z0 z1
          go_wp2_with (at_builtin; refine wpList_push _ rfl _ _ 53 rfl V.heap.size 22 i0 _ 1 24 HI.out.1 HI.out.2.1 HI.out.2.2.1 HI.out.2.2.2.1 HI.out.2.2.2.2 rfl (by decide) _ _ _ rfl H3.out.1.own #[.slice r'.A r'.l.length r'.c] rfl rfl ?k1 ?k2 ?k3 ?k4 ?_)
          case k1 => rfl
          case k2 => unfold maxLen; omega
          case k3 => omega
          case k4 => exact H3.out.2.2.size
          intro v4 w4 ho4 hb4 hv4 hg4
          have hp4 := H3.out.2.1.push hg4 hv4
          have hb5 := H3.out.2.2.trans hb4
          have ho5 : ClI V.heap.size (Ls ++ [r']) v4 w4 := cl_push ho4
          rw [← H2.out.2.2.2.1, List.append_assoc, ← H2.out.2.2.2.2] at ho5
          have H4 := Lib.hid (And.intro ho5 (And.intro hp4 hb5))
          clear ho4 hb4 hv4 hg4 hp4 hb5 ho5
          go_wp2_with fail
          go_roundw
          case rel => exact ⟨j + 1, by go_num, by omega, H4.out.1, H4.out.2.1, H4.out.2.2⟩
          case measure => simp [intOf]; omega
        · have hj2 : j = (partsR l).length := by omega
          subst hj2
          rw [List.take_length, ← HK.out.2.2.2] at hown2
          have H2 := Lib.hid (And.intro hown2 hb2)
          clear hown2 hb2 hp2
          go_wp2_with fail
          clear hA
          rw [← HA.out]
          go_roundw
          case rel =>
            exact ⟨k + 1, by go_num, by omega, H2.out.1, H2.out.2⟩
          case measure => simp [intOf]; omega
    · have hk2 : k = s.L.length := by omega
      subst hk2
      rw [List.take_length] at hown
      have hll := listsK_len key s.L
      obtain ⟨A7, k7, hv7, _, _, hl7⟩ := lies_of_own (l := listsK key s.L) (by decide) rwcell_len rfl hown.own
      subst hv7
      obtain ⟨d0, d1⟩ := hX.out wr hb
      have hul : ULs wr wr.heap.size A7 (listsK key s.L) := ⟨hl7, fun r hr => by
        obtain ⟨l, hl, hrl⟩ := List.mem_flatMap.1 hr
        obtain ⟨q, hq, rfl⟩ := List.mem_map.1 hrl
        exact (keyR_in ((partsR_in (H.out.1.lev.each_ l hl) (H.out.2.1.each_ l hl) q hq).past hb (Nat.le_refl _)) (partsR_room (H.out.2.1.each_ l hl) (HV.out.2.2.2 l hl) q hq).1).wide hb.size⟩
      have u1 := Lib.hid (build_any s.sA s.sc s.f A7 k7 (listsK key s.L) wr ((H.out.1.since.past hb (Nat.le_refl _)).wide hb.size) H.out.2.1.f hul (fun r hr => by
        obtain ⟨l, hl, hrl⟩ := List.mem_flatMap.1 hr
        obtain ⟨q, hq, rfl⟩ := List.mem_map.1 hrl
        exact fun u hu => partsR_uok (H.out.2.1.each_ l hl) q hq u (List.mem_of_mem_drop (List.mem_of_mem_take hu))) (by rw [listsK_flat]; exact Nat.le_trans (partsK_le key s.L) H.out.2.2.2.2.2) (by omega))
      rw [listsK_flat] at u1
      have HH := Lib.hid hb
      clear hb hown hl7 hul
      go_wp2_with fail
      refine u1.out.mono ?_
      rintro _ w1 ⟨bt, rfl, h1, h2, h3, h4, h5, h6⟩
      have hbx := HH.out
      have H1 := Lib.hid (And.intro h1 (And.intro h2 (And.intro h3 (And.intro h4 (And.intro h5 h6)))))
      clear h1 h2 h3 h4 h5 h6 u1
      rw [show bt.val = .agg #[.slice bt.sA bt.f.length bt.sc, .slice bt.uA bt.l.length bt.uc] from rfl]
      go_wp2_with fail
      exact bodyPost_ret (v := .tuple #[.slice bt.uA bt.l.length bt.uc, .int .i64 (bldE s.f (partsK key s.L))]) (by simp [results, Tryz.results98, go_sem]) rfl ⟨bt, rfl, H1.out.1, H1.out.2.1, H1.out.2.2.1.keep ((Below.refl _ _).alloc (Nat.le_refl _) _), H1.out.2.2.2.1, H1.out.2.2.2.2.1.mono (belows H.out.2.2.1 hbx).size, belows (belows H.out.2.2.1 (belows hbx H1.out.2.2.2.2.2)) ((Below.refl _ _).alloc (Nat.le_refl _) _)⟩
def Hp (P : Nat) (V w : World) : Prop := w.heap[P]? = V.heap[P]?
theorem Hp.refl (P : Nat) (V : World) : Hp P V V := rfl
theorem Hp.set {P R : Nat} {V w : World} (h : Hp P V w) (hR : R ≠ P) (i : Nat) (v : Value) : Hp P V (w.setCell ⟨R, i, none⟩ v) := (Below.heap_setCell w ⟨R, i, none⟩ v P (Ne.symm hR)).trans h
theorem Hp.drew {P : Nat} {V w : World} (h : Hp P V w) : Hp P V w.drew := h
theorem Hp.cell {P i : Nat} {V w : World} {v : Value} (h : Hp P V w) (hc : V.cell? ⟨P, i, none⟩ = some v) : w.cell? ⟨P, i, none⟩ = some v := by
  rw [← hc]
  unfold World.cell?
  rw [show w.heap[P]? = V.heap[P]? from h]
theorem mok_sm {m : Mg} (h : MOk m) (na : m.a.length ≤ 274877906944) (nb : m.b.length ≤ 274877906944) (no : m.o.length ≤ 274877906944) : MgSm m := ⟨h.even.1.2.2, h.even.2.1.2.2, h.even.2.2.2.2, na, nb, no⟩
theorem out_fine {base P R i j k oc : Nat} {m : Mg} {oA : Option Addr} {o : List Up} {w X : World} (h : WSt base P m i j k (.slice oA o.length oc) o w) (hlo : MgLo base m) (hR : R < base) (hs : X.heap.size = w.heap.size) (hX : ∀ b, b ≠ R → X.heap[b]? = w.heap[b]?) : MgIn X X.heap.size (outM m i j oA oc o) ∧ MgLo base (outM m i j oA oc o) := by
  have hl : Lies 6 Up.cells w w.heap.size oA o := by
    obtain ⟨A, c, e, _, _, hh⟩ := lies_of_own (size := 6) (cells := Up.cells) (by decide) ucells_len rfl h.row
    simp only [Value.slice.injEq] at e
    rw [e.1]; exact hh
  have hob : ∀ b o', oA = some (⟨b, o', none⟩ : Addr) → base ≤ b := fun b o' e => by
    subst e
    exact (h.row.lt b rfl).1
  have hlo2 : Lo base oA o := ⟨hob, h.lo⟩
  exact ⟨⟨ups_other h.a (hlo.a.mono (by omega)) hs hX, ups_other h.b (hlo.b.mono (by omega)) hs hX, times_other h.f (hlo.f.mono (by omega)) hs hX, ups_other ⟨hl, h.o_⟩ (hlo2.mono (by omega)) hs hX⟩, ⟨hlo.a, hlo.b, hlo.f, hlo2⟩⟩
theorem wk_box (w : World) (m : Mg) : ∃ V, V = (w.alloc (.cells #[.slice m.aA m.a.length m.ac, .slice m.bA m.b.length m.bc, .int .i64 m.i, .int .i64 m.j, .slice m.sA m.f.length m.sc, .slice m.oA m.o.length m.oc] 127)).alloc (.cells #[.slice none 0 0, .slice none 0 0, .int .i64 0, .int .i64 0, .slice none 0 0, .slice none 0 0] 127) ∧ Below w.heap.size w V ∧ Own V w.heap.size 127 m.cells ∧ Own V (w.heap.size + 1) 127 Mg.nil.cells := mg_box2 w m
set_option maxRecDepth 100000 in
set_option maxHeartbeats 12800000 in
theorem work_any (m : Mg) (fuel : Int) (w : World) (hm : MgIn w w.heap.size m) (hok : MgOk m) (na : m.a.length ≤ 274877906944) (nb : m.b.length ≤ 274877906944) (no : m.o.length ≤ 274877906944) :
    Calls Tryz.prog 112 #[m.val, .int .i64 fuel] w (Worked m fuel w) := by
  obtain ⟨V, hV, hvb, hvo, hvz⟩ := wk_box w m
  have hin := hm.keep hvb
  have y1 := Lib.hid (checkM_any m V hin hok)
  have HB := Lib.hid (And.intro hvb (And.intro hvo hvz))
  have HK := Lib.hid (And.intro hin (And.intro hok (And.intro na (And.intro nb no))))
  have hmv : m.val = .agg #[.slice m.aA m.a.length m.ac, .slice m.bA m.b.length m.bc, .int .i64 m.i, .int .i64 m.j, .slice m.sA m.f.length m.sc, .slice m.oA m.o.length m.oc] := rfl
  rw [hmv] at y1 ⊢
  obtain ⟨d0, d1, d2, d3, d4, d5⟩ := own6 hvo
  clear hm hok hvb hvo hvz hin hmv na nb no
  go_enter Tryz.func112, Tryz.ntmps112
  go_upto_region 1 with fail
  rw [← hV]
  clear hV
  go_wp2_with fail
  refine y1.out.mono ?_
  rintro _ w1 ⟨n, rfl, hn, b1⟩
  have H1 := Lib.hid (And.intro hn (And.intro (HB.out.1.trans (b1.mono HB.out.1.size)) (And.intro (HB.out.2.1.past b1 HB.out.2.1.inside) (And.intro (HB.out.2.2.past b1 HB.out.2.2.inside) (HK.out.1.keep b1)))))
  clear d0 d1 d2 d3 d4 d5 b1 y1 hn
  by_cases h0 : n = 0
  case neg =>
    have t1 : (n != 0) = true := bne_iff_ne.2 h0
    obtain ⟨f0, f1, f2, f3, f4, f5⟩ := own_frozen6 H1.out.2.2.2.1
    obtain ⟨z0, z1, z2, z3, z4, z5⟩ := own6 H1.out.2.2.2.1
    obtain ⟨X, hX', hXo, hXb, hXs, hXh⟩ := own_six H1.out.2.2.2.1 (.slice none 0 0) (.slice none 0 0) (.int .i64 0) (.int .i64 0) (.slice none 0 0) (.slice none 0 0)
    have HX := Lib.hid (And.intro (hXb w.heap.size w H1.out.2.1 (by omega)) hXo)
    have HR := Lib.hid hX'
    have H0 := Lib.hid h0
    clear hXo hXb hXs hXh hX' h0
    go_wp2_with fail
    rw [← HR.out]
    obtain ⟨x0, x1, x2, x3, x4, x5⟩ := own6 HX.out.2
    exact bodyPost_ret (v := .tuple #[.agg #[.slice none 0 0, .slice none 0 0, .int .i64 0, .int .i64 0, .slice none 0 0, .slice none 0 0], .int .i64 0, .int .i64 n]) (by simp [results, Tryz.results112, go_sem, x0, x1, x2, x3, x4, x5]) rfl ⟨Mg.nil, 0, n, rfl, .inl (by
      rcases H1.out.1 with ⟨_, e⟩ | ⟨e, e2⟩
      · exact absurd e H0.out
      · exact ⟨e, rfl, rfl, e2⟩), mg_nil_in _ _, mg_nil_ok, mg_nil_lo _, HX.out.1⟩
  subst h0
  have hmok : MOk m := by
    rcases H1.out.1 with ⟨e, _⟩ | ⟨_, e⟩
    · exact e
    · omega
  have y2 := Lib.hid (copyM_any m w1 H1.out.2.2.2.2 HK.out.2.1 (mok_sm hmok HK.out.2.2.1 HK.out.2.2.2.1 HK.out.2.2.2.2))
  obtain ⟨d0, d1, d2, d3, d4, d5⟩ := own6 H1.out.2.2.1
  have HM := Lib.hid hmok
  rw [show m.val = .agg #[.slice m.aA m.a.length m.ac, .slice m.bA m.b.length m.bc, .int .i64 m.i, .int .i64 m.j, .slice m.sA m.f.length m.sc, .slice m.oA m.o.length m.oc] from rfl] at y2
  clear hmok
  go_wp2_with fail
  refine y2.out.mono ?_
  rintro _ w2 ⟨m1, rfl, hs1, hi1, ho1, hl1, b2, ha1⟩
  clear d0 d1 d2 d3 d4 d5 y2
  -- loop
  unfold Mg.val
  obtain ⟨i1, hi1'⟩ : ∃ i : Nat, m1.i = (i : Int) := ⟨m1.i.toNat, by have := HM.out.da.lo; rw [hs1.i]; omega⟩
  obtain ⟨j1, hj1'⟩ : ∃ j : Nat, m1.j = (j : Int) := ⟨m1.j.toNat, by have := HM.out.db.lo; rw [hs1.j]; omega⟩
  have hi1l : i1 ≤ m1.a.length := by have := HM.out.da.hi; have h3 := hs1.i; rw [len_p hs1.a]; omega
  have hj1l : j1 ≤ m1.b.length := by have := HM.out.db.hi; have h3 := hs1.j; rw [len_p hs1.b]; omega
  rw [hi1', hj1']
  obtain ⟨V2, hV2⟩ : ∃ V2, V2 = w2.alloc (.cells #[.slice m1.aA m1.a.length m1.ac, .slice m1.bA m1.b.length m1.bc, .int .i64 (i1 : Int), .int .i64 (j1 : Int), .slice m1.sA m1.f.length m1.sc, .slice m1.oA m1.o.length m1.oc, .int .i64 0] 218) := ⟨_, rfl⟩
  have hst0 := wst_start hi1 ho1 ha1 hi1' hj1' b2.size hl1 hV2
  have hbV2 : Below w1.heap.size w2 V2 := by rw [hV2]; exact (Below.refl _ _).alloc b2.size _
  have hla := len_p hs1.a
  have hlb := len_p hs1.b
  have hlo := len_p hs1.o
  have hnA : m1.a.length ≤ 274877906944 := by rw [hla]; exact HK.out.2.2.1
  have hnB : m1.b.length ≤ 274877906944 := by rw [hlb]; exact HK.out.2.2.2.1
  have hnO : m1.o.length ≤ 274877906944 := by rw [hlo]; exact HK.out.2.2.2.2
  have hRz := (H1.out.2.2.2.1.past b2 H1.out.2.2.2.1.inside).past hbV2 H1.out.2.2.2.1.inside
  have hNl : (m.a.length - m.i.toNat) + (m.b.length - m.j.toNat) = (m1.a.length - i1) + (m1.b.length - j1) := by have h3 := hs1.i; have h4 := hs1.j; rw [hla, hlb]; omega
  have hii : m.i.toNat = i1 := by have h3 := hs1.i; omega
  have hjj : m.j.toNat = j1 := by have h3 := hs1.j; omega
  have H2 := Lib.hid (And.intro (And.intro H1.out.2.1.size H1.out.2.2.2.1.inside) (And.intro (show Below w.heap.size w V2 from (H1.out.2.1.trans (b2.mono H1.out.2.1.size)).trans (hbV2.mono H1.out.2.1.size)) (And.intro hRz (And.intro ho1 (And.intro hs1 (And.intro hl1 (And.intro ha1 (And.intro (And.intro hNl (And.intro hii hjj)) hst0))))))))
  have hP2 : w2.heap.size < V2.heap.size := hst0.own.inside
  obtain ⟨P, hP⟩ : ∃ P, P = w2.heap.size := ⟨_, rfl⟩
  have HST := Lib.hid (show WSt w1.heap.size P m1 i1 j1 0 (.slice m1.oA m1.o.length m1.oc) m1.o V2 from hP ▸ hst0)
  clear hs1 hi1 ho1 hl1 b2 ha1 hi1' hj1' hst0 hbV2 hla hlb hlo hRz hNl hii hjj hP2
  go_wp2_with fail
  rw [← hV2, ← hP]
  clear hV2 hP
  go_loopw [9] (fun _ wr => ∃ (i j k : Nat) (v : Value) (o : List Up) (n : Nat), WSt w1.heap.size P m1 i j k v o wr ∧ Below w1.heap.size V2 wr ∧ i ≤ m1.a.length ∧ j ≤ m1.b.length ∧ k ≤ i + j ∧ o.length + (m1.a.length - i) + (m1.b.length - j) ≤ 824633720832 ∧
      workM m1.f fuel ((m1.a.length - i1) + (m1.b.length - j1)) (curM m1 i1 j1 0 m1.o) = workM m1.f fuel n (curM m1 i j k o) ∧ (m1.a.length - i) + (m1.b.length - j) ≤ n)
    (fun _ wr => m1.a.length + m1.b.length - ((intOf ((wr.cell? ⟨P, 2, none⟩).getD undef)).toNat + (intOf ((wr.cell? ⟨P, 3, none⟩).getD undef)).toNat))
  case atStart => exact ⟨i1, j1, 0, _, m1.o, _, HST.out, Below.refl _ _, hi1l, hj1l, by omega, by omega, rfl, Nat.le_refl _⟩
  case round =>
    obtain ⟨i, j, k, v, o, n, hws, hbv, hi, hj, hk, hsz, hw, hn⟩ := hrel
    obtain ⟨oA, oc, hv, _, _, _⟩ := lies_of_own (size := 6) (cells := Up.cells) (by decide) ucells_len rfl hws.row
    subst hv
    obtain ⟨wi, hwi⟩ : ∃ wi, wi = wr := ⟨_, rfl⟩
    subst hwi
    have y1 := Lib.hid (left_any P m1 i j k _ wi hws.own (by omega) (by omega) (by omega) (by omega))
    have HN := Lib.hid (And.intro hi (And.intro hj (And.intro hk (And.intro hsz (And.intro hw hn)))))
    have HW := Lib.hid (And.intro hws hbv)
    clear hws hbv hw
    have HC := Lib.hid (show WSt w1.heap.size P m1 i j k (.slice oA o.length oc) o wi ∧ Below w1.heap.size V2 wi from HW.out)
    obtain ⟨c0, c1, c2, c3, c4, c5, c6⟩ := own7 HC.out.1.own
    by_cases hlf : i < m1.a.length ∨ j < m1.b.length
    case neg =>
      have hD : decide (i < m1.a.length ∨ j < m1.b.length) = false := decide_eq_false hlf
      rw [hD] at y1
      have HE := Lib.hid (show workM m1.f fuel n (curM m1 i j k o) = { curM m1 i j k o with E := 0 } from work_none (cur_none (by omega) (by omega)) n)
      clear hD hlf c0 c1 c2 c3 c4 c5 c6
      go_wp2_with fail
      refine y1.out.mono ?_
      rintro _ wl ⟨rfl, q, hq⟩
      have h9 : WSt w1.heap.size P m1 i j k (.slice oA o.length oc) o wl := hq ▸ HC.out.1.past (below_draws (Below.refl _ _) q)
      have b9 : Below w1.heap.size V2 wl := hq ▸ below_draws HC.out.2 q
      have HQ := Lib.hid (And.intro h9 b9)
      have hC := fun p : Past wl => own7 ((h9.past p.h).own)
      clear hq h9 b9 y1
      have hwt := hC ⟨wl, Below.refl _ _⟩
      obtain ⟨c0, c1, c2, c3, c4, c5, c6⟩ := hwt
      dsimp only at c0 c1 c2 c3 c4 c5 c6
      have HS := Lib.hid (fun W (h : Hp P wl W) => (⟨h.cell c0, h.cell c1, h.cell c2, h.cell c3, h.cell c4, h.cell c5, h.cell c6⟩ : W.cell? ⟨P, 0, none⟩ = some (.slice m1.aA m1.a.length m1.ac) ∧ W.cell? ⟨P, 1, none⟩ = some (.slice m1.bA m1.b.length m1.bc) ∧ W.cell? ⟨P, 2, none⟩ = some (.int .i64 (i : Int)) ∧ W.cell? ⟨P, 3, none⟩ = some (.int .i64 (j : Int)) ∧ W.cell? ⟨P, 4, none⟩ = some (.slice m1.sA m1.f.length m1.sc) ∧ W.cell? ⟨P, 5, none⟩ = some (.slice oA o.length oc) ∧ W.cell? ⟨P, 6, none⟩ = some (.int .i64 (k : Int))))
      have hself := Hp.refl P wl
      have hRP : w.heap.size + 1 ≠ P := by have h1 := H2.out.1.2; have h2 := HST.out.base_; omega
      have hwz := (H2.out.2.2.1.past HQ.out.2 (by have := H2.out.1.2; omega))
      obtain ⟨f0, f1, f2, f3, f4, f5⟩ := own_frozen6 hwz
      obtain ⟨z0, z1, z2, z3, z4, z5⟩ := own6 hwz
      clear hwz
      go_upto_region 9 with fail
      have HDR := Lib.hid (Below.drew (Below.refl wl.heap.size wl))
      go_region_held3 (fun w' => Hp P wl w' ∧ (w'.cell? ⟨P, 0, none⟩ = some (.slice m1.aA m1.a.length m1.ac) ∧ w'.cell? ⟨P, 1, none⟩ = some (.slice m1.bA m1.b.length m1.bc) ∧ w'.cell? ⟨P, 2, none⟩ = some (.int .i64 (i : Int)) ∧ w'.cell? ⟨P, 3, none⟩ = some (.int .i64 (j : Int)) ∧ w'.cell? ⟨P, 4, none⟩ = some (.slice m1.sA m1.f.length m1.sc) ∧ w'.cell? ⟨P, 5, none⟩ = some (.slice oA o.length oc) ∧ w'.cell? ⟨P, 6, none⟩ = some (.int .i64 (k : Int))))
        ((refine (fun h => And.intro h (HS.out _ h)) ?_; repeat (first | with_reducible exact hself | with_reducible refine Hp.set ?_ hRP _ _ | with_reducible refine Hp.drew ?_)))
        (fail)
      clear c0 c1 c2 c3 c4 c5 c6 f0 f1 f2 f3 f4 f5 z0 z1 z2 z3 z4 z5 hself
      have hz := (H2.out.2.2.1.past HQ.out.2 (by have := H2.out.1.2; omega))
      have hst := HQ.out.1
      have hbb := HQ.out.2
      obtain ⟨X, hX', hXo, hXb, hXs, hXh⟩ := own_six hz (.slice m1.aA m1.a.length m1.ac) (.slice m1.bA m1.b.length m1.bc) (.int .i64 (i : Int)) (.int .i64 (j : Int)) (.slice m1.sA m1.f.length m1.sc) (.slice oA o.length oc)
      obtain ⟨r1, r2⟩ := out_fine (R := w.heap.size + 1) hst H2.out.2.2.2.2.2.1 H2.out.1.2 hXs hXh
      have HX := Lib.hid (And.intro (Below.drew (hXb w.heap.size w (H2.out.2.1.trans (hbb.mono H2.out.1.1)) (by omega))) (And.intro (own_drew' hXo) (And.intro (show MgIn X.drew X.drew.heap.size (outM m1 i j oA oc o) from r1.keep (Below.drew (Below.refl _ _))) (r2.mono H2.out.1.1))))
      have HR := Lib.hid hX'
      clear hst hbb hz hXo hXb hXs hXh hX' hC r1 r2 HS HDR
      go_wp2_with fail
      rw [← HR.out]
      obtain ⟨x0, x1, x2, x3, x4, x5⟩ := own6 HX.out.2.1
      exact bodyPost_ret (v := .tuple #[.agg #[.slice m1.aA m1.a.length m1.ac, .slice m1.bA m1.b.length m1.bc, .int .i64 (i : Int), .int .i64 (j : Int), .slice m1.sA m1.f.length m1.sc, .slice oA o.length oc], .int .i64 (k : Int), .int .i64 0]) (by simp [results, Tryz.results112, go_sem, x0, x1, x2, x3, x4, x5]) rfl ⟨outM m1 i j oA oc o, k, 0, rfl, .inr ⟨HM.out, ⟨H2.out.2.2.2.2.1.a, H2.out.2.2.2.2.1.b, H2.out.2.2.2.2.1.f, work_fin H2.out.2.2.2.2.1 HN.out.2.2.2.2.1 HN.out.1 HN.out.2.1 H2.out.2.2.2.2.2.2.2.1 HE.out⟩⟩, HX.out.2.2.1, ⟨H2.out.2.2.2.1.a, H2.out.2.2.2.1.b, H2.out.2.2.2.1.f, ⟨by have := HN.out.2.2.2.1; show o.length ≤ _; omega, HQ.out.1.ok⟩, ⟨by show -9223372036854775808 ≤ (i : Int); omega, by show (i : Int) ≤ 9223372036854775807; omega⟩, ⟨by show -9223372036854775808 ≤ (j : Int); omega, by show (j : Int) ≤ 9223372036854775807; omega⟩⟩, HX.out.2.2.2, HX.out.1⟩
    have hD : decide (i < m1.a.length ∨ j < m1.b.length) = true := decide_eq_true hlf
    rw [hD] at y1
    by_cases hf : (k : Int) < fuel
    case neg =>
      have t1 : decide ((k : Int) < fuel) = false := decide_eq_false hf
      have HE := Lib.hid (show workM m1.f fuel n (curM m1 i j k o) = { curM m1 i j k o with E := 0 } from work_full hf n)
      clear hD hlf hf c0 c1 c2 c3 c4 c5 c6
      go_wp2_with fail
      refine y1.out.mono ?_
      rintro _ wl ⟨rfl, q, hq⟩
      have h9 : WSt w1.heap.size P m1 i j k (.slice oA o.length oc) o wl := hq ▸ HC.out.1.past (below_draws (Below.refl _ _) q)
      have b9 : Below w1.heap.size V2 wl := hq ▸ below_draws HC.out.2 q
      have HQ := Lib.hid (And.intro h9 b9)
      have hC := fun p : Past wl => own7 ((h9.past p.h).own)
      obtain ⟨c0, c1, c2, c3, c4, c5, c6⟩ := own7 h9.own
      clear hq h9 b9 y1
      have hwt := hC ⟨wl, Below.refl _ _⟩
      obtain ⟨c0, c1, c2, c3, c4, c5, c6⟩ := hwt
      dsimp only at c0 c1 c2 c3 c4 c5 c6
      have HS := Lib.hid (fun W (h : Hp P wl W) => (⟨h.cell c0, h.cell c1, h.cell c2, h.cell c3, h.cell c4, h.cell c5, h.cell c6⟩ : W.cell? ⟨P, 0, none⟩ = some (.slice m1.aA m1.a.length m1.ac) ∧ W.cell? ⟨P, 1, none⟩ = some (.slice m1.bA m1.b.length m1.bc) ∧ W.cell? ⟨P, 2, none⟩ = some (.int .i64 (i : Int)) ∧ W.cell? ⟨P, 3, none⟩ = some (.int .i64 (j : Int)) ∧ W.cell? ⟨P, 4, none⟩ = some (.slice m1.sA m1.f.length m1.sc) ∧ W.cell? ⟨P, 5, none⟩ = some (.slice oA o.length oc) ∧ W.cell? ⟨P, 6, none⟩ = some (.int .i64 (k : Int))))
      have hself := Hp.refl P wl
      have hRP : w.heap.size + 1 ≠ P := by have h1 := H2.out.1.2; have h2 := HST.out.base_; omega
      have hwz := (H2.out.2.2.1.past HQ.out.2 (by have := H2.out.1.2; omega))
      obtain ⟨f0, f1, f2, f3, f4, f5⟩ := own_frozen6 hwz
      obtain ⟨z0, z1, z2, z3, z4, z5⟩ := own6 hwz
      clear hwz
      go_upto_region 9 with fail
      have HDR := Lib.hid (Below.drew (Below.refl wl.heap.size wl))
      go_region_held3 (fun w' => Hp P wl w' ∧ (w'.cell? ⟨P, 0, none⟩ = some (.slice m1.aA m1.a.length m1.ac) ∧ w'.cell? ⟨P, 1, none⟩ = some (.slice m1.bA m1.b.length m1.bc) ∧ w'.cell? ⟨P, 2, none⟩ = some (.int .i64 (i : Int)) ∧ w'.cell? ⟨P, 3, none⟩ = some (.int .i64 (j : Int)) ∧ w'.cell? ⟨P, 4, none⟩ = some (.slice m1.sA m1.f.length m1.sc) ∧ w'.cell? ⟨P, 5, none⟩ = some (.slice oA o.length oc) ∧ w'.cell? ⟨P, 6, none⟩ = some (.int .i64 (k : Int))))
        ((refine (fun h => And.intro h (HS.out _ h)) ?_; repeat (first | with_reducible exact hself | with_reducible refine Hp.set ?_ hRP _ _ | with_reducible refine Hp.drew ?_)))
        (fail)
      clear c0 c1 c2 c3 c4 c5 c6 f0 f1 f2 f3 f4 f5 z0 z1 z2 z3 z4 z5 hself
      have hz := (H2.out.2.2.1.past HQ.out.2 (by have := H2.out.1.2; omega))
      have hst := HQ.out.1
      have hbb := HQ.out.2
      obtain ⟨X, hX', hXo, hXb, hXs, hXh⟩ := own_six hz (.slice m1.aA m1.a.length m1.ac) (.slice m1.bA m1.b.length m1.bc) (.int .i64 (i : Int)) (.int .i64 (j : Int)) (.slice m1.sA m1.f.length m1.sc) (.slice oA o.length oc)
      obtain ⟨r1, r2⟩ := out_fine (R := w.heap.size + 1) hst H2.out.2.2.2.2.2.1 H2.out.1.2 hXs hXh
      have HX := Lib.hid (And.intro (Below.drew (hXb w.heap.size w (H2.out.2.1.trans (hbb.mono H2.out.1.1)) (by omega))) (And.intro (own_drew' hXo) (And.intro (show MgIn X.drew X.drew.heap.size (outM m1 i j oA oc o) from r1.keep (Below.drew (Below.refl _ _))) (r2.mono H2.out.1.1))))
      have HR := Lib.hid hX'
      clear hst hbb hz hXo hXb hXs hXh hX' hC r1 r2 HS HDR
      go_wp2_with fail
      rw [← HR.out]
      obtain ⟨x0, x1, x2, x3, x4, x5⟩ := own6 HX.out.2.1
      exact bodyPost_ret (v := .tuple #[.agg #[.slice m1.aA m1.a.length m1.ac, .slice m1.bA m1.b.length m1.bc, .int .i64 (i : Int), .int .i64 (j : Int), .slice m1.sA m1.f.length m1.sc, .slice oA o.length oc], .int .i64 (k : Int), .int .i64 0]) (by simp [results, Tryz.results112, go_sem, x0, x1, x2, x3, x4, x5]) rfl ⟨outM m1 i j oA oc o, k, 0, rfl, .inr ⟨HM.out, ⟨H2.out.2.2.2.2.1.a, H2.out.2.2.2.2.1.b, H2.out.2.2.2.2.1.f, work_fin H2.out.2.2.2.2.1 HN.out.2.2.2.2.1 HN.out.1 HN.out.2.1 H2.out.2.2.2.2.2.2.2.1 HE.out⟩⟩, HX.out.2.2.1, ⟨H2.out.2.2.2.1.a, H2.out.2.2.2.1.b, H2.out.2.2.2.1.f, ⟨by have := HN.out.2.2.2.1; show o.length ≤ _; omega, HQ.out.1.ok⟩, ⟨by show -9223372036854775808 ≤ (i : Int); omega, by show (i : Int) ≤ 9223372036854775807; omega⟩, ⟨by show -9223372036854775808 ≤ (j : Int); omega, by show (j : Int) ≤ 9223372036854775807; omega⟩⟩, HX.out.2.2.2, HX.out.1⟩
    have t1 : decide ((k : Int) < fuel) = true := decide_eq_true hf
    have hA9 := H2.out.2.2.2.2.2.2.1
    have HT := Lib.hid (And.intro hf hlf)
    clear hD hf c0 c1 c2 c3 c4 c5 c6
    go_wp2_with fail
    refine y1.out.mono ?_
    rintro _ wl ⟨rfl, q, hq⟩
    have h9 : WSt w1.heap.size P m1 i j k (.slice oA o.length oc) o wl := hq ▸ HC.out.1.past (below_draws (Below.refl _ _) q)
    have b9 : Below w1.heap.size V2 wl := hq ▸ below_draws HC.out.2 q
    have y3 := Lib.hid (step_anyB w1.heap.size P m1 i j k (.slice oA o.length oc) o wl h9 hA9.na hA9.nb H2.out.2.2.2.1.a H2.out.2.2.2.1.b H2.out.2.2.2.1.f hA9.ac hA9.bc HN.out.1 HN.out.2.1 HT.out.2 (by omega) HN.out.2.2.2.1)
    obtain ⟨c0, c1, c2, c3, c4, c5, c6⟩ := own7 h9.own
    have HZ := Lib.hid b9
    clear hq h9 b9 y1 hA9 hlf
    go_wp2_with fail
    refine y3.out.mono ?_
    rintro _ w5 ⟨u, E, hnx, hE, rfl, b5, hor⟩
    clear c0 c1 c2 c3 c4 c5 c6 y3
    by_cases h0 : E = 0
    case neg =>
      have t2 : (E != 0) = true := bne_iff_ne.2 h0
      have h5 : WSt w1.heap.size P m1 i j k (.slice oA o.length oc) o w5 := by
        rcases hor with ⟨_, h⟩ | ⟨e, _⟩
        · exact h
        · exact absurd e h0
      have hn0 : 0 < n := by have := HT.out.2; omega
      have HE := Lib.hid (show workM m1.f fuel n (curM m1 i j k o) = { curM m1 i j k o with E := E } from by
        obtain ⟨n', rfl⟩ : ∃ n', n = n' + 1 := ⟨n - 1, by omega⟩
        have hc : consE [advL m1.f (grp u (curM m1 i j k o).ra ++ grp u (curM m1 i j k o).rb)] ≠ 0 := fun h => h0 (hE.trans h)
        rw [work_err HT.out.1 hnx hc, hE]
        rfl)
      have HQ := Lib.hid (And.intro h5 (HZ.out.trans b5))
      have hC := fun p : Past w5 => own7 ((h5.past p.h).own)
      clear hor h0 hE hnx b5 h5 hn0
      have hwt := hC ⟨w5, Below.refl _ _⟩
      obtain ⟨c0, c1, c2, c3, c4, c5, c6⟩ := hwt
      dsimp only at c0 c1 c2 c3 c4 c5 c6
      have HS := Lib.hid (fun W (h : Hp P w5 W) => (⟨h.cell c0, h.cell c1, h.cell c2, h.cell c3, h.cell c4, h.cell c5, h.cell c6⟩ : W.cell? ⟨P, 0, none⟩ = some (.slice m1.aA m1.a.length m1.ac) ∧ W.cell? ⟨P, 1, none⟩ = some (.slice m1.bA m1.b.length m1.bc) ∧ W.cell? ⟨P, 2, none⟩ = some (.int .i64 (i : Int)) ∧ W.cell? ⟨P, 3, none⟩ = some (.int .i64 (j : Int)) ∧ W.cell? ⟨P, 4, none⟩ = some (.slice m1.sA m1.f.length m1.sc) ∧ W.cell? ⟨P, 5, none⟩ = some (.slice oA o.length oc) ∧ W.cell? ⟨P, 6, none⟩ = some (.int .i64 (k : Int))))
      have hself := Hp.refl P w5
      have hRP : w.heap.size + 1 ≠ P := by have h1 := H2.out.1.2; have h2 := HST.out.base_; omega
      have hwz := (H2.out.2.2.1.past HQ.out.2 (by have := H2.out.1.2; omega))
      obtain ⟨f0, f1, f2, f3, f4, f5⟩ := own_frozen6 hwz
      obtain ⟨z0, z1, z2, z3, z4, z5⟩ := own6 hwz
      clear hwz
      go_upto_region 8 with fail
      have HDR := Lib.hid (Below.drew (Below.refl w5.heap.size w5))
      go_region_held3 (fun w' => Hp P w5 w' ∧ (w'.cell? ⟨P, 0, none⟩ = some (.slice m1.aA m1.a.length m1.ac) ∧ w'.cell? ⟨P, 1, none⟩ = some (.slice m1.bA m1.b.length m1.bc) ∧ w'.cell? ⟨P, 2, none⟩ = some (.int .i64 (i : Int)) ∧ w'.cell? ⟨P, 3, none⟩ = some (.int .i64 (j : Int)) ∧ w'.cell? ⟨P, 4, none⟩ = some (.slice m1.sA m1.f.length m1.sc) ∧ w'.cell? ⟨P, 5, none⟩ = some (.slice oA o.length oc) ∧ w'.cell? ⟨P, 6, none⟩ = some (.int .i64 (k : Int))))
        ((refine (fun h => And.intro h (HS.out _ h)) ?_; repeat (first | with_reducible exact hself | with_reducible refine Hp.set ?_ hRP _ _ | with_reducible refine Hp.drew ?_)))
        (fail)
      clear c0 c1 c2 c3 c4 c5 c6 f0 f1 f2 f3 f4 f5 z0 z1 z2 z3 z4 z5 hself
      have hz := (H2.out.2.2.1.past HQ.out.2 (by have := H2.out.1.2; omega))
      have hst := HQ.out.1
      have hbb := HQ.out.2
      obtain ⟨X, hX', hXo, hXb, hXs, hXh⟩ := own_six hz (.slice m1.aA m1.a.length m1.ac) (.slice m1.bA m1.b.length m1.bc) (.int .i64 (i : Int)) (.int .i64 (j : Int)) (.slice m1.sA m1.f.length m1.sc) (.slice oA o.length oc)
      obtain ⟨r1, r2⟩ := out_fine (R := w.heap.size + 1) hst H2.out.2.2.2.2.2.1 H2.out.1.2 hXs hXh
      have HX := Lib.hid (And.intro (Below.drew (hXb w.heap.size w (H2.out.2.1.trans (hbb.mono H2.out.1.1)) (by omega))) (And.intro (own_drew' hXo) (And.intro (show MgIn X.drew X.drew.heap.size (outM m1 i j oA oc o) from r1.keep (Below.drew (Below.refl _ _))) (r2.mono H2.out.1.1))))
      have HR := Lib.hid hX'
      clear hst hbb hz hXo hXb hXs hXh hX' hC r1 r2 HS HDR
      go_wp2_with fail
      rw [← HR.out]
      obtain ⟨x0, x1, x2, x3, x4, x5⟩ := own6 HX.out.2.1
      exact bodyPost_ret (v := .tuple #[.agg #[.slice m1.aA m1.a.length m1.ac, .slice m1.bA m1.b.length m1.bc, .int .i64 (i : Int), .int .i64 (j : Int), .slice m1.sA m1.f.length m1.sc, .slice oA o.length oc], .int .i64 (k : Int), .int .i64 E]) (by simp [results, Tryz.results112, go_sem, x0, x1, x2, x3, x4, x5]) rfl ⟨outM m1 i j oA oc o, k, E, rfl, .inr ⟨HM.out, ⟨H2.out.2.2.2.2.1.a, H2.out.2.2.2.2.1.b, H2.out.2.2.2.2.1.f, work_fin H2.out.2.2.2.2.1 HN.out.2.2.2.2.1 HN.out.1 HN.out.2.1 H2.out.2.2.2.2.2.2.2.1 HE.out⟩⟩, HX.out.2.2.1, ⟨H2.out.2.2.2.1.a, H2.out.2.2.2.1.b, H2.out.2.2.2.1.f, ⟨by have := HN.out.2.2.2.1; show o.length ≤ _; omega, HQ.out.1.ok⟩, ⟨by show -9223372036854775808 ≤ (i : Int); omega, by show (i : Int) ≤ 9223372036854775807; omega⟩, ⟨by show -9223372036854775808 ≤ (j : Int); omega, by show (j : Int) ≤ 9223372036854775807; omega⟩⟩, HX.out.2.2.2, HX.out.1⟩
    subst h0
    obtain ⟨v', e, he, h5⟩ : ∃ (v' : Value) (e : List Up), e.map Up.p = consL [advL m1.f (grp u (m1.a.drop i) ++ grp u (m1.b.drop j))] ∧ WSt w1.heap.size P m1 (i + (grp u (m1.a.drop i)).length) (j + (grp u (m1.b.drop j)).length) (k + ((grp u (m1.a.drop i)).length + (grp u (m1.b.drop j)).length)) v' (o ++ e) w5 := by
      rcases hor with ⟨h, _⟩ | ⟨_, h⟩
      · exact absurd rfl h
      · exact h
    have hpos := grp_pos hnx
    have hg1 := grp_lens u m1.a i
    have hg2 := grp_lens u m1.b j
    have hel : e.length ≤ (grp u (m1.a.drop i)).length + (grp u (m1.b.drop j)).length := by
      have := consL_len [advL m1.f (grp u (m1.a.drop i) ++ grp u (m1.b.drop j))]
      rw [← he, List.length_map] at this
      simp only [List.flatten_cons, List.flatten_nil, List.append_nil, advL_len, List.length_append] at this
      exact this
    have hwk : workM m1.f fuel n (curM m1 i j k o) = workM m1.f fuel (n - 1) (curM m1 (i + (grp u (m1.a.drop i)).length) (j + (grp u (m1.b.drop j)).length) (k + ((grp u (m1.a.drop i)).length + (grp u (m1.b.drop j)).length)) (o ++ e)) := by
      obtain ⟨n', rfl⟩ : ∃ n', n = n' + 1 := ⟨n - 1, by have := HT.out.2; omega⟩
      rw [work_more HT.out.1 hnx hE.symm, cur_step m1 i j k o e u he]
      rfl
    have H5 := Lib.hid (And.intro h5 (And.intro (HZ.out.trans b5) (And.intro hpos (And.intro hg1 (And.intro hg2 (And.intro hel hwk))))))
    obtain ⟨c0, c1, c2, c3, c4, c5, c6⟩ := own7 h5.own
    have HM2 := Lib.hid (And.intro c2 c3)
    have HM0 := Lib.hid (own7 HC.out.1.own)
    clear hor hE hnx b5 h5 he hpos hg1 hg2 hel hwk c0 c1 c2 c3 c4 c5 c6
    go_wp2_with fail
    go_roundw
    case rel =>
      have q1 := H5.out.2.2.1
      have q2 := H5.out.2.2.2.1
      have q3 := H5.out.2.2.2.2.1
      have q4 := H5.out.2.2.2.2.2.1
      exact ⟨_, _, _, v', o ++ e, n - 1, H5.out.1, H5.out.2.1, by omega, by omega, by omega, by rw [List.length_append]; omega, HN.out.2.2.2.2.1.trans H5.out.2.2.2.2.2.2, by omega⟩
    case measure =>
      have q1 := H5.out.2.2.1
      have q2 := H5.out.2.2.2.1
      have q3 := H5.out.2.2.2.2.1
      rw [HM2.out.1, HM2.out.2, HM0.out.2.2.1, HM0.out.2.2.2.1]
      simp only [Option.getD_some, intOf]
      omega
def EndOk (m : Mg) : Prop := MOk m ∧ m.i = (m.a.length : Int) ∧ m.j = (m.b.length : Int)
def EndSaysB (m : Mg) (w : World) (x : Ending) (w' : World) : Prop :=
  ∃ (b : Bt) (E : Int), x = .returned (.tuple #[b.val, .int .i64 E]) ∧ (E = 0 ∧ EndOk m ∧ b.f = m.f ∧ b.l.map Up.p = m.o.map Up.p ∨ E = 8 ∧ ¬ EndOk m ∧ b = Bt.nil) ∧ BtIn w' w'.heap.size b ∧ BtOk b ∧ BtLo w.heap.size b ∧ Below w.heap.size w w'
theorem en_box (w : World) (m : Mg) : ∃ V, V = (w.alloc (.cells #[.slice m.aA m.a.length m.ac, .slice m.bA m.b.length m.bc, .int .i64 m.i, .int .i64 m.j, .slice m.sA m.f.length m.sc, .slice m.oA m.o.length m.oc] 127)).alloc (.cells #[.slice none 0 0, .slice none 0 0] 125) ∧ Below w.heap.size w V ∧ Own V w.heap.size 127 m.cells ∧ Own V (w.heap.size + 1) 125 [.slice none 0 0, .slice none 0 0] := by
  refine ⟨_, rfl, ((Below.refl _ _).alloc (Nat.le_refl _) _).alloc (by simp) _, (Own.made w 127 m.cells).more _, ?_⟩
  exact own_next (w := w.alloc (.cells #[.slice m.aA m.a.length m.ac, .slice m.bA m.b.length m.bc, .int .i64 m.i, .int .i64 m.j, .slice m.sA m.f.length m.sc, .slice m.oA m.o.length m.oc] 127)) (l := [.slice none 0 0, .slice none 0 0]) (by simp)
set_option maxRecDepth 100000 in
set_option maxHeartbeats 12800000 in
theorem end_any (m : Mg) (w : World) (hm : MgIn w w.heap.size m) (hok : MgOk m) (no : m.o.length ≤ 274877906944) :
    Calls Tryz.prog 157 #[m.val] w (EndSaysB m w) := by
  obtain ⟨V, hV, hvb, hvo, hvz⟩ := en_box w m
  have hin := hm.keep hvb
  have y1 := Lib.hid (checkM_any m V hin hok)
  have HB := Lib.hid (And.intro hvb (And.intro hvo hvz))
  have HK := Lib.hid (And.intro hin (And.intro hok no))
  have hmv : m.val = .agg #[.slice m.aA m.a.length m.ac, .slice m.bA m.b.length m.bc, .int .i64 m.i, .int .i64 m.j, .slice m.sA m.f.length m.sc, .slice m.oA m.o.length m.oc] := rfl
  rw [hmv] at y1 ⊢
  obtain ⟨d0, d1, d2, d3, d4, d5⟩ := own6 hvo
  clear hm hok hvb hvo hvz hin hmv no
  go_enter Tryz.func157, Tryz.ntmps157
  go_upto_region 1 with fail
  rw [← hV]
  clear hV
  go_wp2_with fail
  refine y1.out.mono ?_
  rintro _ w1 ⟨n, rfl, hn, b1⟩
  have H1 := Lib.hid (And.intro hn (And.intro (HB.out.1.trans (b1.mono HB.out.1.size)) (And.intro (HB.out.2.1.past b1 HB.out.2.1.inside) (And.intro (HB.out.2.2.past b1 HB.out.2.2.inside) (HK.out.1.keep b1)))))
  clear d0 d1 d2 d3 d4 d5 b1 y1 hn
  by_cases h0 : n = 0
  case neg =>
    have t1 : (n != 0) = true := bne_iff_ne.2 h0
    have hz := H1.out.2.2.2.1
    have f0 := hz.open_ 0
    have f1 := hz.open_ 1
    obtain ⟨d0, d1⟩ := own2 hz
    have hX := (hz.set_ 0 (.slice none 0 0)).set_ 1 (.slice none 0 0)
    have HX := Lib.hid (And.intro (H1.out.2.1.setCell (p := ⟨w.heap.size + 1, 0, none⟩) (Nat.le_succ _) (.slice none 0 0) |>.setCell (p := ⟨w.heap.size + 1, 1, none⟩) (Nat.le_succ _) (.slice none 0 0)) hX)
    have H0 := Lib.hid (show n = 8 ∧ ¬ MOk m from by
      rcases H1.out.1 with ⟨_, e⟩ | ⟨e, e2⟩
      · exact absurd e h0
      · exact ⟨e2, e⟩)
    clear h0 hz hX
    go_wp2_with fail
    obtain ⟨x0, x1⟩ := own2 HX.out.2
    exact bodyPost_ret (v := .tuple #[.agg #[.slice none 0 0, .slice none 0 0], .int .i64 n]) (by simp [results, Tryz.results157, go_sem, x0, x1]) rfl ⟨Bt.nil, n, rfl, .inr ⟨H0.out.1, fun h => H0.out.2 h.1, rfl⟩, bt_nil_in _ _, bt_nil_ok, bt_nil_lo _, HX.out.1⟩
  subst h0
  have hmok : MOk m := by
    rcases H1.out.1 with ⟨e, _⟩ | ⟨_, e⟩
    · exact e
    · omega
  obtain ⟨i, hi⟩ : ∃ i : Nat, m.i = (i : Int) := ⟨m.i.toNat, by have := hmok.da.lo; omega⟩
  obtain ⟨j, hj⟩ : ∃ j : Nat, m.j = (j : Int) := ⟨m.j.toNat, by have := hmok.db.lo; omega⟩
  have hil : i ≤ m.a.length := by have := hmok.da.hi; omega
  have hjl : j ≤ m.b.length := by have := hmok.db.hi; omega
  have hna := HK.out.2.1.a.n
  have hnb := HK.out.2.1.b.n
  obtain ⟨d0, d1, d2, d3, d4, d5⟩ := own6 H1.out.2.2.1
  rw [hi] at d2
  rw [hj] at d3
  obtain ⟨V2, hV2⟩ : ∃ V2, V2 = w1.alloc (.cells #[.slice m.aA m.a.length m.ac, .slice m.bA m.b.length m.bc, .int .i64 (i : Int), .int .i64 (j : Int), .slice m.sA m.f.length m.sc, .slice m.oA m.o.length m.oc, .int .i64 0] 218) := ⟨_, rfl⟩
  have hbV : Below w1.heap.size w1 V2 := by rw [hV2]; exact (Below.refl _ _).alloc (Nat.le_refl _) _
  have hP : Own V2 w1.heap.size 218 (mcells m i j (.slice m.oA m.o.length m.oc) 0) := by rw [hV2]; exact Own.made w1 _ (mcells m i j (.slice m.oA m.o.length m.oc) 0)
  have y2 := Lib.hid (left_any w1.heap.size m i j 0 _ V2 hP (by omega) (by omega) hna hnb)
  have H2 := Lib.hid (And.intro (H1.out.2.1.trans (hbV.mono H1.out.2.1.size)) (And.intro (H1.out.2.2.1.past hbV H1.out.2.2.1.inside) (And.intro (H1.out.2.2.2.1.past hbV H1.out.2.2.2.1.inside) (And.intro (H1.out.2.2.2.2.keep hbV) (And.intro hmok (And.intro hi hj))))))
  have HR := Lib.hid hV2
  clear hbV hP hmok hi hj hV2
  by_cases hlf : i < m.a.length ∨ j < m.b.length
  case pos =>
    have hD : decide (i < m.a.length ∨ j < m.b.length) = true := decide_eq_true hlf
    rw [hD] at y2
    have H0 := Lib.hid (show ¬ EndOk m from fun h => by have h1 := h.2.1; have h2 := h.2.2; rw [H2.out.2.2.2.2.2.1] at h1; rw [H2.out.2.2.2.2.2.2] at h2; omega)
    clear hD hlf
    go_wp2_with fail
    rw [← HR.out]
    refine y2.out.mono ?_
    rintro _ wl ⟨rfl, q, hq⟩
    have hz : Own wl (w.heap.size + 1) 125 [.slice none 0 0, .slice none 0 0] := hq ▸ H2.out.2.2.1.draws q
    have hb9 : Below w.heap.size w wl := hq ▸ below_draws H2.out.1 q
    have f0 := hz.open_ 0
    have f1 := hz.open_ 1
    clear d0 d1 d2 d3 d4 d5 hq y2
    obtain ⟨d0, d1⟩ := own2 hz
    have hX := (hz.set_ 0 (.slice none 0 0)).set_ 1 (.slice none 0 0)
    have HX := Lib.hid (And.intro (hb9.setCell (p := ⟨w.heap.size + 1, 0, none⟩) (Nat.le_succ _) (.slice none 0 0) |>.setCell (p := ⟨w.heap.size + 1, 1, none⟩) (Nat.le_succ _) (.slice none 0 0)) hX)
    clear hz hX hb9
    go_wp2_with fail
    obtain ⟨x0, x1⟩ := own2 HX.out.2
    exact bodyPost_ret (v := .tuple #[.agg #[.slice none 0 0, .slice none 0 0], .int .i64 8]) (by simp [results, Tryz.results157, go_sem, x0, x1]) rfl ⟨Bt.nil, 8, rfl, .inr ⟨rfl, H0.out, rfl⟩, bt_nil_in _ _, bt_nil_ok, bt_nil_lo _, HX.out.1⟩
  have hD : decide (i < m.a.length ∨ j < m.b.length) = false := decide_eq_false hlf
  rw [hD] at y2
  have H0 := Lib.hid (show EndOk m from ⟨H2.out.2.2.2.2.1, by rw [H2.out.2.2.2.2.2.1]; omega, by rw [H2.out.2.2.2.2.2.2]; omega⟩)
  clear hD hlf
  go_wp2_with fail
  rw [← HR.out]
  refine y2.out.mono ?_
  rintro _ wl ⟨rfl, q, hq⟩
  have hz : Own wl (w.heap.size + 1) 125 [.slice none 0 0, .slice none 0 0] := hq ▸ H2.out.2.2.1.draws q
  have hm9 : Own wl w.heap.size 127 m.cells := hq ▸ H2.out.2.1.draws q
  have hb9 : Below w.heap.size w wl := hq ▸ below_draws H2.out.1 q
  have hi9 : MgIn wl wl.heap.size m := hq ▸ H2.out.2.2.2.1.keep (below_draws (Below.refl _ _) q)
  clear d0 d1 d2 d3 d4 d5 hq y2
  obtain ⟨d0, d1, d2, d3, d4, d5⟩ := own6 hm9
  have y3 := Lib.hid (copyB_any ⟨m.sA, m.sc, m.f, m.oA, m.oc, m.o⟩ wl ⟨hi9.f, hi9.o⟩ ⟨HK.out.2.1.f, HK.out.2.1.o⟩ H0.out.1.even.2.2.2.2 HK.out.2.2)
  rw [show (Bt.mk m.sA m.sc m.f m.oA m.oc m.o).val = .agg #[.slice m.sA m.f.length m.sc, .slice m.oA m.o.length m.oc] from rfl] at y3
  have H9 := Lib.hid (And.intro hz hb9)
  clear hz hm9 hb9 hi9
  go_wp2_with fail
  refine y3.out.mono ?_
  rintro _ w5 ⟨b, rfl, hs5, hi5, ho5, hl5, b5⟩
  have hz := H9.out.1.past b5 H9.out.1.inside
  have f0 := hz.open_ 0
  have f1 := hz.open_ 1
  clear d0 d1 d2 d3 d4 d5 y3
  obtain ⟨d0, d1⟩ := own2 hz
  have hX := (hz.set_ 0 (.slice b.sA b.f.length b.sc)).set_ 1 (.slice b.uA b.l.length b.uc)
  obtain ⟨s1, s2⟩ := set2_other w5 (w.heap.size + 1) (.slice b.sA b.f.length b.sc) (.slice b.uA b.l.length b.uc)
  have hin9 := H9.out.1.inside
  have hw9 := H9.out.2.size
  have HX := Lib.hid (And.intro ((H9.out.2.trans (b5.mono H9.out.2.size)).setCell (p := ⟨w.heap.size + 1, 0, none⟩) (Nat.le_succ _) (.slice b.sA b.f.length b.sc) |>.setCell (p := ⟨w.heap.size + 1, 1, none⟩) (Nat.le_succ _) (.slice b.uA b.l.length b.uc)) (And.intro hX (And.intro (And.intro (times_other hi5.since (hl5.f.mono (by omega)) s1 s2) (ups_other hi5.ups (hl5.l.mono (by omega)) s1 s2)) (And.intro (hl5.mono (by omega)) (And.intro ho5 hs5)))))
  clear hz hX s1 s2 hin9 hw9 hs5 hi5 ho5 hl5 b5
  unfold Bt.val
  go_wp2_with fail
  obtain ⟨x0, x1⟩ := own2 HX.out.2.1
  exact bodyPost_ret (v := .tuple #[.agg #[.slice b.sA b.f.length b.sc, .slice b.uA b.l.length b.uc], .int .i64 0]) (by simp [results, Tryz.results157, go_sem, x0, x1]) rfl ⟨b, 0, rfl, .inl ⟨rfl, H0.out, HX.out.2.2.2.2.2.f, HX.out.2.2.2.2.2.l⟩, ⟨HX.out.2.2.1.1, HX.out.2.2.1.2⟩, HX.out.2.2.2.2.1, HX.out.2.2.2.1, HX.out.1⟩
def Ended (w : World) (base g i : Nat) (s : Sp) (m : Mg) (x : Ending) (w' : World) : Prop :=
  ∃ b : Bt, x = .returned b.val ∧ Wk w' base g ⟨s.sA, s.sc, s.f, s.lA, s.lc, s.L.eraseIdx i⟩ ∧ KeptK w w' (SpS g s.lA) ∧ b.f = m.f ∧ b.l.map Up.p = m.o.map Up.p ∧ BtIn w' w'.heap.size b ∧ BtOk b ∧ BtLo w.heap.size b
theorem end_box (w : World) (m : Mg) : ∃ V, V = (w.alloc (.cells #[.slice m.aA m.a.length m.ac, .slice m.bA m.b.length m.bc, .int .i64 m.i, .int .i64 m.j, .slice m.sA m.f.length m.sc, .slice m.oA m.o.length m.oc] 127)).alloc (.cells #[.slice none 0 0, .slice none 0 0] 125) ∧ Below w.heap.size w V ∧ Own V w.heap.size 127 m.cells ∧ Own V (w.heap.size + 1) 125 [.slice none 0 0, .slice none 0 0] := en_box w m
set_option maxRecDepth 100000 in
set_option maxHeartbeats 6400000 in
theorem ends_any (base g i : Nat) (s : Sp) (m : Mg) (w : World) (h : Wk w base g s) (hi : i < s.L.length) (hm : MgIn w w.heap.size m) (om : MgOk m) (hmo : OfM (SpS g s.lA) m) (no : m.o.length ≤ 274877906944) (he : EndOk m) :
    Calls Tryz.prog 113 #[.pointer (some ⟨g, 0, none⟩), .int .i64 (i : Int), m.val] w (Ended w base g i s m) := by
  obtain ⟨V, hV, hvb, hvm, hvz⟩ := end_box w m
  have hV1 := h.past hvb
  have hn := h.ok.n
  have y1 := Lib.hid (delete_anyS base s.L.length s.lc i s.lA _ V hV1.row hi (lvs_one s.L))
  have c0 : V.cell? ⟨g, 1, none⟩ = some (.slice s.lA s.L.length s.lc) := hV1.own.at_ 1
  have H := Lib.hid (And.intro h (And.intro hvb (And.intro hvm (And.intro hvz (And.intro hm (And.intro om (And.intro hmo (And.intro no he))))))))
  have hw : IntKind.i64.wrap ((i : Int) + 1) = (i : Int) + 1 := by rw [IntKind.wrap_i64]; omega
  have hgl := h.own.inside
  rw [show m.val = .agg #[.slice m.aA m.a.length m.ac, .slice m.bA m.b.length m.bc, .int .i64 m.i, .int .i64 m.j, .slice m.sA m.f.length m.sc, .slice m.oA m.o.length m.oc] from rfl]
  have HP := Lib.hid (show ∀ x w' (b : Bt), x = .returned b.val → Wk w' base g ⟨s.sA, s.sc, s.f, s.lA, s.lc, s.L.eraseIdx i⟩ → KeptK w w' (SpS g s.lA) → b.f = m.f → b.l.map Up.p = m.o.map Up.p → BtIn w' w'.heap.size b → BtOk b → BtLo w.heap.size b → Ended w base g i s m x w' from fun x w' b h1 h2 h3 h4 h5 h6 h7 h8 => ⟨b, h1, h2, h3, h4, h5, h6, h7, h8⟩)
  have HV := Lib.hid hV1
  clear h hm om hmo no he hvb hvm hvz hV1
  go_enter Tryz.func113, Tryz.ntmps113
  go_upto_region 1 with fail
  rw [← hV]
  clear hV
  go_wp2_with fail
  refine y1.out.mono ?_
  rintro _ w2 ⟨rfl, hr, hg⟩
  have hW2 := HV.out.erase (V := V) (i := i) (by omega) (Below.refl _ _) hr hg
  have kk := hg
  rw [blkS_own] at kk
  have k1 : KeptK V w2 (fun k => blkS s.lA = some k) := KeptK.of_grown kk (fun _ e => e)
  have o2 := k1.own HV.out.own HV.out.out
  have f1 : w2.frozen? ⟨g, 1, none⟩ = false := o2.open_ 1
  have e1 : w2.cell? ⟨g, 1, none⟩ = some (.slice s.lA s.L.length s.lc) := o2.at_ 1
  have HW2 := Lib.hid hW2
  clear hr hg kk k1 o2 hW2 c0 y1
  go_upto_region 2 with fail
  obtain ⟨W3, hW3⟩ : ∃ W3, W3 = w2.setCell ⟨g, 1, none⟩ (.slice s.lA (s.L.length - 1) s.lc) := ⟨_, rfl⟩
  rw [← hW3] at HW2 ⊢
  clear hW3 e1 f1
  have ho : ∀ k, SpS g s.lA k → k < w.heap.size := fun k hk => (H.out.1.lt k hk).2
  have hm3 : MgIn W3 W3.heap.size m := mg_kept (H.out.2.2.2.2.1.keep H.out.2.1) H.out.2.2.2.2.2.2.1 HW2.out.2
  have om3 := HW2.out.2.own H.out.2.2.1 (fun h => by have := ho _ h; omega)
  have oz3 := HW2.out.2.own H.out.2.2.2.1 (fun h => by have := ho _ h; omega)
  have y2 := Lib.hid (end_any m W3 hm3 H.out.2.2.2.2.2.1 H.out.2.2.2.2.2.2.2.1)
  obtain ⟨d0, d1, d2, d3, d4, d5⟩ := own6 om3
  rw [show m.val = .agg #[.slice m.aA m.a.length m.ac, .slice m.bA m.b.length m.bc, .int .i64 m.i, .int .i64 m.j, .slice m.sA m.f.length m.sc, .slice m.oA m.o.length m.oc] from rfl] at y2
  have HZ := Lib.hid oz3
  clear hm3 om3 oz3 ho
  go_wp2_with fail
  refine y2.out.mono ?_
  rintro _ w4 ⟨b, E, rfl, hs, ib, ob, lb, b4⟩
  obtain ⟨V4, hV4, hb4, hs4, ho4⟩ := btbox w4 b
  have oz4 := (HZ.out.past b4 HZ.out.inside).past hb4 (Nat.lt_of_lt_of_le HZ.out.inside b4.size)
  have hne : w.heap.size + 1 < w4.heap.size := Nat.lt_of_lt_of_le HZ.out.inside b4.size
  have HF := Lib.hid (show b.f = m.f ∧ b.l.map Up.p = m.o.map Up.p from by
    rcases hs with ⟨_, _, h1, h2⟩ | ⟨_, h1, _⟩
    · exact ⟨h1, h2⟩
    · exact absurd H.out.2.2.2.2.2.2.2.2 h1)
  have bX : Below W3.heap.size W3 V4 := b4.trans (hb4.mono b4.size)
  have kX : KeptK W3 ((V4.setCell ⟨w.heap.size + 1, 0, none⟩ (.slice b.sA b.f.length b.sc)).setCell ⟨w.heap.size + 1, 1, none⟩ (.slice b.uA b.l.length b.uc)) (fun k => k = w.heap.size + 1) := KeptK.set_ (S := fun k => k = w.heap.size + 1) (KeptK.set_ (S := fun k => k = w.heap.size + 1) (KeptK.of_below bX (Nat.le_refl _) _) (.inl rfl) _) (.inl rfl) _
  have hA := Wk.again H.out.1 HW2.out.1 ((KeptK.of_below H.out.2.1 (Nat.le_refl _) (SpS g s.lA)).trans HW2.out.2 (fun _ _ e => e)) kX (Nat.le_succ _) rfl rfl rfl rfl (fun l hl => List.mem_of_mem_eraseIdx hl)
  have hX := (oz4.set_ 0 (.slice b.sA b.f.length b.sc)).set_ 1 (.slice b.uA b.l.length b.uc)
  obtain ⟨s1, s2⟩ := set2_other V4 (w.heap.size + 1) (.slice b.sA b.f.length b.sc) (.slice b.uA b.l.length b.uc)
  have hlow : BtLo (w.heap.size + 1 + 1) b := lb.mono (show w.heap.size + 1 + 1 ≤ W3.heap.size by have := HZ.out.inside; omega)
  have ib4 := ib.keep hb4
  have hbin : BtIn ((V4.setCell ⟨w.heap.size + 1, 0, none⟩ (.slice b.sA b.f.length b.sc)).setCell ⟨w.heap.size + 1, 1, none⟩ (.slice b.uA b.l.length b.uc)) ((V4.setCell ⟨w.heap.size + 1, 0, none⟩ (.slice b.sA b.f.length b.sc)).setCell ⟨w.heap.size + 1, 1, none⟩ (.slice b.uA b.l.length b.uc)).heap.size b := ⟨times_other ib4.since hlow.f s1 s2, ups_other ib4.ups hlow.l s1 s2⟩
  have HX := Lib.hid (And.intro hA (And.intro hbin (And.intro ob (lb.mono (show w.heap.size ≤ W3.heap.size by have := HZ.out.inside; omega)))))
  have f0 := oz4.open_ 0
  have f1 := oz4.open_ 1
  obtain ⟨e0, e1⟩ := own2 oz4
  obtain ⟨v0, v1⟩ := own2 ho4
  obtain ⟨x0, x1⟩ := own2 hX
  clear hs ib ob lb b4 hb4 hs4 ho4 oz4 bX kX hA hX s1 s2 hlow ib4 hbin d0 d1 d2 d3 d4 d5 y2
  rw [show b.val = .agg #[.slice b.sA b.f.length b.sc, .slice b.uA b.l.length b.uc] from rfl]
  go_upto_region 3 with fail
  rw [← hV4]
  clear hV4
  go_wp2_with fail
  exact bodyPost_ret (v := .agg #[.slice b.sA b.f.length b.sc, .slice b.uA b.l.length b.uc]) (by simp [results, Tryz.results113, go_sem, x0, x1]) rfl (HP.out _ _ b rfl HX.out.1.1 HX.out.1.2 HF.out.1 HF.out.2 HX.out.2.1 HX.out.2.2.1 HX.out.2.2.2)
def StartOk (f : List Tm) (a b : Bt) : Prop := BatchOk a.f a.l ∧ BatchOk b.f b.l ∧ FrontOk f ∧ LaterF f a.f ∧ LaterF f b.f
def Started (f : List Tm) (a b : Bt) (w : World) (x : Ending) (w' : World) : Prop :=
  ∃ (m : Mg) (E : Int), x = .returned (.tuple #[m.val, .int .i64 E]) ∧ (E = 0 ∧ StartOk f a b ∧ m.a.map Up.p = a.l.map Up.p ∧ m.b.map Up.p = b.l.map Up.p ∧ m.i = 0 ∧ m.j = 0 ∧ m.f = f ∧ m.o = [] ∨ E ≠ 0 ∧ m = Mg.nil ∧ ¬ StartOk f a b) ∧
    MgIn w' w'.heap.size m ∧ MgOk m ∧ MgLo w.heap.size m ∧ Below w.heap.size w w'
theorem st_box (w : World) (a b : Bt) : ∃ V, V = ((w.alloc (.cells #[.slice a.sA a.f.length a.sc, .slice a.uA a.l.length a.uc] 125)).alloc (.cells #[.slice b.sA b.f.length b.sc, .slice b.uA b.l.length b.uc] 125)).alloc (.cells #[.slice none 0 0, .slice none 0 0, .int .i64 0, .int .i64 0, .slice none 0 0, .slice none 0 0] 127) ∧
    Below w.heap.size w V ∧ Own V w.heap.size 125 a.cells ∧ Own V (w.heap.size + 1) 125 b.cells ∧ Own V (w.heap.size + 2) 127 Mg.nil.cells := by
  refine ⟨_, rfl, (((Below.refl _ _).alloc (Nat.le_refl _) _).alloc (by simp) _).alloc (by simp; omega) _, ((Own.made w 125 a.cells).more _).more _, ?_, ?_⟩
  · exact (own_next (w := w.alloc (.cells #[.slice a.sA a.f.length a.sc, .slice a.uA a.l.length a.uc] 125)) (l := b.cells) (by simp)).more _
  · exact own_next (w := (w.alloc (.cells #[.slice a.sA a.f.length a.sc, .slice a.uA a.l.length a.uc] 125)).alloc (.cells #[.slice b.sA b.f.length b.sc, .slice b.uA b.l.length b.uc] 125)) (l := Mg.nil.cells) (by simp)
end Go.Proofs.YtjffohpdjicfpaaGreat
