/- DiffOrder returns true. -/
import Derived.Test.YtpfjeibhklacbaaDAll
namespace Go.Proofs.Ytpfjeibhklacbaa
open Go Go.RowKit

/-- what lies in blocks that did not turn is there still -/
theorem ups_apart {w w' : World} {N : Nat} {A : Option Addr} {l : List Up} (h : Ups w w.heap.size A l) (hlo : Lo N A l) (hs : w.heap.size ≤ w'.heap.size) (hb : ∀ k, N ≤ k → k < w.heap.size → w'.heap[k]? = w.heap[k]?) : Ups w' w'.heap.size A l := by
  have hv : ∀ (B : Option Addr) (r : List Vl), Vals w w.heap.size B r → (∀ b o, B = some ⟨b, o, none⟩ → N ≤ b) → Vals w' w'.heap.size B r := fun B r hr hB hp => by
    obtain ⟨b, o, e, hlt, hc⟩ := hr hp
    have hk : ∀ j, w'.cell? ⟨b, j, none⟩ = w.cell? ⟨b, j, none⟩ := fun j => by unfold World.cell?; rw [hb b (hB b o e) hlt]
    refine ⟨b, o, e, Nat.lt_of_lt_of_le hlt hs, fun i v hi => ?_⟩
    obtain ⟨a0, a1, a2⟩ := hc i v hi
    exact ⟨(hk _).trans a0, (hk _).trans a1, (hk _).trans a2⟩
  refine ⟨fun hp => ?_, fun u hu => ⟨hv _ _ (h.each_ u hu).key fun b o e => hlo.2 u hu b o (.inl e), hv _ _ (h.each_ u hu).row fun b o e => hlo.2 u hu b o (.inr e)⟩⟩
  obtain ⟨b, o, e, hlt, hc⟩ := h.head hp
  have hk : ∀ j, w'.cell? ⟨b, j, none⟩ = w.cell? ⟨b, j, none⟩ := fun j => by unfold World.cell?; rw [hb b (hlo.1 b o e) hlt]
  exact ⟨b, o, e, Nat.lt_of_lt_of_le hlt hs, fun i x hi j y hj => (hk _).trans (hc i x hi j y hj)⟩
/-- 'append(v, s...)', and which block it turns -/
theorem wpList_append_apart {α : Type} {size : Nat} {cells : α → List Value} {B : Nat} {A : Option Addr} {l : List α} {P : Program} (w : World) {ops : Array Oper} {rest : List Oper} {o : Oper} {a : Act} {Q : Exit → Act → World → Prop} (hgd : o.guard = none) (s x : Operand) (t e : TypeId)
    (ho : o.op = .call { callee := .builtin .append, args := #[s, x], argTypes := #[t, t] })
    (i0 : TypeInfo) (z : Value) (bytes : Nat) (ht : P.underlying t = some (.slice e)) (hi : P.info? e = some i0) (hz0 : i0.zero = some z) (hz1 : i0.size = size) (hz2 : i0.bytes = bytes) (hzs : z.cells.size = size) (hpos : 0 < size) (hcl : ∀ x, (cells x).length = size) (hone : ∀ x, ∀ u ∈ cells x, u.oneCell' = true)
    (base : Nat) (v : Value) (n : Nat) (xs : List Value) (hs : a.eval s = v) (hown : w.ownsRow base e size v n xs)
    (c : Nat) (hx : a.eval x = .slice A l.length c) (hl : Lies size cells w B A l) (h63 : n + l.length ≤ maxLen) (hn : (n + l.length) * bytes ≤ 140737488355328) (hbase : base ≤ w.heap.size)
    (h : ∀ v' w', w'.ownsRow base e size v' (n + l.length) (xs ++ l.flatMap cells) → Below base w w' → (∀ k, k < w.heap.size → v.ownBlock ≠ some k → w'.heap[k]? = w.heap[k]?) → w.heap.size ≤ w'.heap.size → wpList P ops Q rest (a.put o.dst v') w') :
    wpList P ops Q (o :: rest) a w := by
  refine wpList_plain hgd fun K hK => ?_
  obtain ⟨v', w', hrun, ho', hb, hk, hz⟩ : ∃ v' w', (Builtin.append_ #[t, t] o.type #[v, .slice A l.length c]).run P w = .ok v' w' ∧ w'.ownsRow base e size v' (n + l.length) (xs ++ l.flatMap cells) ∧ Below base w w' ∧ (∀ k, k < w.heap.size → v.ownBlock ≠ some k → w'.heap[k]? = w.heap[k]?) ∧ w.heap.size ≤ w'.heap.size := by
    cases A with
    | none =>
      have h0 : l = [] := by
        cases l with
        | nil => rfl
        | cons x l => obtain ⟨_, _, e, _⟩ := hl (by simp); cases e
      subst h0
      exact ⟨v, w, run_append_none w base _ _ _ i0 size ht hi v n xs hown c, by simpa using hown, Below.refl _ _, fun _ _ _ => rfl, Nat.le_refl _⟩
    | some ad =>
      have hnews : ∀ j u, (l.flatMap cells)[j]? = some u → w.cell? (ad.add j) = some u := by
        intro j u hu
        obtain ⟨i, r, y, rfl, hi, hr⟩ := flat_back hpos hcl l j u hu
        have hp : 0 < l.length := by have := (List.getElem?_eq_some_iff.1 hi).1; omega
        obtain ⟨b, o, e, _, hc⟩ := hl hp
        obtain rfl : ad = ⟨b, o, none⟩ := by injection e
        have ea : (⟨b, o, none⟩ : Addr).add (i * size + r) = ⟨b, o + i * size + r, none⟩ := by unfold Addr.add; split <;> simp_all <;> omega
        rw [ea]
        exact hc i y hi r u hr
      obtain ⟨v', w', hr, h2, h3, _, _⟩ := run_append_own_at (P := P) w base t o.type e i0 _ size bytes ht hi hz0 hz1 hz2 hzs hpos v n xs hown ad l.length c (l.flatMap cells) (flat_size hcl l) hnews
        (fun u hu => by obtain ⟨y, _, hy⟩ := List.mem_flatMap.1 hu; exact hone y u hy) h63 hn hbase
      exact ⟨v', w', hr, h2, (Below.refl base w).grown h3 hbase (fun k hk => (hown.lt k hk).1), fun k hk hne => h3.block k hk (fun e => hne e.symm), h3.size⟩
  unfold Oper.wp execOp
  simp only [ho, resolve, invoke, builtin, Sem.run_bind, Sem.run_pure, Result.andThen_ok, List.map_toArray, List.map_cons, List.map_nil, hs, hx, hrun]
  exact hK _ _ (h v' w' ho' hb hk hz)
/-- two lists evened out -/
def EvenedNew (l : List (Uk × Int)) (e : Int) (w : World) (x : Ending) (w' : World) : Prop :=
  ∃ A c, ∃ outL : List Up, x = .returned (.tuple #[.slice A outL.length c, .int .i64 e]) ∧ outL.map Up.p = l ∧ Ups w' w'.heap.size A outL ∧ (∀ u ∈ outL, UOk u) ∧ outL.length ≤ 1048576 ∧ Below w.heap.size w w' ∧ Lo w.heap.size A outL
theorem evened_two (A A1 A2 : Option Addr) (c1 c2 : Nat) (l m : List Up) (w : World) (hl : ULs w w.heap.size A [⟨A1, c1, l⟩, ⟨A2, c2, m⟩]) (hok : ∀ u ∈ l, UOk u) (hok' : ∀ u ∈ m, UOk u) (hn : l.length + m.length ≤ 1048576) :
    Calls Try.prog 9 #[.slice A 2 2] w (EvenedNew (consL [l, m]) (consE [l, m]) w) := by
  have h0 := consolidate_new A 2 [⟨A1, c1, l⟩, ⟨A2, c2, m⟩] w hl (fun s hs u hu => by
    rcases List.mem_cons.1 hs with rfl | hs
    · exact hok u hu
    · obtain rfl : s = ⟨A2, c2, m⟩ := by simpa using hs
      exact hok' u hu) (by simp [flatR]; omega) (by simp)
  refine h0.mono fun x w' ⟨A', c', outL, e1, e2, e3, e4, e5, e6⟩ => ?_
  simp only [List.map_cons, List.map_nil] at e1 e2
  refine ⟨A', c', outL, e1, e2, e3, e4, ?_, e5, e6⟩
  have := consL_len [l, m]
  rw [← e2, List.length_map] at this
  simp only [List.flatten_cons, List.flatten_nil, List.append_nil, List.length_append] at this
  omega
theorem sameU_yes (A A' : Option Addr) (c c' : Nat) (l m : List Up) (w : World) (hl : Ups w w.heap.size A l) (hm : Ups w w.heap.size A' m) (hol : ∀ u ∈ l, UOk u) (hom : ∀ u ∈ m, UOk u) (hn : l.length ≤ 1099511627776) (hn' : m.length ≤ 1099511627776) (h : l.map Up.p = m.map Up.p) :
    Calls Try.prog 12 #[.slice A l.length c, .slice A' m.length c'] w fun x w' => x = .returned (.bool true) ∧ Below w.heap.size w w' :=
  (sameU_any A A' c c' l m w hl hm hol hom hn hn').mono fun x w' ⟨b, h1, h2, h3⟩ => ⟨by rw [h1, h2.2 h], h3⟩
theorem even_yes (A : Option Addr) (c : Nat) (l : List Up) (w : World) (hl : Ups w w.heap.size A l) (hok : ∀ u ∈ l, UOk u) (hn : l.length ≤ 1099511627776) (h : EvenP l) :
    Calls Try.prog 15 #[.slice A l.length c] w fun x w' => x = .returned (.bool true) ∧ Below w.heap.size w w' :=
  (even_any A c l w hl hok hn).mono fun x w' ⟨b, h1, h2, h3⟩ => ⟨by rw [h1, h2.2 h], h3⟩
set_option maxRecDepth 100000 in
set_option maxHeartbeats 12800000 in
theorem order_walk (A : Option Addr) (c : Nat) (a : List Up) (A' : Option Addr) (c' : Nat) (b : List Up) (w : World) (hl : Ups w w.heap.size A a) (hok : ∀ u ∈ a, UOk u) (_ : a.length ≤ c) (_ : c ≤ maxLen) (hl' : Ups w w.heap.size A' b) (hok' : ∀ u ∈ b, UOk u) (_ : b.length ≤ c') (_ : c' ≤ maxLen) (hn : a.length + b.length ≤ 1048576) :
    Calls Try.prog 5 #[.slice A a.length c, .slice A' b.length c'] w fun e w' => e = .returned (.bool true) ∧ Below w.heap.size w w' := by
  obtain ⟨i0, hi, hz0, hz1, hz2⟩ := info_parts infoUp
  have HI := Lib.hid (And.intro Try.underlying23 (And.intro hi (And.intro hz0 (And.intro hz1 hz2))))
  have y0 := fun W => Lib.hid (lists_true W)
  have HL := Lib.hid (And.intro (And.intro hl hok) (And.intro hl' hok'))
  clear hl hok hl' hok' hi hz0 hz1 hz2
  go_enter Try.func5, Try.ntmps5
  go_wp2_with fail
  refine (y0 _).out.mono ?_
  rintro e w1 ⟨rfl, b1⟩
  have H1 := Lib.hid b1
  clear b1
  go_wp2_with fail
  go_loopw [5, 6] (fun v5 v6 wr => ∃ k : Nat, v6 = .int .i64 ((k : Int) - 1) ∧ k ≤ b.length ∧ wr.ownsRow w.heap.size 38 6 v5 (upsT b k).length ((upsT b k).flatMap Up.cells) ∧ Below w.heap.size w wr)
    (fun _ v6 _ => (intOf v6 + 1).toNat)
  case atStart => exact ⟨b.length, rfl, Nat.le_refl _, by rw [upsT_end]; exact World.ownsRow_nil _ _ _ _, H1.out⟩
  case round =>
    obtain ⟨k, rfl, hk, hown, hb⟩ := hrel
    obtain ⟨wi, hwi⟩ : ∃ wi, wi = wr := ⟨_, rfl⟩
    subst hwi
    cases k with
    | succ j =>
      rw [show (((j + 1 : Nat) : Int) - 1) = (j : Int) by omega]
      have hjt : j < b.length := by omega
      have hy : b[j]? = some b[j] := List.getElem?_eq_getElem hjt
      generalize b[j] = u at *
      obtain ⟨g, o, rfl, hB, hys⟩ := lies_up HL.out.2.1.head (by omega)
      obtain ⟨e0, e1, e2, e3, e4, e5⟩ := ((hys j u hy).past_ hb hB).six
      have hnx := upsT_next hy
      have hlen := upsT_len b (j + 1)
      have hp := Lib.hid (up_made wi u)
      have hsz : w.heap.size ≤ wi.heap.size := hb.size
      have hbX := Lib.hid (hb.alloc hsz (.cells #[.slice u.kA u.key.length u.kc, .slice u.rA u.row.length u.rc, .int .u64 (u.t.e : Int), .int .u64 (u.t.a : Int), .int .u64 (u.t.b : Int), .int .i64 u.d] 38))
      have hoX := Lib.hid (own_below hown ((Below.refl _ wi).alloc (Nat.le_refl _) (.cells #[.slice u.kA u.key.length u.kc, .slice u.rA u.row.length u.rc, .int .u64 (u.t.e : Int), .int .u64 (u.t.a : Int), .int .u64 (u.t.b : Int), .int .i64 u.d] 38)))
      have HN := Lib.hid hnx
      have q3 : (0 : Int) ≤ (j : Int) := by omega
      have q4 : (j : Int) < (b.length : Int) := by omega
      have hsz2 : w.heap.size ≤ wi.heap.size + 1 := by omega
      generalize upsT b (j + 1) = us at *
      clear hown hb hy hys hnx
      go_wp2_with (at_builtin; refine wpList_append_lies _ rfl (.tmp 22) (.tmp 27) 23 38 rfl i0 _ 80 HI.out.1 HI.out.2.1 HI.out.2.2.1 HI.out.2.2.2.1 HI.out.2.2.2.2 rfl (by decide) ucells_len ucells_one w.heap.size _ _ _ rfl hoX.out 1 rfl hp.out ?m1 ?m2 ?m3 ?m4)
      case m1 => show us.length + 1 ≤ maxLen; unfold maxLen; omega
      case m2 => show (us.length + 1) * 80 ≤ 140737488355328; omega
      case m3 => simp; omega
      intro v' w' ho' hb'
      have HA := Lib.hid (And.intro ho' hb')
      clear ho' hb' e0 e1 e2 e3 e4 e5
      go_wp2_with fail
      go_roundw
      case rel =>
        refine ⟨j, rfl, by omega, ?_, hbX.out.trans HA.out.2⟩
        rw [HN.out, List.flatMap_append, List.length_append]
        exact HA.out.1
      case measure => (simp [intOf]) <;> omega
    | zero =>
      rw [show (((0 : Nat) : Int) - 1) = -1 by omega]
      obtain ⟨T, hT⟩ : ∃ T, upsT b 0 = T := ⟨_, rfl⟩
      have hTb : ∀ u ∈ T, u ∈ b := fun u hu => by rw [← hT, upsT_zero] at hu; exact List.mem_reverse.1 hu
      have hTn : T.length ≤ b.length := by rw [← hT]; exact upsT_len b 0
      have hpm := upsT_perm a b
      rw [hT] at hown hpm
      have hcp := cons_perm hpm
      have hua : Ups wi wi.heap.size A a := (HL.out.1.1.past hb (Nat.le_refl _)).wide hb.size
      have hub : Ups wi wi.heap.size A' b := (HL.out.2.1.past hb (Nat.le_refl _)).wide hb.size
      obtain ⟨V, hV, hvb, hul⟩ := two_lists wi A A' c c' a b hua hub
      have z1 := Lib.hid (evened_two (some ⟨wi.heap.size, 0, none⟩) A A' c c' a b V hul HL.out.1.2 HL.out.2.2 hn)
      obtain ⟨E1, hE1⟩ : ∃ E1, consE [a, b] = E1 := ⟨_, rfl⟩
      rw [hE1] at z1
      have HW := Lib.hid (And.intro hown (And.intro hb (And.intro hvb (And.intro hcp (And.intro hTb hE1)))))
      clear hown hb hvb hcp hTb hT hpm hua hub hul hE1
      go_wp2_with fail
      rw [← hV]
      clear hV
      refine z1.out.mono ?_
      rintro _ w4 ⟨A4, k4, X, rfl, hpX, huX, hoX, hnX, b4, hloX⟩
      have hbV4 : Below wi.heap.size wi w4 := HW.out.2.2.1.trans (b4.mono HW.out.2.2.1.size)
      have hb4 : Below w.heap.size w w4 := HW.out.2.1.trans (hbV4.mono HW.out.2.1.size)
      have hown4 := Lib.hid (own_below HW.out.1 hbV4)
      have hLa := Lib.hid (HL.out.1.1.head.past hb4 (Nat.le_refl _))
      have hsz4 : w.heap.size ≤ w4.heap.size := hb4.size
      have H4 := Lib.hid (And.intro hb4 (And.intro hpX (And.intro huX (And.intro hoX (And.intro hnX (And.intro hloX b4.size))))))
      clear hb4 hpX huX hoX hnX hloX b4 hbV4 z1
      go_wp2_with (at_builtin; refine wpList_append_apart _ rfl (.tmp 37) (.tmp 38) 23 38 rfl i0 _ 80 HI.out.1 HI.out.2.1 HI.out.2.2.1 HI.out.2.2.2.1 HI.out.2.2.2.2 rfl (by decide) ucells_len ucells_one w.heap.size _ _ _ rfl hown4.out c rfl hLa.out ?k1 ?k2 ?k3 ?k4)
      case k1 => unfold maxLen; omega
      case k2 => omega
      case k3 => exact hsz4
      intro v5 w5 ho5 hb5 hk5 hs5
      obtain ⟨all, hall⟩ : ∃ all, T ++ a = all := ⟨_, rfl⟩
      obtain ⟨A5, c5, rfl, _, _, h5⟩ := lies_of_own (size := 6) (cells := Up.cells) (l := all) (by decide) ucells_len (by rw [← hall, List.length_append]) (by rw [← hall, List.flatMap_append]; exact ho5)
      have hb5' : Below w.heap.size w w5 := H4.out.1.trans (hb5.mono (Nat.le_refl _))
      have hu5 : Ups w5 w5.heap.size A5 all := ⟨h5, fun u hu => by
        rw [← hall] at hu
        rcases List.mem_append.1 hu with hu | hu
        · exact ((HL.out.2.1.each_ u (HW.out.2.2.2.2.1 u hu)).past hb5' (Nat.le_refl _)).wide hb5'.size
        · exact ((HL.out.1.1.each_ u hu).past hb5' (Nat.le_refl _)).wide hb5'.size⟩
      have hoa : ∀ u ∈ all, UOk u := fun u hu => by
        rw [← hall] at hu
        rcases List.mem_append.1 hu with hu | hu
        · exact HL.out.2.2 u (HW.out.2.2.2.2.1 u hu)
        · exact HL.out.1.2 u hu
      have hna : all.length ≤ 1048576 := by rw [← hall, List.length_append]; omega
      have huX5 : Ups w5 w5.heap.size A4 X := ups_apart H4.out.2.2.1 H4.out.2.2.2.2.2.1 hs5 fun k hk hlt => hk5 k hlt fun e => by
        have h1 := (HW.out.1.lt k e).2
        have h2 := HW.out.2.2.1.size
        omega
      have hcp := HW.out.2.2.2.1
      rw [hall] at hcp
      obtain ⟨V6, hV6, hvb6, hul6⟩ := one_list w5 A5 c5 all hu5
      have z2 := Lib.hid (evened_one (some ⟨w5.heap.size, 0, none⟩) A5 c5 all V6 hul6 hoa (by omega))
      obtain ⟨E2, hE2⟩ : ∃ E2, consE [all] = E2 := ⟨_, rfl⟩
      rw [hE2] at z2
      have e3 : T.length + a.length = all.length := by rw [← hall, List.length_append]
      have H5 := Lib.hid (And.intro (hb5'.trans (hvb6.mono hb5'.size)) (And.intro (huX5.keep hvb6) (And.intro hcp hE2)))
      clear ho5 hb5 hk5 hs5 h5 hb5' hu5 hoa huX5 hcp hvb6 hul6 hE2 hLa hown4
      clear e3
      go_wp2_with fail
      rw [← hV6]
      clear hV6
      refine z2.out.mono ?_
      rintro _ w6 ⟨A6, k6, Y, rfl, hpY, huY, hoY, hnY, b6⟩
      have H6 := Lib.hid (And.intro (H5.out.1.trans (b6.mono H5.out.1.size)) (And.intro (H5.out.2.1.keep b6) (And.intro huY (And.intro hoY (And.intro hnY (hpY.trans (H5.out.2.2.1.2.symm.trans H4.out.2.1.symm)))))))
      clear hpY huY hoY hnY b6 z2
      have hE12 : E1 = 0 ↔ E2 = 0 := by rw [← HW.out.2.2.2.2.2, ← H5.out.2.2.2]; exact H5.out.2.2.1.1
      by_cases h1 : E1 = 0
      · have h2 := hE12.1 h1
        subst h1 h2
        have hag := cons_again HW.out.2.2.2.2.2 H4.out.2.1
        have hev := Lib.hid (cons_even HW.out.2.2.2.2.2 H4.out.2.1)
        obtain ⟨V7, hV7, hvb7, hul7⟩ := one_list w6 A4 k4 X H6.out.2.1
        have z3 := Lib.hid (evened_one (some ⟨w6.heap.size, 0, none⟩) A4 k4 X V7 hul7 H4.out.2.2.2.1 (by have := H4.out.2.2.2.2.1; omega))
        rw [hag.1, hag.2] at z3
        have H7 := Lib.hid (And.intro (H6.out.1.trans (hvb7.mono H6.out.1.size)) (And.intro (H6.out.2.1.keep hvb7) (H6.out.2.2.1.keep hvb7)))
        clear hag hvb7 hul7 hE12
        go_wp2_with fail
        rw [← hV7]
        clear hV7
        refine z3.out.mono ?_
        rintro _ w8 ⟨A8, k8, Z, rfl, hpZ, huZ, hoZ, hnZ, b8⟩
        have s1 := Lib.hid (even_yes A4 k4 X w8 (H7.out.2.1.keep b8) H4.out.2.2.2.1 (by have := H4.out.2.2.2.2.1; omega) hev.out)
        have H8 := Lib.hid (And.intro (H7.out.1.trans (b8.mono H7.out.1.size)) (And.intro (H7.out.2.1.keep b8) (And.intro (H7.out.2.2.keep b8) (And.intro huZ (And.intro hoZ (And.intro hnZ (hpZ.trans H4.out.2.1.symm)))))))
        clear hpZ huZ hoZ hnZ b8 z3
        go_wp2_with fail
        refine s1.out.mono ?_
        rintro _ w9 ⟨rfl, b9⟩
        have s2 := Lib.hid (sameU_yes A4 A6 k4 k6 X Y w9 (H8.out.2.1.keep b9) (H8.out.2.2.1.keep b9) H4.out.2.2.2.1 H6.out.2.2.2.1 (by have := H4.out.2.2.2.2.1; omega) H6.out.2.2.2.2.1 H6.out.2.2.2.2.2.symm)
        have H9 := Lib.hid (And.intro (H8.out.1.trans (b9.mono H8.out.1.size)) (And.intro (H8.out.2.1.keep b9) (H8.out.2.2.2.1.keep b9)))
        clear b9 s1
        go_wp2_with fail
        refine s2.out.mono ?_
        rintro _ w10 ⟨rfl, b10⟩
        have s3 := Lib.hid (sameU_yes A4 A8 k4 k8 X Z w10 (H9.out.2.1.keep b10) (H9.out.2.2.keep b10) H4.out.2.2.2.1 H8.out.2.2.2.2.1 (by have := H4.out.2.2.2.2.1; omega) H8.out.2.2.2.2.2.1 H8.out.2.2.2.2.2.2.symm)
        have H10 := Lib.hid (H9.out.1.trans (b10.mono H9.out.1.size))
        clear b10 s2
        go_wp2_with fail
        refine s3.out.mono ?_
        rintro _ w11 ⟨rfl, b11⟩
        have H11 := Lib.hid (H10.out.trans (b11.mono H10.out.size))
        clear b11 s3
        go_wp2_with fail
        go_ret
        exact ⟨rfl, H11.out⟩
      · have h2 : E2 ≠ 0 := fun h => h1 (hE12.2 h)
        have hX0 : X = [] := List.map_eq_nil_iff.1 (H4.out.2.1.trans (consE_ne (by rw [HW.out.2.2.2.2.2]; exact h1)))
        subst hX0
        have hY0 : Y = [] := List.map_eq_nil_iff.1 (H6.out.2.2.2.2.2.trans rfl)
        subst hY0
        have t1 : (E1 != 0) = true := bne_iff_ne.2 h1
        have t2 : (E2 != 0) = true := bne_iff_ne.2 h2
        clear h1 h2 hE12
        go_wp2_with fail
        go_ret
        exact ⟨rfl, H6.out.1⟩
end Go.Proofs.Ytpfjeibhklacbaa
