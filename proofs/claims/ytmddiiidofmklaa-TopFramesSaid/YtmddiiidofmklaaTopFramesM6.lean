/- Part 6 of the texts on which TopFrames rests: facts and contracts. -/
import Derived.Test.YtmddiiidofmklaaTopFramesM5
namespace Go.Proofs.Ytmddiiidofmklaa
open Go Go.RowKit

theorem tb_told (P : List ByteArray) (s : Nat) (p : ByteArray) (h : P.length < 40) (hp : ∀ q ∈ P, q.size ≤ 65536) (hq : p.size ≤ 65536) : DTold (dsk P s) (wtW [wrF p]) := by
  refine ⟨?_, show -9223372036854775808 ≤ (-1 : Int) ∧ (-1 : Int) ≤ 9223372036854775807 by decide⟩
  have h1 : ∀ (Q : List ByteArray), (∀ q ∈ Q, q.size ≤ 65536) → wtW (Q.map wrF) ≤ Q.length * 65562 := by
    intro Q
    induction Q with
    | nil => intro _; simp [wtW]
    | cons q Q ih =>
      intro hQ
      have h2 := ih fun x hx => hQ x (List.mem_cons_of_mem _ hx)
      have h3 := fr_len (hQ q (by simp))
      have h4 : (wrF q).d.size = (fr q).length := sizeL _
      unfold wtW at h2 ⊢
      rw [List.map_cons, List.map_cons, List.sum_cons, List.length_cons, Nat.add_mul, h4]
      omega
  have h2 := h1 (P.drop s) fun q hq => hp q (List.mem_of_mem_drop hq)
  have h3 := h1 [p] fun q hq' => by rw [show q = p from (by simpa using hq')]; exact hq
  have h4 : wtF (holdF (P.take s)) ≤ 2 + 40 * 65560 := by
    rw [wtF_eq, hold_size]
    have := hold_len (P.take s)
    have h5 := cat_len (P := P.take s) (m := 65560) fun q hq => fr_len (hp q (List.mem_of_mem_take hq))
    have h6 : (P.take s).length * 65560 ≤ 40 * 65560 := Nat.mul_le_mul_right _ (by rw [List.length_take]; omega)
    omega
  have h5 : (P.drop s).length * 65562 ≤ 40 * 65562 := Nat.mul_le_mul_right _ (by rw [List.length_drop]; omega)
  have h6 : wtD (dsk P s) = wtF (holdF (P.take s)) + wtW ((P.drop s).map wrF) := rfl
  have h7 : wtW [wrF p] ≤ 1 * 65562 := h3
  omega
theorem tb_wt (P : List ByteArray) (s : Nat) (h : P.length ≤ 40) (hp : ∀ q ∈ P, q.size ≤ 65536) : wtD (dsk P s) ≤ 6000000 := by
  have h1 : ∀ (Q : List ByteArray), (∀ q ∈ Q, q.size ≤ 65536) → wtW (Q.map wrF) ≤ Q.length * 65562 := by
    intro Q
    induction Q with
    | nil => intro _; simp [wtW]
    | cons q Q ih =>
      intro hQ
      have h2 := ih fun x hx => hQ x (List.mem_cons_of_mem _ hx)
      have h3 := fr_len (hQ q (by simp))
      have h4 : (wrF q).d.size = (fr q).length := sizeL _
      unfold wtW at h2 ⊢
      rw [List.map_cons, List.map_cons, List.sum_cons, List.length_cons, Nat.add_mul, h4]
      omega
  have h2 := h1 (P.drop s) fun q hq => hp q (List.mem_of_mem_drop hq)
  have h4 : wtF (holdF (P.take s)) ≤ 2 + 40 * 65560 := by
    rw [wtF_eq, hold_size]
    have := hold_len (P.take s)
    have h5 := cat_len (P := P.take s) (m := 65560) fun q hq => fr_len (hp q (List.mem_of_mem_take hq))
    have h6 : (P.take s).length * 65560 ≤ 40 * 65560 := Nat.mul_le_mul_right _ (by rw [List.length_take]; omega)
    omega
  have h5 : (P.drop s).length * 65562 ≤ 40 * 65562 := Nat.mul_le_mul_right _ (by rw [List.length_drop]; omega)
  have h6 : wtD (dsk P s) = wtF (holdF (P.take s)) + wtW ((P.drop s).map wrF) := rfl
  omega
theorem tb_told0 (P : List ByteArray) (s : Nat) (h : P.length ≤ 40) (hp : ∀ q ∈ P, q.size ≤ 65536) : DTold (dsk P s) 0 := by
  by_cases h0 : P = []
  · subst h0
    refine ⟨?_, show -9223372036854775808 ≤ (-1 : Int) ∧ (-1 : Int) ≤ 9223372036854775807 by decide⟩
    show wtF (holdF (List.take s [])) + wtW ((List.drop s []).map wrF) + 0 ≤ _
    rw [List.take_nil, List.drop_nil]
    decide
  · refine ⟨?_, show -9223372036854775808 ≤ (-1 : Int) ∧ (-1 : Int) ≤ 9223372036854775807 by decide⟩
    have h1 : ∀ (Q : List ByteArray), (∀ q ∈ Q, q.size ≤ 65536) → wtW (Q.map wrF) ≤ Q.length * 65562 := by
      intro Q
      induction Q with
      | nil => intro _; simp [wtW]
      | cons q Q ih =>
        intro hQ
        have h2 := ih fun x hx => hQ x (List.mem_cons_of_mem _ hx)
        have h3 := fr_len (hQ q (by simp))
        have h4 : (wrF q).d.size = (fr q).length := sizeL _
        unfold wtW at h2 ⊢
        rw [List.map_cons, List.map_cons, List.sum_cons, List.length_cons, Nat.add_mul, h4]
        omega
    have h2 := h1 (P.drop s) fun q hq => hp q (List.mem_of_mem_drop hq)
    have h4 : wtF (holdF (P.take s)) ≤ 2 + 40 * 65560 := by
      rw [wtF_eq, hold_size]
      have := hold_len (P.take s)
      have h5 := cat_len (P := P.take s) (m := 65560) fun q hq => fr_len (hp q (List.mem_of_mem_take hq))
      have h6 : (P.take s).length * 65560 ≤ 40 * 65560 := Nat.mul_le_mul_right _ (by rw [List.length_take]; omega)
      omega
    have h5 : (P.drop s).length * 65562 ≤ 40 * 65562 := Nat.mul_le_mul_right _ (by rw [List.length_drop]; omega)
    have h6 : wtD (dsk P s) = wtF (holdF (P.take s)) + wtW ((P.drop s).map wrF) := rfl
    omega
theorem DIn.keptN {W W' : World} {z : Dl} {T : Nat → Prop} {B : Nat} (h : DIn W W.heap.size z) (k : Kept W W' T) (n : NewD B z) (hT : ∀ b, T b → b < B) : DIn W' W'.heap.size z := by
  refine ⟨fun hp => ?_, fun hp => ?_, h.cap⟩
  · obtain ⟨b, q, e, hb, hc⟩ := h.files hp
    exact ⟨b, q, e, Nat.lt_of_lt_of_le hb k.size, fun i x hi j u hj => kept_cell k (fun t => by have := hT b t; have := n.files b q e; omega) hb (hc i x hi j u hj)⟩
  · obtain ⟨b, q, e, hb, hc⟩ := h.waits hp
    exact ⟨b, q, e, Nat.lt_of_lt_of_le hb k.size, fun i x hi j u hj => kept_cell k (fun t => by have := hT b t; have := n.waits b q e; omega) hb (hc i x hi j u hj)⟩
/-- behind so many frames -/
structure TAt (w W : World) (G k : Nat) (v : Value) (P : List ByteArray) (s : Nat) : Prop where
  below : Below w.heap.size w W
  row : W.ownsRow w.heap.size 9 1 v P.length (P.map Value.string)
  off : v.ownBlock ≠ some G
  len : P.length = k
  le : k ≤ 40
  sure : s ≤ k
  small : ∀ p ∈ P, p.size ≤ 65536
  disk : ∃ z : Dl, z.d = dsk P s ∧ Own W G 28 z.cells ∧ DIn W W.heap.size z
  lo : w.heap.size ≤ G
theorem TAt.past {w W W' : World} {G k s : Nat} {v : Value} {P : List ByteArray} (h : TAt w W G k v P s) (hb : Below W.heap.size W W') : TAt w W' G k v P s := by
  obtain ⟨z, h1, h2, h3⟩ := h.disk
  exact ⟨h.below.trans (hb.mono h.below.size), own_below h.row hb, h.off, h.len, h.le, h.sure, h.small, ⟨z, h1, h2.past hb h2.inside, h3.keep hb⟩, h.lo⟩
theorem row_form' {w : World} {base n : Nat} {e : TypeId} {size : Nat} {v : Value} {xs : List Value} (h : w.ownsRow base e size v n xs) : ∃ A c, v = .slice A n c ∧ n ≤ c := by
  rcases h.2 with ⟨rfl, h0⟩ | ⟨g, cc, cur, rfl, _, _, h1, _⟩
  · exact ⟨none, 0, by rw [h0], by omega⟩
  · exact ⟨_, _, rfl, h1⟩
set_option maxRecDepth 100000 in
set_option maxHeartbeats 6400000 in
theorem frames_top (A : Option Addr) (c : Nat) (ss : List ByteArray) (A' : Option Addr) (c' : Nat) (bs : List Bool) (keep tear : Int) (w : World) (hss : Lies 1 cS w w.heap.size A ss) (hsz : ∀ s ∈ ss, s.size ≤ maxLen) (hn : ss.length ≤ maxLen) (hbs : Lies 1 cB w w.heap.size A' bs) (hbn : bs.length ≤ maxLen) :
    Calls Try.prog 3 #[.slice A ss.length c, .slice A' bs.length c', .int .i64 keep, .int .i64 tear] w fun e w' => e = .returned (.bool true) ∧ Below w.heap.size w w' := by
  obtain ⟨i0, hi, hz0, hz1, hz2⟩ := info_parts infoStr
  have HI := Lib.hid (And.intro Try.underlying22 (And.intro hi (And.intro hz0 (And.intro hz1 hz2))))
  have y0 := Lib.hid begins_true
  have HL := Lib.hid (And.intro hss (And.intro hsz hbs))
  unfold maxLen at hn hbn
  clear hss hsz hbs hi hz0 hz1 hz2
  go_enter Try.func3, Try.ntmps3
  go_wp2_with fail
  refine (y0.out _).mono ?_
  rintro _ w1 ⟨rfl, b1⟩
  obtain ⟨W1, hW1, o1, i1, bW1⟩ := var_new (w := w1) (z := ⟨none, 0, [], none, 0, [], 1099511627776, false, -1⟩) ⟨Lies.nil_, Lies.nil_, Nat.zero_le _⟩
  have h0 : TAt w W1 w1.heap.size 0 (.slice none 0 0) [] 0 := ⟨b1.trans (bW1.mono b1.size), World.ownsRow_nil _ _ _ _, by simp [Value.ownBlock], rfl, by omega, by omega, (fun p hp => by cases hp), ⟨_, rfl, o1, i1⟩, b1.size⟩
  have H0 := Lib.hid h0
  obtain ⟨G, hG⟩ : ∃ G, w1.heap.size = G := ⟨_, rfl⟩
  rw [hG] at H0
  simp only [List.length_nil] at hW1
  clear b1 o1 i1 bW1 h0
  go_upto_region 4 with fail
  rw [← hW1]
  clear hW1 hG
  go_wp2_with fail
  go_loopw [10, 11, 27] (fun v s i wr => ∃ (k sn : Nat) (P : List ByteArray), i = .int .i64 (k : Int) ∧ k ≤ ss.length ∧ s = .int .i64 (sn : Int) ∧ TAt w wr G k v P sn)
    (fun _ _ i _ => ss.length - (intOf i).toNat)
  case atStart => exact ⟨0, 0, [], rfl, by omega, rfl, H0.out⟩
  case round =>
    obtain ⟨k, sn, P, rfl, hk, rfl, hat⟩ := hrel
    have Hat := Lib.hid hat
    have hle := hat.le
    obtain ⟨A1, c1, rfl, hc1⟩ := row_form' hat.row
    by_cases hlt : k < ss.length
    · have hx : ss[k]? = some ss[k] := List.getElem?_eq_getElem hlt
      obtain ⟨b, o, hA, hB, hxs⟩ := HL.out.1 (by omega)
      have x0 := (hat.below.cell (p := ⟨b, o + k * 1 + 0, none⟩) hB).trans (hxs k _ hx 0 _ rfl)
      rw [Nat.mul_one, Nat.add_zero] at x0
      have hsp := HL.out.2.1 _ (List.mem_of_getElem? hx)
      have hfr := fun W => Lib.hid (frame_any ss[k] W hsp)
      have ll := len_of ss[k]
      generalize ss[k] = p at *
      have q0 : (0 : Int) ≤ (k : Int) := by omega
      have q1 : (k : Int) < (ss.length : Int) := by omega
      have HA := Lib.hid hA
      rw [hA]
      clear hat hx hxs hsp hA
      by_cases hlong : 65536 < p.data.toList.length
      · rw [frm_long hlong] at hfr
        clear hlong ll
        by_cases h40 : k = 40
        · have t1 : ((k : Int) == 40) = true := by rw [h40]; rfl
          clear h40
          go_wp2_with fail
          refine (hfr _).out.mono ?_
          rintro _ w2 ⟨rfl, b2⟩
          unfold pairS
          have H2 := Lib.hid b2
          clear b2 x0
          go_upto_region 10 with fail
          go_upto_region 17 with fail
          have hatE := (TAt.past Hat.out H2.out)
          obtain ⟨z, hzd, oz, iz⟩ := hatE.disk
          obtain ⟨k', hcr, hleft⟩ := dsk_crash (P := P) (s := sn) (by rw [hatE.len]; exact hatE.le) (by rw [hatE.len]; exact hatE.sure) keep tear
          obtain ⟨d0, d1, d2, d3, d4⟩ := own5 oz
          have hc5 := crash_at keep tear iz hzd hcr (tb_told0 P sn (by rw [hatE.len]; exact hatE.le) hatE.small)
          have HatE := Lib.hid (And.intro hatE (And.intro oz hleft))
          have hPl : P.length ≤ 40 := by rw [hatE.len]; exact hatE.le
          have hsP : sn ≤ P.length := by rw [hatE.len]; exact hatE.sure
          have hcw := crash_wt hcr (dsk_good P sn hPl)
          have htd : DTold k' 0 := ⟨by have := tb_wt P sn hPl hatE.small; show wtD k' + 0 ≤ 1099511627776; omega, by
            have h1 : (crashD (dsk P sn) keep tear).1.fuse = -1 := by unfold crashD; rw [if_pos (dsk_good P sn hPl)]
            rw [hcr] at h1
            rw [show k'.fuse = -1 from h1]; decide⟩
          have HT := Lib.hid htd
          clear hatE oz iz hzd hcr hleft hcw htd
          go_wp2_with fail
          refine hc5.out.mono ?_
          rintro _ w5 ⟨b5, z5, rfl, hz5, iz5⟩
          have o5 := HatE.out.2.1.past b5 HatE.out.2.1.inside
          obtain ⟨W5, hW5, oW5, iW5, bW5⟩ := var_set o5 iz5
          have k5 := set5_kept w5 G (.slice z5.fA z5.files.length z5.fc) (.slice z5.wA z5.waits.length z5.wc) (.int .i64 z5.room) (.bool z5.down) (.int .i64 z5.fuse)
          have row5 : W5.ownsRow w.heap.size 9 1 (.slice A1 P.length c1) P.length (P.map Value.string) := by
            rw [hW5]
            exact k5.row (own_below HatE.out.1.row b5) (fun b hb e => by subst e; exact HatE.out.1.off hb)
          have bw5 : Below w.heap.size w W5 := (HatE.out.1.below.trans (b5.mono HatE.out.1.below.size)).trans (bW5 _ HatE.out.1.lo)
          obtain ⟨f0, f1, f2, f3, f4⟩ := open5 o5
          clear d0 d1 d2 d3 d4
          obtain ⟨d0, d1, d2, d3, d4⟩ := own5 o5
          have H5 := Lib.hid (And.intro bw5 (And.intro oW5 (And.intro iW5 (And.intro hz5 row5))))
          clear b5 hz5 iz5 o5 oW5 iW5 bW5 k5 row5 bw5 hc5
          go_upto_region 18 with fail
          rw [← hW5]
          clear hW5 d0 d1 d2 d3 d4 f0 f1 f2 f3 f4
          obtain ⟨d0, d1, d2, d3, d4⟩ := own5 H5.out.2.1
          obtain ⟨⟨r1, r2⟩, hr⟩ : ∃ r, readD k' fN = r := ⟨_, rfl⟩
          have hc6 := read_at fN H5.out.2.2.1 H5.out.2.2.2.1 hr HT.out
          have hlt := HatE.out.2.2
          rw [hr] at hlt
          have HLT := Lib.hid hlt
          unfold fN at hc6
          clear hr hlt
          go_wp2_with fail
          refine hc6.out.mono ?_
          rintro _ w6 ⟨rfl, b6⟩
          have H6 := Lib.hid (And.intro (H5.out.1.trans (b6.mono H5.out.1.size)) (own_below H5.out.2.2.2.2 b6))
          clear b6 d0 d1 d2 d3 d4 hc6
          rcases HLT.out with ⟨he, hs0⟩ | ⟨m, cc, hm1, hm2, hpc, he⟩
          · injection he with he1 he2
            subst he1 he2 hs0
            go_wp2_with fail
            go_ret
            exact ⟨rfl, H6.out.1⟩
          · injection he with he1 he2
            subst he1 he2
            have HP := Lib.hid hpc
            have HC := Lib.hid HatE.out.1.small
            clear hpc HLT
            go_wp2_with fail
            go_loopw [16, 18] (fun v i wq => ∃ n : Nat, i = .int .i64 (n : Int) ∧ n ≤ m ∧ v = .string ⟨(catR ((P.take m).drop n) ++ cc).toArray⟩ ∧ Below w6.heap.size w6 wq)
              (fun _ i _ => m + 1 - (intOf i).toNat)
            case atStart => exact ⟨0, rfl, by omega, rfl, Below.refl _ _⟩
            case round =>
              obtain ⟨n, rfl, hn, rfl, hb⟩ := hrel
              have q2 : decide ((n : Int) ≤ (P.length : Int)) = true := decide_eq_true (by omega)
              have q2' : decide (n ≤ P.length) = true := decide_eq_true (by omega)
              have hcl : (catR ((P.take m).drop n) ++ cc).length ≤ 2700000 := by
                have h1 := cat_len (P := (P.take m).drop n) (m := 65560) fun p hp => fr_len (HC.out p (List.mem_of_mem_take (List.mem_of_mem_drop hp)))
                have h2 : ((P.take m).drop n).length * 65560 ≤ 40 * 65560 := Nat.mul_le_mul_right _ (by rw [List.length_drop, List.length_take]; omega)
                have h3 : cc.length ≤ 65560 := by
                  rcases HP.out with rfl | ⟨p, j, hp, rfl, hj⟩
                  · simp
                  · have := fr_len (HC.out p (List.mem_of_getElem? hp))
                    rw [List.length_take]; omega
                rw [List.length_append]; omega
              have yT := fun W => Lib.hid (takeFrame_any ⟨(catR ((P.take m).drop n) ++ cc).toArray⟩ W (by rw [sizeL]; unfold maxLen; omega))
              have e1 : (⟨(catR ((P.take m).drop n) ++ cc).toArray⟩ : ByteArray).data.toList = catR ((P.take m).drop n) ++ cc := rfl
              rw [e1] at yT
              clear e1 hcl
              by_cases hnm : n < m
              · have hx : P[n]? = some P[n] := List.getElem?_eq_getElem (by omega)
                have hpn := HC.out _ (List.mem_of_getElem? hx)
                rw [take_next hnm hx hpn] at yT
                have hcell : ∃ g, A1 = some ⟨g, 0, none⟩ ∧ g < w6.heap.size ∧ w6.cell? ⟨g, 0 + n, none⟩ = some (.string P[n]) := by
                  obtain ⟨A9, c9, e9, _, _, l9⟩ := lies_of_own (size := 1) (cells := cS) (l := P) (by decide) cS_len rfl (by rw [cS_map]; exact H6.out.2)
                  injection e9 with e9 _ _
                  obtain ⟨g, o9, eg, hg, hc9⟩ := l9 (by omega)
                  have h0 := hc9 n _ hx 0 _ rfl
                  rw [Nat.mul_one, Nat.add_zero] at h0
                  rcases H6.out.2.2 with ⟨e8, h8⟩ | ⟨g8, c8, cur8, e8, _⟩
                  · omega
                  · injection e8 with e8 _ _
                    rw [e9, eg] at e8
                    injection e8 with e8
                    injection e8 with e81 e82 e83
                    subst e81 e82
                    exact ⟨g, by rw [e9, eg], hg, h0⟩
                obtain ⟨g, hA1, hg, hc0⟩ := hcell
                rw [Nat.zero_add] at hc0
                subst hA1
                have c0 := (hb.cell (p := ⟨g, n, none⟩) hg).trans hc0
                have hps : (⟨(P[n].data.toList).toArray⟩ : ByteArray) = P[n] := (str_of _).symm
                rw [show tripleS (P[n].data.toList, catR ((P.take m).drop (n + 1)) ++ cc, 0) = .tuple #[.string P[n], .string ⟨(catR ((P.take m).drop (n + 1)) ++ cc).toArray⟩, .int .i64 0] by unfold tripleS; rw [hps]] at yT
                generalize hpg : P[n] = p at *
                have t3 : ((n : Int) == (P.length : Int)) = false := beq_eq_false_iff_ne.2 (by omega)
                have t3' : (n == P.length) = false := beq_eq_false_iff_ne.2 (by omega)
                have q3 : (n : Int) < (P.length : Int) := by omega
                have q4 : (0 : Int) ≤ (n : Int) := by omega
                have HB := Lib.hid hb
                clear hb hx hpn hc0 hps hpg hg
                go_wp2_with fail
                refine (yT _).out.mono ?_
                rintro _ w7 ⟨rfl, b7⟩
                have c0' := c0
                clear c0
                have c0 := (b7.cell (p := ⟨g, n, none⟩) (World.block_lt_of_cell? _ ⟨g, n, none⟩ c0')).trans c0'
                have H7 := Lib.hid (HB.out.trans (b7.mono HB.out.size))
                clear b7 c0'
                go_wp2_with fail
                go_roundw
                case rel => exact ⟨n + 1, by go_num, by omega, rfl, H7.out⟩
                case measure => simp [intOf]; omega
              · have hnm2 : n = m := by omega
                subst hnm2
                have hdr : (P.take n).drop n = [] := List.drop_eq_nil_of_le (by rw [List.length_take]; omega)
                rw [hdr] at yT ⊢
                rw [show catR [] ++ cc = cc from rfl, take_end HP.out HC.out] at yT
                rw [show catR [] ++ cc = cc from rfl]
                unfold tripleS at yT
                have t4 : decide ((n : Int) ≥ (sn : Int)) = true := decide_eq_true (by omega)
                have t4' : decide (sn ≤ n) = true := decide_eq_true (by omega)
                have HB := Lib.hid hb
                clear hb hdr hnm
                go_wp2_with fail
                refine (yT _).out.mono ?_
                rintro _ w7 ⟨rfl, b7⟩
                have H7 := Lib.hid (H6.out.1.trans ((HB.out.trans (b7.mono HB.out.size)).mono H6.out.1.size))
                clear b7
                go_wp2_with fail
                go_ret
                exact ⟨rfl, H7.out⟩
        · have t1 : ((k : Int) == 40) = false := beq_eq_false_iff_ne.2 (by omega)
          clear h40
          go_wp2_with fail
          refine (hfr _).out.mono ?_
          rintro _ w2 ⟨rfl, b2⟩
          unfold pairS
          have H2 := Lib.hid b2
          clear b2 x0
          go_upto_region 10 with fail
          go_upto_region 17 with fail
          have hatE := (TAt.past Hat.out H2.out)
          obtain ⟨z, hzd, oz, iz⟩ := hatE.disk
          obtain ⟨k', hcr, hleft⟩ := dsk_crash (P := P) (s := sn) (by rw [hatE.len]; exact hatE.le) (by rw [hatE.len]; exact hatE.sure) keep tear
          obtain ⟨d0, d1, d2, d3, d4⟩ := own5 oz
          have hc5 := crash_at keep tear iz hzd hcr (tb_told0 P sn (by rw [hatE.len]; exact hatE.le) hatE.small)
          have HatE := Lib.hid (And.intro hatE (And.intro oz hleft))
          have hPl : P.length ≤ 40 := by rw [hatE.len]; exact hatE.le
          have hsP : sn ≤ P.length := by rw [hatE.len]; exact hatE.sure
          have hcw := crash_wt hcr (dsk_good P sn hPl)
          have htd : DTold k' 0 := ⟨by have := tb_wt P sn hPl hatE.small; show wtD k' + 0 ≤ 1099511627776; omega, by
            have h1 : (crashD (dsk P sn) keep tear).1.fuse = -1 := by unfold crashD; rw [if_pos (dsk_good P sn hPl)]
            rw [hcr] at h1
            rw [show k'.fuse = -1 from h1]; decide⟩
          have HT := Lib.hid htd
          clear hatE oz iz hzd hcr hleft hcw htd
          go_wp2_with fail
          refine hc5.out.mono ?_
          rintro _ w5 ⟨b5, z5, rfl, hz5, iz5⟩
          have o5 := HatE.out.2.1.past b5 HatE.out.2.1.inside
          obtain ⟨W5, hW5, oW5, iW5, bW5⟩ := var_set o5 iz5
          have k5 := set5_kept w5 G (.slice z5.fA z5.files.length z5.fc) (.slice z5.wA z5.waits.length z5.wc) (.int .i64 z5.room) (.bool z5.down) (.int .i64 z5.fuse)
          have row5 : W5.ownsRow w.heap.size 9 1 (.slice A1 P.length c1) P.length (P.map Value.string) := by
            rw [hW5]
            exact k5.row (own_below HatE.out.1.row b5) (fun b hb e => by subst e; exact HatE.out.1.off hb)
          have bw5 : Below w.heap.size w W5 := (HatE.out.1.below.trans (b5.mono HatE.out.1.below.size)).trans (bW5 _ HatE.out.1.lo)
          obtain ⟨f0, f1, f2, f3, f4⟩ := open5 o5
          clear d0 d1 d2 d3 d4
          obtain ⟨d0, d1, d2, d3, d4⟩ := own5 o5
          have H5 := Lib.hid (And.intro bw5 (And.intro oW5 (And.intro iW5 (And.intro hz5 row5))))
          clear b5 hz5 iz5 o5 oW5 iW5 bW5 k5 row5 bw5 hc5
          go_upto_region 18 with fail
          rw [← hW5]
          clear hW5 d0 d1 d2 d3 d4 f0 f1 f2 f3 f4
          obtain ⟨d0, d1, d2, d3, d4⟩ := own5 H5.out.2.1
          obtain ⟨⟨r1, r2⟩, hr⟩ : ∃ r, readD k' fN = r := ⟨_, rfl⟩
          have hc6 := read_at fN H5.out.2.2.1 H5.out.2.2.2.1 hr HT.out
          have hlt := HatE.out.2.2
          rw [hr] at hlt
          have HLT := Lib.hid hlt
          unfold fN at hc6
          clear hr hlt
          go_wp2_with fail
          refine hc6.out.mono ?_
          rintro _ w6 ⟨rfl, b6⟩
          have H6 := Lib.hid (And.intro (H5.out.1.trans (b6.mono H5.out.1.size)) (own_below H5.out.2.2.2.2 b6))
          clear b6 d0 d1 d2 d3 d4 hc6
          rcases HLT.out with ⟨he, hs0⟩ | ⟨m, cc, hm1, hm2, hpc, he⟩
          · injection he with he1 he2
            subst he1 he2 hs0
            go_wp2_with fail
            go_ret
            exact ⟨rfl, H6.out.1⟩
          · injection he with he1 he2
            subst he1 he2
            have HP := Lib.hid hpc
            have HC := Lib.hid HatE.out.1.small
            clear hpc HLT
            go_wp2_with fail
            go_loopw [16, 18] (fun v i wq => ∃ n : Nat, i = .int .i64 (n : Int) ∧ n ≤ m ∧ v = .string ⟨(catR ((P.take m).drop n) ++ cc).toArray⟩ ∧ Below w6.heap.size w6 wq)
              (fun _ i _ => m + 1 - (intOf i).toNat)
            case atStart => exact ⟨0, rfl, by omega, rfl, Below.refl _ _⟩
            case round =>
              obtain ⟨n, rfl, hn, rfl, hb⟩ := hrel
              have q2 : decide ((n : Int) ≤ (P.length : Int)) = true := decide_eq_true (by omega)
              have q2' : decide (n ≤ P.length) = true := decide_eq_true (by omega)
              have hcl : (catR ((P.take m).drop n) ++ cc).length ≤ 2700000 := by
                have h1 := cat_len (P := (P.take m).drop n) (m := 65560) fun p hp => fr_len (HC.out p (List.mem_of_mem_take (List.mem_of_mem_drop hp)))
                have h2 : ((P.take m).drop n).length * 65560 ≤ 40 * 65560 := Nat.mul_le_mul_right _ (by rw [List.length_drop, List.length_take]; omega)
                have h3 : cc.length ≤ 65560 := by
                  rcases HP.out with rfl | ⟨p, j, hp, rfl, hj⟩
                  · simp
                  · have := fr_len (HC.out p (List.mem_of_getElem? hp))
                    rw [List.length_take]; omega
                rw [List.length_append]; omega
              have yT := fun W => Lib.hid (takeFrame_any ⟨(catR ((P.take m).drop n) ++ cc).toArray⟩ W (by rw [sizeL]; unfold maxLen; omega))
              have e1 : (⟨(catR ((P.take m).drop n) ++ cc).toArray⟩ : ByteArray).data.toList = catR ((P.take m).drop n) ++ cc := rfl
              rw [e1] at yT
              clear e1 hcl
              by_cases hnm : n < m
              · have hx : P[n]? = some P[n] := List.getElem?_eq_getElem (by omega)
                have hpn := HC.out _ (List.mem_of_getElem? hx)
                rw [take_next hnm hx hpn] at yT
                have hcell : ∃ g, A1 = some ⟨g, 0, none⟩ ∧ g < w6.heap.size ∧ w6.cell? ⟨g, 0 + n, none⟩ = some (.string P[n]) := by
                  obtain ⟨A9, c9, e9, _, _, l9⟩ := lies_of_own (size := 1) (cells := cS) (l := P) (by decide) cS_len rfl (by rw [cS_map]; exact H6.out.2)
                  injection e9 with e9 _ _
                  obtain ⟨g, o9, eg, hg, hc9⟩ := l9 (by omega)
                  have h0 := hc9 n _ hx 0 _ rfl
                  rw [Nat.mul_one, Nat.add_zero] at h0
                  rcases H6.out.2.2 with ⟨e8, h8⟩ | ⟨g8, c8, cur8, e8, _⟩
                  · omega
                  · injection e8 with e8 _ _
                    rw [e9, eg] at e8
                    injection e8 with e8
                    injection e8 with e81 e82 e83
                    subst e81 e82
                    exact ⟨g, by rw [e9, eg], hg, h0⟩
                obtain ⟨g, hA1, hg, hc0⟩ := hcell
                rw [Nat.zero_add] at hc0
                subst hA1
                have c0 := (hb.cell (p := ⟨g, n, none⟩) hg).trans hc0
                have hps : (⟨(P[n].data.toList).toArray⟩ : ByteArray) = P[n] := (str_of _).symm
                rw [show tripleS (P[n].data.toList, catR ((P.take m).drop (n + 1)) ++ cc, 0) = .tuple #[.string P[n], .string ⟨(catR ((P.take m).drop (n + 1)) ++ cc).toArray⟩, .int .i64 0] by unfold tripleS; rw [hps]] at yT
                generalize hpg : P[n] = p at *
                have t3 : ((n : Int) == (P.length : Int)) = false := beq_eq_false_iff_ne.2 (by omega)
                have t3' : (n == P.length) = false := beq_eq_false_iff_ne.2 (by omega)
                have q3 : (n : Int) < (P.length : Int) := by omega
                have q4 : (0 : Int) ≤ (n : Int) := by omega
                have HB := Lib.hid hb
                clear hb hx hpn hc0 hps hpg hg
                go_wp2_with fail
                refine (yT _).out.mono ?_
                rintro _ w7 ⟨rfl, b7⟩
                have c0' := c0
                clear c0
                have c0 := (b7.cell (p := ⟨g, n, none⟩) (World.block_lt_of_cell? _ ⟨g, n, none⟩ c0')).trans c0'
                have H7 := Lib.hid (HB.out.trans (b7.mono HB.out.size))
                clear b7 c0'
                go_wp2_with fail
                go_roundw
                case rel => exact ⟨n + 1, by go_num, by omega, rfl, H7.out⟩
                case measure => simp [intOf]; omega
              · have hnm2 : n = m := by omega
                subst hnm2
                have hdr : (P.take n).drop n = [] := List.drop_eq_nil_of_le (by rw [List.length_take]; omega)
                rw [hdr] at yT ⊢
                rw [show catR [] ++ cc = cc from rfl, take_end HP.out HC.out] at yT
                rw [show catR [] ++ cc = cc from rfl]
                unfold tripleS at yT
                have t4 : decide ((n : Int) ≥ (sn : Int)) = true := decide_eq_true (by omega)
                have t4' : decide (sn ≤ n) = true := decide_eq_true (by omega)
                have HB := Lib.hid hb
                clear hb hdr hnm
                go_wp2_with fail
                refine (yT _).out.mono ?_
                rintro _ w7 ⟨rfl, b7⟩
                have H7 := Lib.hid (H6.out.1.trans ((HB.out.trans (b7.mono HB.out.size)).mono H6.out.1.size))
                clear b7
                go_wp2_with fail
                go_ret
                exact ⟨rfl, H7.out⟩
      · rw [frm_fits hlong] at hfr
        have hpz : p.size ≤ 65536 := by omega
        rw [show txt p.data.toList ++ sealS p.data.toList = fr p from rfl] at hfr
        clear hlong ll
        by_cases h40 : k = 40
        · have t1 : ((k : Int) == 40) = true := by rw [h40]; rfl
          clear h40
          go_wp2_with fail
          refine (hfr _).out.mono ?_
          rintro _ w2 ⟨rfl, b2⟩
          unfold pairS
          have H2 := Lib.hid b2
          clear b2 x0
          go_upto_region 10 with fail
          go_upto_region 17 with fail
          have hatE := (TAt.past Hat.out H2.out)
          obtain ⟨z, hzd, oz, iz⟩ := hatE.disk
          obtain ⟨k', hcr, hleft⟩ := dsk_crash (P := P) (s := sn) (by rw [hatE.len]; exact hatE.le) (by rw [hatE.len]; exact hatE.sure) keep tear
          obtain ⟨d0, d1, d2, d3, d4⟩ := own5 oz
          have hc5 := crash_at keep tear iz hzd hcr (tb_told0 P sn (by rw [hatE.len]; exact hatE.le) hatE.small)
          have HatE := Lib.hid (And.intro hatE (And.intro oz hleft))
          have hPl : P.length ≤ 40 := by rw [hatE.len]; exact hatE.le
          have hsP : sn ≤ P.length := by rw [hatE.len]; exact hatE.sure
          have hcw := crash_wt hcr (dsk_good P sn hPl)
          have htd : DTold k' 0 := ⟨by have := tb_wt P sn hPl hatE.small; show wtD k' + 0 ≤ 1099511627776; omega, by
            have h1 : (crashD (dsk P sn) keep tear).1.fuse = -1 := by unfold crashD; rw [if_pos (dsk_good P sn hPl)]
            rw [hcr] at h1
            rw [show k'.fuse = -1 from h1]; decide⟩
          have HT := Lib.hid htd
          clear hatE oz iz hzd hcr hleft hcw htd
          go_wp2_with fail
          refine hc5.out.mono ?_
          rintro _ w5 ⟨b5, z5, rfl, hz5, iz5⟩
          have o5 := HatE.out.2.1.past b5 HatE.out.2.1.inside
          obtain ⟨W5, hW5, oW5, iW5, bW5⟩ := var_set o5 iz5
          have k5 := set5_kept w5 G (.slice z5.fA z5.files.length z5.fc) (.slice z5.wA z5.waits.length z5.wc) (.int .i64 z5.room) (.bool z5.down) (.int .i64 z5.fuse)
          have row5 : W5.ownsRow w.heap.size 9 1 (.slice A1 P.length c1) P.length (P.map Value.string) := by
            rw [hW5]
            exact k5.row (own_below HatE.out.1.row b5) (fun b hb e => by subst e; exact HatE.out.1.off hb)
          have bw5 : Below w.heap.size w W5 := (HatE.out.1.below.trans (b5.mono HatE.out.1.below.size)).trans (bW5 _ HatE.out.1.lo)
          obtain ⟨f0, f1, f2, f3, f4⟩ := open5 o5
          clear d0 d1 d2 d3 d4
          obtain ⟨d0, d1, d2, d3, d4⟩ := own5 o5
          have H5 := Lib.hid (And.intro bw5 (And.intro oW5 (And.intro iW5 (And.intro hz5 row5))))
          clear b5 hz5 iz5 o5 oW5 iW5 bW5 k5 row5 bw5 hc5
          go_upto_region 18 with fail
          rw [← hW5]
          clear hW5 d0 d1 d2 d3 d4 f0 f1 f2 f3 f4
          obtain ⟨d0, d1, d2, d3, d4⟩ := own5 H5.out.2.1
          obtain ⟨⟨r1, r2⟩, hr⟩ : ∃ r, readD k' fN = r := ⟨_, rfl⟩
          have hc6 := read_at fN H5.out.2.2.1 H5.out.2.2.2.1 hr HT.out
          have hlt := HatE.out.2.2
          rw [hr] at hlt
          have HLT := Lib.hid hlt
          unfold fN at hc6
          clear hr hlt
          go_wp2_with fail
          refine hc6.out.mono ?_
          rintro _ w6 ⟨rfl, b6⟩
          have H6 := Lib.hid (And.intro (H5.out.1.trans (b6.mono H5.out.1.size)) (own_below H5.out.2.2.2.2 b6))
          clear b6 d0 d1 d2 d3 d4 hc6
          rcases HLT.out with ⟨he, hs0⟩ | ⟨m, cc, hm1, hm2, hpc, he⟩
          · injection he with he1 he2
            subst he1 he2 hs0
            go_wp2_with fail
            go_ret
            exact ⟨rfl, H6.out.1⟩
          · injection he with he1 he2
            subst he1 he2
            have HP := Lib.hid hpc
            have HC := Lib.hid HatE.out.1.small
            clear hpc HLT
            go_wp2_with fail
            go_loopw [16, 18] (fun v i wq => ∃ n : Nat, i = .int .i64 (n : Int) ∧ n ≤ m ∧ v = .string ⟨(catR ((P.take m).drop n) ++ cc).toArray⟩ ∧ Below w6.heap.size w6 wq)
              (fun _ i _ => m + 1 - (intOf i).toNat)
            case atStart => exact ⟨0, rfl, by omega, rfl, Below.refl _ _⟩
            case round =>
              obtain ⟨n, rfl, hn, rfl, hb⟩ := hrel
              have q2 : decide ((n : Int) ≤ (P.length : Int)) = true := decide_eq_true (by omega)
              have q2' : decide (n ≤ P.length) = true := decide_eq_true (by omega)
              have hcl : (catR ((P.take m).drop n) ++ cc).length ≤ 2700000 := by
                have h1 := cat_len (P := (P.take m).drop n) (m := 65560) fun p hp => fr_len (HC.out p (List.mem_of_mem_take (List.mem_of_mem_drop hp)))
                have h2 : ((P.take m).drop n).length * 65560 ≤ 40 * 65560 := Nat.mul_le_mul_right _ (by rw [List.length_drop, List.length_take]; omega)
                have h3 : cc.length ≤ 65560 := by
                  rcases HP.out with rfl | ⟨p, j, hp, rfl, hj⟩
                  · simp
                  · have := fr_len (HC.out p (List.mem_of_getElem? hp))
                    rw [List.length_take]; omega
                rw [List.length_append]; omega
              have yT := fun W => Lib.hid (takeFrame_any ⟨(catR ((P.take m).drop n) ++ cc).toArray⟩ W (by rw [sizeL]; unfold maxLen; omega))
              have e1 : (⟨(catR ((P.take m).drop n) ++ cc).toArray⟩ : ByteArray).data.toList = catR ((P.take m).drop n) ++ cc := rfl
              rw [e1] at yT
              clear e1 hcl
              by_cases hnm : n < m
              · have hx : P[n]? = some P[n] := List.getElem?_eq_getElem (by omega)
                have hpn := HC.out _ (List.mem_of_getElem? hx)
                rw [take_next hnm hx hpn] at yT
                have hcell : ∃ g, A1 = some ⟨g, 0, none⟩ ∧ g < w6.heap.size ∧ w6.cell? ⟨g, 0 + n, none⟩ = some (.string P[n]) := by
                  obtain ⟨A9, c9, e9, _, _, l9⟩ := lies_of_own (size := 1) (cells := cS) (l := P) (by decide) cS_len rfl (by rw [cS_map]; exact H6.out.2)
                  injection e9 with e9 _ _
                  obtain ⟨g, o9, eg, hg, hc9⟩ := l9 (by omega)
                  have h0 := hc9 n _ hx 0 _ rfl
                  rw [Nat.mul_one, Nat.add_zero] at h0
                  rcases H6.out.2.2 with ⟨e8, h8⟩ | ⟨g8, c8, cur8, e8, _⟩
                  · omega
                  · injection e8 with e8 _ _
                    rw [e9, eg] at e8
                    injection e8 with e8
                    injection e8 with e81 e82 e83
                    subst e81 e82
                    exact ⟨g, by rw [e9, eg], hg, h0⟩
                obtain ⟨g, hA1, hg, hc0⟩ := hcell
                rw [Nat.zero_add] at hc0
                subst hA1
                have c0 := (hb.cell (p := ⟨g, n, none⟩) hg).trans hc0
                have hps : (⟨(P[n].data.toList).toArray⟩ : ByteArray) = P[n] := (str_of _).symm
                rw [show tripleS (P[n].data.toList, catR ((P.take m).drop (n + 1)) ++ cc, 0) = .tuple #[.string P[n], .string ⟨(catR ((P.take m).drop (n + 1)) ++ cc).toArray⟩, .int .i64 0] by unfold tripleS; rw [hps]] at yT
                generalize hpg : P[n] = p at *
                have t3 : ((n : Int) == (P.length : Int)) = false := beq_eq_false_iff_ne.2 (by omega)
                have t3' : (n == P.length) = false := beq_eq_false_iff_ne.2 (by omega)
                have q3 : (n : Int) < (P.length : Int) := by omega
                have q4 : (0 : Int) ≤ (n : Int) := by omega
                have HB := Lib.hid hb
                clear hb hx hpn hc0 hps hpg hg
                go_wp2_with fail
                refine (yT _).out.mono ?_
                rintro _ w7 ⟨rfl, b7⟩
                have c0' := c0
                clear c0
                have c0 := (b7.cell (p := ⟨g, n, none⟩) (World.block_lt_of_cell? _ ⟨g, n, none⟩ c0')).trans c0'
                have H7 := Lib.hid (HB.out.trans (b7.mono HB.out.size))
                clear b7 c0'
                go_wp2_with fail
                go_roundw
                case rel => exact ⟨n + 1, by go_num, by omega, rfl, H7.out⟩
                case measure => simp [intOf]; omega
              · have hnm2 : n = m := by omega
                subst hnm2
                have hdr : (P.take n).drop n = [] := List.drop_eq_nil_of_le (by rw [List.length_take]; omega)
                rw [hdr] at yT ⊢
                rw [show catR [] ++ cc = cc from rfl, take_end HP.out HC.out] at yT
                rw [show catR [] ++ cc = cc from rfl]
                unfold tripleS at yT
                have t4 : decide ((n : Int) ≥ (sn : Int)) = true := decide_eq_true (by omega)
                have t4' : decide (sn ≤ n) = true := decide_eq_true (by omega)
                have HB := Lib.hid hb
                clear hb hdr hnm
                go_wp2_with fail
                refine (yT _).out.mono ?_
                rintro _ w7 ⟨rfl, b7⟩
                have H7 := Lib.hid (H6.out.1.trans ((HB.out.trans (b7.mono HB.out.size)).mono H6.out.1.size))
                clear b7
                go_wp2_with fail
                go_ret
                exact ⟨rfl, H7.out⟩
        · have t1 : ((k : Int) == 40) = false := beq_eq_false_iff_ne.2 (by omega)
          have hk40 : k < 40 := by omega
          by_cases hbk : k < bs.length
          · have hbx : bs[k]? = some bs[k] := List.getElem?_eq_getElem hbk
            obtain ⟨b', o', hA', hB', hxb⟩ := HL.out.2.2 (by omega)
            have xbw := hxb k _ hbx 0 _ rfl
            rw [Nat.mul_one, Nat.add_zero] at xbw
            have HB' := Lib.hid (And.intro hB' xbw)
            generalize bs[k] = bb at *
            have HA' := Lib.hid hA'
            rw [hA']
            clear hbx hxb hA' hB' xbw
            obtain ⟨z, hzd, oz, iz⟩ := Hat.out.disk
            have HZ := Lib.hid (And.intro hzd (And.intro oz iz))
            clear hzd oz iz h40
            go_wp2_with fail
            refine (hfr _).out.mono ?_
            rintro _ w2 ⟨rfl, b2⟩
            unfold pairS
            have oz2 := HZ.out.2.1.past b2 HZ.out.2.1.inside
            obtain ⟨V, hV, bV, sV, oV⟩ := wrbox w2 ⟨1, ⟨#[102]⟩, ⟨#[]⟩, ⟨(fr p).toArray⟩⟩
            have hPl : P.length < 40 := by rw [Hat.out.len]; exact hk40
            have hcD := do_atN (W := V) (B := some ⟨w2.heap.size, 0, none⟩) 1 ((HZ.out.2.2.keep b2).keep bV) HZ.out.1 (dsk_do (P := P) (s := sn) (p := p) hPl (by rw [Hat.out.len]; exact Hat.out.sure) Hat.out.small hpz) (lies4_own (t := 36) (l := [wrF p]) oV) (tb_told P sn p hPl Hat.out.small hpz)
            have row2 := own_below (own_below Hat.out.row b2) bV
            have hv0 := fun g hg => (Hat.out.row.lt g hg).2
            have hs2 := b2.size
            have HV := Lib.hid (And.intro ((Hat.out.below.trans (b2.mono Hat.out.below.size)).trans (bV.mono (Nat.le_trans Hat.out.below.size b2.size))) (And.intro (oz2.past bV oz2.inside) (And.intro row2 (fun g (hg : (Value.slice A1 P.length c1).ownBlock = some g) => (by have := hv0 g hg; omega : g < V.heap.size)))))
            obtain ⟨d0, d1, d2, d3, d4⟩ := own5 oz2
            clear b2 oz2 bV sV oV row2 hv0 hs2 x0
            dsimp only at hV
            go_upto_region 11 with fail
            go_wp2_with fail
            rw [← hV]
            clear hV
            refine hcD.out.mono ?_
            rintro _ w3 ⟨b3, z1, rfl, hz1, iz1, nz1⟩
            have o3 := HV.out.2.1.past b3 HV.out.2.1.inside
            obtain ⟨W3, hW3, oW3, iW3, bW3⟩ := var_set o3 iz1
            have k3 := set5_kept w3 G (.slice z1.fA z1.files.length z1.fc) (.slice z1.wA z1.waits.length z1.wc) (.int .i64 z1.room) (.bool z1.down) (.int .i64 z1.fuse)
            have row3 : W3.ownsRow w.heap.size 9 1 (.slice A1 P.length c1) P.length (P.map Value.string) := by
              rw [hW3]
              exact k3.row (own_below HV.out.2.2.1 b3) (fun b hb e => by subst e; exact Hat.out.off hb)
            have bw3 : Below w.heap.size w W3 := (HV.out.1.trans (b3.mono HV.out.1.size)).trans (bW3 _ Hat.out.lo)
            obtain ⟨f0, f1, f2, f3, f4⟩ := open5 o3
            clear d0 d1 d2 d3 d4
            obtain ⟨d0, d1, d2, d3, d4⟩ := own5 o3
            have hRow := Lib.hid row3
            have hw3s := bw3.size
            have H3 := Lib.hid (And.intro bw3 (And.intro oW3 (And.intro iW3 (And.intro hz1 nz1))))
            clear b3 hz1 iz1 nz1 o3 oW3 iW3 bW3 k3 row3 bw3 hcD
            go_upto_region 12 with fail
            rw [← hW3]
            clear hW3 d0 d1 d2 d3 d4 f0 f1 f2 f3 f4
            go_wp2_with (at_builtin; refine wpList_push _ rfl _ _ 22 rfl w.heap.size 9 i0 (.string ⟨#[]⟩) 1 16 HI.out.1 HI.out.2.1 HI.out.2.2.1 HI.out.2.2.2.1 HI.out.2.2.2.2 rfl (by decide) _ _ _ rfl hRow.out _ rfl rfl ?c1 ?c2 ?c3 ?c4 ?_)
            case c1 => rfl
            case c2 => unfold maxLen; omega
            case c3 => omega
            case c4 => omega
            intro v4 w4 ho4 hb4 hv4 hg4
            have hT : Kept W3 w4 (fun b => (Value.slice A1 P.length c1).ownBlock = some b) := Kept.of_grown hg4 (fun b e => e)
            have oG4 := hT.own H3.out.2.1 Hat.out.off
            have iz4 := H3.out.2.2.1.keptN hT H3.out.2.2.2.2 HV.out.2.2.2
            have hat4 : TAt w w4 G (k + 1) v4 (P ++ [p]) sn := by
              refine ⟨H3.out.1.trans hb4, by simpa using ho4, ?_, by simp [Hat.out.len], by omega, by have := Hat.out.sure; omega, ?_, ⟨z1, H3.out.2.2.2.1, oG4, iz4⟩, Hat.out.lo⟩
              · intro e
                rcases hv4 with h | h
                · exact Hat.out.off (h.symm.trans e)
                · have := h.symm.trans e
                  injection this with this
                  have := H3.out.2.1.inside
                  omega
              · intro q hq
                rcases List.mem_append.1 hq with hq | hq
                · exact Hat.out.small q hq
                · obtain rfl : q = p := by simpa using hq
                  exact hpz
            have H4 := Lib.hid hat4
            have hPk := Lib.hid (show (P ++ [p]).length = k + 1 from hat4.len)
            obtain ⟨A4, c4, rfl, _⟩ := row_form' hat4.row
            clear ho4 hb4 hv4 hg4 hT oG4 iz4 hat4 hRow hw3s
            rw [hPk.out]
            have xb := (H4.out.below.cell (p := ⟨b', o' + k, none⟩) HB'.out.1).trans HB'.out.2
            have t2 : decide (k < bs.length) = true := decide_eq_true hbk
            have q5 : (k : Int) < (bs.length : Int) := by omega
            clear hbk
            cases bb
            · go_wp2_with fail
              go_roundw
              case rel => exact ⟨k + 1, sn, P ++ [p], by go_num, by omega, rfl, (by have h := H4.out; rw [hPk.out] at h; exact h)⟩
              case measure => simp [intOf]; omega
            · obtain ⟨z4, hzd4, oz4, iz4⟩ := H4.out.disk
              have hcS := sync_atN iz4 hzd4 (dsk_sync (P := P ++ [p]) (s := sn) (by rw [hPk.out]; omega)) (tb_told0 (P ++ [p]) sn (by rw [hPk.out]; omega) H4.out.small)
              obtain ⟨d0, d1, d2, d3, d4⟩ := own5 oz4
              have H4o := Lib.hid oz4
              clear oz4 iz4 hzd4
              go_wp2_with fail
              refine hcS.out.mono ?_
              rintro _ w5 ⟨b5, z5, rfl, hz5, iz5, nz5⟩
              have o5 := H4o.out.past b5 H4o.out.inside
              obtain ⟨W5, hW5, oW5, iW5, bW5⟩ := var_set o5 iz5
              have k5 := set5_kept w5 G (.slice z5.fA z5.files.length z5.fc) (.slice z5.wA z5.waits.length z5.wc) (.int .i64 z5.room) (.bool z5.down) (.int .i64 z5.fuse)
              have row5 : W5.ownsRow w.heap.size 9 1 (.slice A4 (P ++ [p]).length c4) (P ++ [p]).length ((P ++ [p]).map Value.string) := by
                rw [hW5]
                exact k5.row (own_below H4.out.row b5) (fun b hb e => by subst e; exact H4.out.off hb)
              have bw5 : Below w.heap.size w W5 := (H4.out.below.trans (b5.mono H4.out.below.size)).trans (bW5 _ H4.out.lo)
              have hat5 : TAt w W5 G (k + 1) (.slice A4 (P ++ [p]).length c4) (P ++ [p]) (k + 1) := ⟨bw5, row5, H4.out.off, H4.out.len, H4.out.le, Nat.le_refl _, H4.out.small, ⟨z5, by rw [hz5, hPk.out], oW5, iW5⟩, H4.out.lo⟩
              have H5 := Lib.hid hat5
              obtain ⟨f0, f1, f2, f3, f4⟩ := open5 o5
              clear d0 d1 d2 d3 d4
              obtain ⟨d0, d1, d2, d3, d4⟩ := own5 o5
              clear b5 hz5 iz5 nz5 o5 oW5 iW5 bW5 k5 row5 bw5 hat5 hcS
              go_upto_region 15 with fail
              rw [← hW5]
              clear hW5 d0 d1 d2 d3 d4 f0 f1 f2 f3 f4 xb
              go_wp2_with fail
              go_roundw
              case rel => exact ⟨k + 1, k + 1, P ++ [p], by go_num, by omega, by go_num, (by have h := H5.out; rw [hPk.out] at h; exact h)⟩
              case measure => simp [intOf]; omega
          · obtain ⟨z, hzd, oz, iz⟩ := Hat.out.disk
            have HZ := Lib.hid (And.intro hzd (And.intro oz iz))
            clear hzd oz iz h40
            go_wp2_with fail
            refine (hfr _).out.mono ?_
            rintro _ w2 ⟨rfl, b2⟩
            unfold pairS
            have oz2 := HZ.out.2.1.past b2 HZ.out.2.1.inside
            obtain ⟨V, hV, bV, sV, oV⟩ := wrbox w2 ⟨1, ⟨#[102]⟩, ⟨#[]⟩, ⟨(fr p).toArray⟩⟩
            have hPl : P.length < 40 := by rw [Hat.out.len]; exact hk40
            have hcD := do_atN (W := V) (B := some ⟨w2.heap.size, 0, none⟩) 1 ((HZ.out.2.2.keep b2).keep bV) HZ.out.1 (dsk_do (P := P) (s := sn) (p := p) hPl (by rw [Hat.out.len]; exact Hat.out.sure) Hat.out.small hpz) (lies4_own (t := 36) (l := [wrF p]) oV) (tb_told P sn p hPl Hat.out.small hpz)
            have row2 := own_below (own_below Hat.out.row b2) bV
            have hv0 := fun g hg => (Hat.out.row.lt g hg).2
            have hs2 := b2.size
            have HV := Lib.hid (And.intro ((Hat.out.below.trans (b2.mono Hat.out.below.size)).trans (bV.mono (Nat.le_trans Hat.out.below.size b2.size))) (And.intro (oz2.past bV oz2.inside) (And.intro row2 (fun g (hg : (Value.slice A1 P.length c1).ownBlock = some g) => (by have := hv0 g hg; omega : g < V.heap.size)))))
            obtain ⟨d0, d1, d2, d3, d4⟩ := own5 oz2
            clear b2 oz2 bV sV oV row2 hv0 hs2 x0
            dsimp only at hV
            go_upto_region 11 with fail
            go_wp2_with fail
            rw [← hV]
            clear hV
            refine hcD.out.mono ?_
            rintro _ w3 ⟨b3, z1, rfl, hz1, iz1, nz1⟩
            have o3 := HV.out.2.1.past b3 HV.out.2.1.inside
            obtain ⟨W3, hW3, oW3, iW3, bW3⟩ := var_set o3 iz1
            have k3 := set5_kept w3 G (.slice z1.fA z1.files.length z1.fc) (.slice z1.wA z1.waits.length z1.wc) (.int .i64 z1.room) (.bool z1.down) (.int .i64 z1.fuse)
            have row3 : W3.ownsRow w.heap.size 9 1 (.slice A1 P.length c1) P.length (P.map Value.string) := by
              rw [hW3]
              exact k3.row (own_below HV.out.2.2.1 b3) (fun b hb e => by subst e; exact Hat.out.off hb)
            have bw3 : Below w.heap.size w W3 := (HV.out.1.trans (b3.mono HV.out.1.size)).trans (bW3 _ Hat.out.lo)
            obtain ⟨f0, f1, f2, f3, f4⟩ := open5 o3
            clear d0 d1 d2 d3 d4
            obtain ⟨d0, d1, d2, d3, d4⟩ := own5 o3
            have hRow := Lib.hid row3
            have hw3s := bw3.size
            have H3 := Lib.hid (And.intro bw3 (And.intro oW3 (And.intro iW3 (And.intro hz1 nz1))))
            clear b3 hz1 iz1 nz1 o3 oW3 iW3 bW3 k3 row3 bw3 hcD
            go_upto_region 12 with fail
            rw [← hW3]
            clear hW3 d0 d1 d2 d3 d4 f0 f1 f2 f3 f4
            go_wp2_with (at_builtin; refine wpList_push _ rfl _ _ 22 rfl w.heap.size 9 i0 (.string ⟨#[]⟩) 1 16 HI.out.1 HI.out.2.1 HI.out.2.2.1 HI.out.2.2.2.1 HI.out.2.2.2.2 rfl (by decide) _ _ _ rfl hRow.out _ rfl rfl ?c1 ?c2 ?c3 ?c4 ?_)
            case c1 => rfl
            case c2 => unfold maxLen; omega
            case c3 => omega
            case c4 => omega
            intro v4 w4 ho4 hb4 hv4 hg4
            have hT : Kept W3 w4 (fun b => (Value.slice A1 P.length c1).ownBlock = some b) := Kept.of_grown hg4 (fun b e => e)
            have oG4 := hT.own H3.out.2.1 Hat.out.off
            have iz4 := H3.out.2.2.1.keptN hT H3.out.2.2.2.2 HV.out.2.2.2
            have hat4 : TAt w w4 G (k + 1) v4 (P ++ [p]) sn := by
              refine ⟨H3.out.1.trans hb4, by simpa using ho4, ?_, by simp [Hat.out.len], by omega, by have := Hat.out.sure; omega, ?_, ⟨z1, H3.out.2.2.2.1, oG4, iz4⟩, Hat.out.lo⟩
              · intro e
                rcases hv4 with h | h
                · exact Hat.out.off (h.symm.trans e)
                · have := h.symm.trans e
                  injection this with this
                  have := H3.out.2.1.inside
                  omega
              · intro q hq
                rcases List.mem_append.1 hq with hq | hq
                · exact Hat.out.small q hq
                · obtain rfl : q = p := by simpa using hq
                  exact hpz
            have H4 := Lib.hid hat4
            have hPk := Lib.hid (show (P ++ [p]).length = k + 1 from hat4.len)
            obtain ⟨A4, c4, rfl, _⟩ := row_form' hat4.row
            clear ho4 hb4 hv4 hg4 hT oG4 iz4 hat4 hRow hw3s
            rw [hPk.out]
            have t2 : decide (k < bs.length) = false := decide_eq_false hbk
            go_wp2_with fail
            go_roundw
            case rel => exact ⟨k + 1, sn, P ++ [p], by go_num, by omega, rfl, (by have h := H4.out; rw [hPk.out] at h; exact h)⟩
            case measure => simp [intOf]; omega
    · have hE : k = ss.length := by omega
      clear hlt
      clear hat
      go_upto_region 17 with fail
      have hatE := Hat.out
      obtain ⟨z, hzd, oz, iz⟩ := hatE.disk
      obtain ⟨k', hcr, hleft⟩ := dsk_crash (P := P) (s := sn) (by rw [hatE.len]; exact hatE.le) (by rw [hatE.len]; exact hatE.sure) keep tear
      obtain ⟨d0, d1, d2, d3, d4⟩ := own5 oz
      have hc5 := crash_at keep tear iz hzd hcr (tb_told0 P sn (by rw [hatE.len]; exact hatE.le) hatE.small)
      have HatE := Lib.hid (And.intro hatE (And.intro oz hleft))
      have hPl : P.length ≤ 40 := by rw [hatE.len]; exact hatE.le
      have hsP : sn ≤ P.length := by rw [hatE.len]; exact hatE.sure
      have hcw := crash_wt hcr (dsk_good P sn hPl)
      have htd : DTold k' 0 := ⟨by have := tb_wt P sn hPl hatE.small; show wtD k' + 0 ≤ 1099511627776; omega, by
        have h1 : (crashD (dsk P sn) keep tear).1.fuse = -1 := by unfold crashD; rw [if_pos (dsk_good P sn hPl)]
        rw [hcr] at h1
        rw [show k'.fuse = -1 from h1]; decide⟩
      have HT := Lib.hid htd
      clear hatE oz iz hzd hcr hleft hcw htd
      go_wp2_with fail
      refine hc5.out.mono ?_
      rintro _ w5 ⟨b5, z5, rfl, hz5, iz5⟩
      have o5 := HatE.out.2.1.past b5 HatE.out.2.1.inside
      obtain ⟨W5, hW5, oW5, iW5, bW5⟩ := var_set o5 iz5
      have k5 := set5_kept w5 G (.slice z5.fA z5.files.length z5.fc) (.slice z5.wA z5.waits.length z5.wc) (.int .i64 z5.room) (.bool z5.down) (.int .i64 z5.fuse)
      have row5 : W5.ownsRow w.heap.size 9 1 (.slice A1 P.length c1) P.length (P.map Value.string) := by
        rw [hW5]
        exact k5.row (own_below HatE.out.1.row b5) (fun b hb e => by subst e; exact HatE.out.1.off hb)
      have bw5 : Below w.heap.size w W5 := (HatE.out.1.below.trans (b5.mono HatE.out.1.below.size)).trans (bW5 _ HatE.out.1.lo)
      obtain ⟨f0, f1, f2, f3, f4⟩ := open5 o5
      clear d0 d1 d2 d3 d4
      obtain ⟨d0, d1, d2, d3, d4⟩ := own5 o5
      have H5 := Lib.hid (And.intro bw5 (And.intro oW5 (And.intro iW5 (And.intro hz5 row5))))
      clear b5 hz5 iz5 o5 oW5 iW5 bW5 k5 row5 bw5 hc5
      go_upto_region 18 with fail
      rw [← hW5]
      clear hW5 d0 d1 d2 d3 d4 f0 f1 f2 f3 f4
      obtain ⟨d0, d1, d2, d3, d4⟩ := own5 H5.out.2.1
      obtain ⟨⟨r1, r2⟩, hr⟩ : ∃ r, readD k' fN = r := ⟨_, rfl⟩
      have hc6 := read_at fN H5.out.2.2.1 H5.out.2.2.2.1 hr HT.out
      have hlt := HatE.out.2.2
      rw [hr] at hlt
      have HLT := Lib.hid hlt
      unfold fN at hc6
      clear hr hlt
      go_wp2_with fail
      refine hc6.out.mono ?_
      rintro _ w6 ⟨rfl, b6⟩
      have H6 := Lib.hid (And.intro (H5.out.1.trans (b6.mono H5.out.1.size)) (own_below H5.out.2.2.2.2 b6))
      clear b6 d0 d1 d2 d3 d4 hc6
      rcases HLT.out with ⟨he, hs0⟩ | ⟨m, cc, hm1, hm2, hpc, he⟩
      · injection he with he1 he2
        subst he1 he2 hs0
        go_wp2_with fail
        go_ret
        exact ⟨rfl, H6.out.1⟩
      · injection he with he1 he2
        subst he1 he2
        have HP := Lib.hid hpc
        have HC := Lib.hid HatE.out.1.small
        clear hpc HLT
        go_wp2_with fail
        go_loopw [16, 18] (fun v i wq => ∃ n : Nat, i = .int .i64 (n : Int) ∧ n ≤ m ∧ v = .string ⟨(catR ((P.take m).drop n) ++ cc).toArray⟩ ∧ Below w6.heap.size w6 wq)
          (fun _ i _ => m + 1 - (intOf i).toNat)
        case atStart => exact ⟨0, rfl, by omega, rfl, Below.refl _ _⟩
        case round =>
          obtain ⟨n, rfl, hn, rfl, hb⟩ := hrel
          have q2 : decide ((n : Int) ≤ (P.length : Int)) = true := decide_eq_true (by omega)
          have q2' : decide (n ≤ P.length) = true := decide_eq_true (by omega)
          have hcl : (catR ((P.take m).drop n) ++ cc).length ≤ 2700000 := by
            have h1 := cat_len (P := (P.take m).drop n) (m := 65560) fun p hp => fr_len (HC.out p (List.mem_of_mem_take (List.mem_of_mem_drop hp)))
            have h2 : ((P.take m).drop n).length * 65560 ≤ 40 * 65560 := Nat.mul_le_mul_right _ (by rw [List.length_drop, List.length_take]; omega)
            have h3 : cc.length ≤ 65560 := by
              rcases HP.out with rfl | ⟨p, j, hp, rfl, hj⟩
              · simp
              · have := fr_len (HC.out p (List.mem_of_getElem? hp))
                rw [List.length_take]; omega
            rw [List.length_append]; omega
          have yT := fun W => Lib.hid (takeFrame_any ⟨(catR ((P.take m).drop n) ++ cc).toArray⟩ W (by rw [sizeL]; unfold maxLen; omega))
          have e1 : (⟨(catR ((P.take m).drop n) ++ cc).toArray⟩ : ByteArray).data.toList = catR ((P.take m).drop n) ++ cc := rfl
          rw [e1] at yT
          clear e1 hcl
          by_cases hnm : n < m
          · have hx : P[n]? = some P[n] := List.getElem?_eq_getElem (by omega)
            have hpn := HC.out _ (List.mem_of_getElem? hx)
            rw [take_next hnm hx hpn] at yT
            have hcell : ∃ g, A1 = some ⟨g, 0, none⟩ ∧ g < w6.heap.size ∧ w6.cell? ⟨g, 0 + n, none⟩ = some (.string P[n]) := by
              obtain ⟨A9, c9, e9, _, _, l9⟩ := lies_of_own (size := 1) (cells := cS) (l := P) (by decide) cS_len rfl (by rw [cS_map]; exact H6.out.2)
              injection e9 with e9 _ _
              obtain ⟨g, o9, eg, hg, hc9⟩ := l9 (by omega)
              have h0 := hc9 n _ hx 0 _ rfl
              rw [Nat.mul_one, Nat.add_zero] at h0
              rcases H6.out.2.2 with ⟨e8, h8⟩ | ⟨g8, c8, cur8, e8, _⟩
              · omega
              · injection e8 with e8 _ _
                rw [e9, eg] at e8
                injection e8 with e8
                injection e8 with e81 e82 e83
                subst e81 e82
                exact ⟨g, by rw [e9, eg], hg, h0⟩
            obtain ⟨g, hA1, hg, hc0⟩ := hcell
            rw [Nat.zero_add] at hc0
            subst hA1
            have c0 := (hb.cell (p := ⟨g, n, none⟩) hg).trans hc0
            have hps : (⟨(P[n].data.toList).toArray⟩ : ByteArray) = P[n] := (str_of _).symm
            rw [show tripleS (P[n].data.toList, catR ((P.take m).drop (n + 1)) ++ cc, 0) = .tuple #[.string P[n], .string ⟨(catR ((P.take m).drop (n + 1)) ++ cc).toArray⟩, .int .i64 0] by unfold tripleS; rw [hps]] at yT
            generalize hpg : P[n] = p at *
            have t3 : ((n : Int) == (P.length : Int)) = false := beq_eq_false_iff_ne.2 (by omega)
            have t3' : (n == P.length) = false := beq_eq_false_iff_ne.2 (by omega)
            have q3 : (n : Int) < (P.length : Int) := by omega
            have q4 : (0 : Int) ≤ (n : Int) := by omega
            have HB := Lib.hid hb
            clear hb hx hpn hc0 hps hpg hg
            go_wp2_with fail
            refine (yT _).out.mono ?_
            rintro _ w7 ⟨rfl, b7⟩
            have c0' := c0
            clear c0
            have c0 := (b7.cell (p := ⟨g, n, none⟩) (World.block_lt_of_cell? _ ⟨g, n, none⟩ c0')).trans c0'
            have H7 := Lib.hid (HB.out.trans (b7.mono HB.out.size))
            clear b7 c0'
            go_wp2_with fail
            go_roundw
            case rel => exact ⟨n + 1, by go_num, by omega, rfl, H7.out⟩
            case measure => simp [intOf]; omega
          · have hnm2 : n = m := by omega
            subst hnm2
            have hdr : (P.take n).drop n = [] := List.drop_eq_nil_of_le (by rw [List.length_take]; omega)
            rw [hdr] at yT ⊢
            rw [show catR [] ++ cc = cc from rfl, take_end HP.out HC.out] at yT
            rw [show catR [] ++ cc = cc from rfl]
            unfold tripleS at yT
            have t4 : decide ((n : Int) ≥ (sn : Int)) = true := decide_eq_true (by omega)
            have t4' : decide (sn ≤ n) = true := decide_eq_true (by omega)
            have HB := Lib.hid hb
            clear hb hdr hnm
            go_wp2_with fail
            refine (yT _).out.mono ?_
            rintro _ w7 ⟨rfl, b7⟩
            have H7 := Lib.hid (H6.out.1.trans ((HB.out.trans (b7.mono HB.out.size)).mono H6.out.1.size))
            clear b7
            go_wp2_with fail
            go_ret
            exact ⟨rfl, H7.out⟩
end Go.Proofs.Ytmddiiidofmklaa
