/- Part 12 of the texts on which SpineOwn rests: facts and contracts. -/
import Derived.Test.YtgalemkjgaiphaaGreatSpineOwnM11
namespace Go.Proofs.YtgalemkjgaiphaaGreat
open Go Go.RowKit

set_option maxRecDepth 100000 in
set_option maxHeartbeats 12800000 in
theorem put_absent1 (base g : Nat) (s : Sp) (b : Bt) (w : World) (h : PutIn base g s b w) (hno : ∀ l ∈ s.L, l.cls ≠ (clsN b.l.length : Int)) (hz : clsN b.l.length ≠ 0) (hq : posC s.L (clsN b.l.length : Int) = s.L.length) :
    Calls Tryz.prog 20 #[.pointer (some ⟨g, 0, none⟩), b.val] w (PutNew base g s b w) := by
  obtain ⟨V, hV, hvb, hvs, hvo⟩ := btbox w b
  obtain ⟨c, hc⟩ : ∃ c : Nat, clsN b.l.length = c := ⟨_, rfl⟩
  have y1 := Lib.hid (class_any b.uA b.uc b.l.length V h.bok.l.n)
  rw [hc] at y1
  obtain ⟨d0, d1⟩ := own2 hvo
  have H := Lib.hid h
  have HB := Lib.hid (And.intro hvb hvo)
  have HC := Lib.hid hc
  have hcn : c ≤ 41 := by rw [← hc]; exact cls_pow (by have := h.bok.l.n; omega)
  have hpl := posC_le s.L (c : Int)
  have hfew := h.good.few h.wk.ok.each_
  have hlow : ∀ l ∈ s.L.drop (posC s.L (c : Int)), l.cls < (c : Int) := posC_after h.good.fall fun l hl e => hno l (List.mem_of_getElem? hl) (by rw [hc]; exact e)
  have HLOW := Lib.hid (And.intro (posC_before s.L (c : Int)) hlow)
  rw [show b.val = .agg #[.slice b.sA b.f.length b.sc, .slice b.uA b.l.length b.uc] from rfl]
  rw [hc] at hz hq
  have h0 : ¬ c = 0 := hz
  have t0 : ((c : Int) == 0) = false := beq_eq_false_iff_ne.2 (by omega)
  have hn0 : b.l.length ≠ 0 := fun e => h0 (hc.symm.trans (cls_zero.2 e))
  have HZ := Lib.hid hn0
  obtain ⟨p, hp⟩ : ∃ p : Nat, posC s.L (c : Int) = p := ⟨_, rfl⟩
  have HPP := Lib.hid hp
  rw [hp] at hpl HLOW
  have y2 := fun (V2 : World) (bx : Nat) (hb : Below w.heap.size w V2) (hk : Kin V2 bx (c : Int)) => Lib.hid (indexS_any s.lA s.lc s.L bx (c : Int) V2 (h.wk.past hb).lies.head h.wk.ok.n hk)
  have y3 : ∀ w3, Below w.heap.size w w3 → ∀ W, Below w3.heap.size w3 W → Own W w3.heap.size 43 (⟨(c : Int), false, b, Mg.nil⟩ : Lv).cells → Hid (Calls Tryz.prog 52 #[.slice s.lA s.L.length s.lc, .int .i64 (p : Int), .slice (some ⟨w3.heap.size, 0, none⟩) 1 1] W fun e w' => ∃ A' c', e = .returned (.slice A' (s.L.length + 1) c') ∧
      w'.ownsRow base 43 10 (.slice A' (s.L.length + 1) c') (s.L.length + 1) ((s.L.flatMap Lv.cells).take (p * 10) ++ (⟨(c : Int), false, b, Mg.nil⟩ : Lv).cells ++ (s.L.flatMap Lv.cells).drop (p * 10)) ∧ W.grownBy w' (Value.slice s.lA s.L.length s.lc).ownBlock ∧ ((Value.slice A' (s.L.length + 1) c').ownBlock = (Value.slice s.lA s.L.length s.lc).ownBlock ∨ (Value.slice A' (s.L.length + 1) c').ownBlock = some W.heap.size)) := fun w3 hb W hbW ho => by
    have hw3 := h.wk.past hb
    refine Lib.hid (insert_anyS base s.L.length s.lc p w3.heap.size s.lA _ ⟨(c : Int), false, b, Mg.nil⟩ W (own_below hw3.row hbW) ho ?_ hpl ?_ (Nat.le_trans hw3.base_ hbW.size) (lvs_one s.L))
    · intro e
      rw [blkS_own] at e
      have := (hw3.lt _ (.inr e)).2
      omega
    · omega
  have HFIN := Lib.hid (show ∀ (w3 W2 : World) (A' : Option Addr) (c' : Nat), Below w.heap.size w w3 → W2.ownsRow base 43 10 (.slice A' (s.L.length + 1) c') (s.L.length + 1) ((s.L.flatMap Lv.cells).take (p * 10) ++ (⟨(c : Int), false, b, Mg.nil⟩ : Lv).cells ++ (s.L.flatMap Lv.cells).drop (p * 10)) → (w3.alloc (.cells #[.int .i64 (c : Int), .bool false, .slice b.sA b.f.length b.sc, .slice b.uA b.l.length b.uc, .slice none 0 0, .slice none 0 0, .int .i64 0, .int .i64 0, .slice none 0 0, .slice none 0 0] 43)).drew.grownBy W2 (Value.slice s.lA s.L.length s.lc).ownBlock → ((Value.slice A' (s.L.length + 1) c').ownBlock = (Value.slice s.lA s.L.length s.lc).ownBlock ∨ (Value.slice A' (s.L.length + 1) c').ownBlock = some (w3.alloc (.cells #[.int .i64 (c : Int), .bool false, .slice b.sA b.f.length b.sc, .slice b.uA b.l.length b.uc, .slice none 0 0, .slice none 0 0, .int .i64 0, .int .i64 0, .slice none 0 0, .slice none 0 0] 43)).drew.heap.size) →
      PutNew base g s b w (.returned (.int .i64 0)) (W2.setCell ⟨g, 1, none⟩ (.slice A' (s.L.length + 1) c')) from fun w3 W2 A' c' hb hr hg hA => by
    obtain ⟨k1, s', k2, k3⟩ := put_level (h.past hb) hpl (by rw [hc]) HLOW.out.1 HLOW.out.2 hn0 (lvbox1 w3 b (c : Int)).1 hr hg hA
    exact ⟨rfl, (KeptK.of_below hb (Nat.le_refl _) (SpS g s.lA)).trans k1 (fun _ _ e => e), s', k2.first hb, k3⟩)
  have HMID := Lib.hid (show ∀ (w3 W2 : World), Below w.heap.size w w3 → (w3.alloc (.cells #[.int .i64 (c : Int), .bool false, .slice b.sA b.f.length b.sc, .slice b.uA b.l.length b.uc, .slice none 0 0, .slice none 0 0, .int .i64 0, .int .i64 0, .slice none 0 0, .slice none 0 0] 43)).drew.grownBy W2 (Value.slice s.lA s.L.length s.lc).ownBlock → Own W2 g 60 s.cells from fun w3 W2 hb hg => by
    have hw3 := (h.wk.past hb).past (lvbox1 w3 b (c : Int)).1
    refine (hg.block g hw3.own.inside ?_).trans hw3.own
    rw [blkS_own]
    exact fun e => hw3.out e.symm)
  have HG := Lib.hid h.wk.own.inside
  have hpe : p = s.L.length := hp.symm.trans hq
  clear hz hq
  have hpi : posI s.L (c : Int) = -1 := by unfold posI; rw [hp, if_pos hpe]
  rw [hpi] at y2
  have t1 : ((s.L.length : Int) == (s.L.length : Int)) = true := by simp
  subst hpe
  clear h hvb hvs hvo hc hno hlow hn0 hp h0 hpi hpl
  go_enter Tryz.func20, Tryz.ntmps20
  go_upto_region 1 with fail
  rw [← hV]
  clear hV
  go_wp2_with fail
  refine y1.out.mono ?_
  rintro _ w1 ⟨rfl, b1⟩
  obtain ⟨V2, hV2, hs2, hb2, ho2⟩ := boxd w1 [.int .i64 (c : Int)] 3
  have b12 := belows b1 hb2
  have H2 := Lib.hid (And.intro (belows HB.out.1 b12) (And.intro (HB.out.2.past b12 HB.out.2.inside) (And.intro ho2 (show w.heap.size < w1.heap.size from Nat.lt_of_lt_of_le HB.out.2.inside b1.size))))
  have k0 : V2.cell? ⟨w1.heap.size, 0, none⟩ = some (.int .i64 (c : Int)) := ho2.at_ 0
  clear b1 hs2 hb2 ho2 y1 d0 d1 b12
  go_upto_region 2 with fail
  rw [← hV2]
  clear hV2
  have g0 : V2.cell? ⟨g, 1, none⟩ = some (.slice s.lA s.L.length s.lc) := (H.out.wk.past H2.out.1).own.at_ 1
  have hgi : g < V2.heap.size := (H.out.wk.past H2.out.1).own.inside
  have z2 := y2 V2 w1.heap.size H2.out.1 ⟨k0, H2.out.2.2.1.inside⟩
  go_wp2_with fail
  refine z2.out.mono ?_
  rintro _ w3 ⟨rfl, b3⟩
  have H3 := Lib.hid (And.intro (belows H2.out.1 b3) (And.intro (H2.out.2.1.past b3 H2.out.2.1.inside) (And.intro (H2.out.2.2.1.past b3 H2.out.2.2.1.inside) (And.intro H2.out.2.2.2 (Nat.lt_of_lt_of_le H2.out.2.2.1.inside b3.size)))))
  have k1 : w3.cell? ⟨w1.heap.size, 0, none⟩ = some (.int .i64 (c : Int)) := (b3.cell (p := ⟨w1.heap.size, 0, none⟩) H2.out.2.2.1.inside).trans k0
  have g1 : w3.cell? ⟨g, 1, none⟩ = some (.slice s.lA s.L.length s.lc) := (b3.cell (p := ⟨g, 1, none⟩) hgi).trans g0
  have hgi3 : g < w3.heap.size := Nat.lt_of_lt_of_le hgi b3.size
  obtain ⟨e0, e1⟩ := own2 H3.out.2.1
  clear b3 z2 k0 g0 hgi
  have x2 := fun q : Past w3 => (q.h.cell (p := ⟨g, 1, none⟩) hgi3).trans g1
  go_upto_region 7 with fail
  refine wp_region_past w3 (by kernel_rfl) (by kernel_rfl) (Below.refl _ _) ?_
  repeat (first | go_big_quiet_step (fail) | quiet_step (fail))
  refine wpQuiet_nil ?_
  intro wz hw'
  obtain ⟨⟨wy, hbz⟩, hw''⟩ := hw'
  dsimp only at hw''
  subst hw''
  have HZ3 := Lib.hid (And.intro (belows H3.out.1 hbz) (And.intro (H3.out.2.1.past hbz H3.out.2.1.inside) (H3.out.2.2.1.past hbz H3.out.2.2.1.inside)))
  have HW1 := Lib.hid H3.out.2.2.2.1
  have g1 := x2 ⟨wz, hbz⟩
  have k1 := (hbz.cell (p := ⟨w1.heap.size, 0, none⟩) H3.out.2.2.2.2).trans k1
  have hgi3 : g < wz.heap.size := Nat.lt_of_lt_of_le hgi3 hbz.size
  obtain ⟨e0, e1⟩ := own2 (H3.out.2.1.past hbz H3.out.2.1.inside)
  dsimp only at g1
  clear x2 hbz
  go_upto_region 8 with fail
  have a2 : (wz.alloc (.cells #[.int .i64 (c : Int), .bool false, .slice b.sA b.f.length b.sc, .slice b.uA b.l.length b.uc, .slice none 0 0, .slice none 0 0, .int .i64 0, .int .i64 0, .slice none 0 0, .slice none 0 0] 43)).cell? ⟨g, 1, none⟩ = some (.slice s.lA s.L.length s.lc) := ((lvbox1 wz b (c : Int)).1.cell (p := ⟨g, 1, none⟩) hgi3).trans g1
  go_region_with (go_at_call 52; refine (y3 wz HZ3.out.1 _ (lvbox1 wz b (c : Int)).1 (lvbox1 wz b (c : Int)).2).out.mono ?_; rintro _ w4 ⟨A', c', rfl, hr, hg, hA⟩; have o2 := HMID.out wz w4 HZ3.out.1 hg; have s0 : w4.cell? ⟨g, 1, none⟩ = some (.slice s.lA s.L.length s.lc) := o2.at_ 1; have s1 : w4.frozen? ⟨g, 1, none⟩ = false := o2.open_ 1; have HF := Lib.hid (HFIN.out wz w4 A' c' HZ3.out.1 hr hg hA); clear hr hg hA o2)
  all_goals
    go_wp2_with fail
    go_ret
    exact HF.out
end Go.Proofs.YtgalemkjgaiphaaGreat
namespace Go.Proofs.YtgalemkjgaiphaaGreat
open Go Go.RowKit

set_option maxRecDepth 100000 in
set_option maxHeartbeats 12800000 in
theorem put_absent2 (base g : Nat) (s : Sp) (b : Bt) (w : World) (h : PutIn base g s b w) (hno : ∀ l ∈ s.L, l.cls ≠ (clsN b.l.length : Int)) (hz : clsN b.l.length ≠ 0) (hq : posC s.L (clsN b.l.length : Int) ≠ s.L.length) :
    Calls Tryz.prog 20 #[.pointer (some ⟨g, 0, none⟩), b.val] w (PutNew base g s b w) := by
  obtain ⟨V, hV, hvb, hvs, hvo⟩ := btbox w b
  obtain ⟨c, hc⟩ : ∃ c : Nat, clsN b.l.length = c := ⟨_, rfl⟩
  have y1 := Lib.hid (class_any b.uA b.uc b.l.length V h.bok.l.n)
  rw [hc] at y1
  obtain ⟨d0, d1⟩ := own2 hvo
  have H := Lib.hid h
  have HB := Lib.hid (And.intro hvb hvo)
  have HC := Lib.hid hc
  have hcn : c ≤ 41 := by rw [← hc]; exact cls_pow (by have := h.bok.l.n; omega)
  have hpl := posC_le s.L (c : Int)
  have hfew := h.good.few h.wk.ok.each_
  have hlow : ∀ l ∈ s.L.drop (posC s.L (c : Int)), l.cls < (c : Int) := posC_after h.good.fall fun l hl e => hno l (List.mem_of_getElem? hl) (by rw [hc]; exact e)
  have HLOW := Lib.hid (And.intro (posC_before s.L (c : Int)) hlow)
  rw [show b.val = .agg #[.slice b.sA b.f.length b.sc, .slice b.uA b.l.length b.uc] from rfl]
  rw [hc] at hz hq
  have h0 : ¬ c = 0 := hz
  have t0 : ((c : Int) == 0) = false := beq_eq_false_iff_ne.2 (by omega)
  have hn0 : b.l.length ≠ 0 := fun e => h0 (hc.symm.trans (cls_zero.2 e))
  have HZ := Lib.hid hn0
  obtain ⟨p, hp⟩ : ∃ p : Nat, posC s.L (c : Int) = p := ⟨_, rfl⟩
  have HPP := Lib.hid hp
  rw [hp] at hpl HLOW
  have y2 := fun (V2 : World) (bx : Nat) (hb : Below w.heap.size w V2) (hk : Kin V2 bx (c : Int)) => Lib.hid (indexS_any s.lA s.lc s.L bx (c : Int) V2 (h.wk.past hb).lies.head h.wk.ok.n hk)
  have y3 : ∀ w3, Below w.heap.size w w3 → ∀ W, Below w3.heap.size w3 W → Own W w3.heap.size 43 (⟨(c : Int), false, b, Mg.nil⟩ : Lv).cells → Hid (Calls Tryz.prog 52 #[.slice s.lA s.L.length s.lc, .int .i64 (p : Int), .slice (some ⟨w3.heap.size, 0, none⟩) 1 1] W fun e w' => ∃ A' c', e = .returned (.slice A' (s.L.length + 1) c') ∧
      w'.ownsRow base 43 10 (.slice A' (s.L.length + 1) c') (s.L.length + 1) ((s.L.flatMap Lv.cells).take (p * 10) ++ (⟨(c : Int), false, b, Mg.nil⟩ : Lv).cells ++ (s.L.flatMap Lv.cells).drop (p * 10)) ∧ W.grownBy w' (Value.slice s.lA s.L.length s.lc).ownBlock ∧ ((Value.slice A' (s.L.length + 1) c').ownBlock = (Value.slice s.lA s.L.length s.lc).ownBlock ∨ (Value.slice A' (s.L.length + 1) c').ownBlock = some W.heap.size)) := fun w3 hb W hbW ho => by
    have hw3 := h.wk.past hb
    refine Lib.hid (insert_anyS base s.L.length s.lc p w3.heap.size s.lA _ ⟨(c : Int), false, b, Mg.nil⟩ W (own_below hw3.row hbW) ho ?_ hpl ?_ (Nat.le_trans hw3.base_ hbW.size) (lvs_one s.L))
    · intro e
      rw [blkS_own] at e
      have := (hw3.lt _ (.inr e)).2
      omega
    · omega
  have HFIN := Lib.hid (show ∀ (w3 W2 : World) (A' : Option Addr) (c' : Nat), Below w.heap.size w w3 → W2.ownsRow base 43 10 (.slice A' (s.L.length + 1) c') (s.L.length + 1) ((s.L.flatMap Lv.cells).take (p * 10) ++ (⟨(c : Int), false, b, Mg.nil⟩ : Lv).cells ++ (s.L.flatMap Lv.cells).drop (p * 10)) → (w3.alloc (.cells #[.int .i64 (c : Int), .bool false, .slice b.sA b.f.length b.sc, .slice b.uA b.l.length b.uc, .slice none 0 0, .slice none 0 0, .int .i64 0, .int .i64 0, .slice none 0 0, .slice none 0 0] 43)).drew.grownBy W2 (Value.slice s.lA s.L.length s.lc).ownBlock → ((Value.slice A' (s.L.length + 1) c').ownBlock = (Value.slice s.lA s.L.length s.lc).ownBlock ∨ (Value.slice A' (s.L.length + 1) c').ownBlock = some (w3.alloc (.cells #[.int .i64 (c : Int), .bool false, .slice b.sA b.f.length b.sc, .slice b.uA b.l.length b.uc, .slice none 0 0, .slice none 0 0, .int .i64 0, .int .i64 0, .slice none 0 0, .slice none 0 0] 43)).drew.heap.size) →
      PutNew base g s b w (.returned (.int .i64 0)) (W2.setCell ⟨g, 1, none⟩ (.slice A' (s.L.length + 1) c')) from fun w3 W2 A' c' hb hr hg hA => by
    obtain ⟨k1, s', k2, k3⟩ := put_level (h.past hb) hpl (by rw [hc]) HLOW.out.1 HLOW.out.2 hn0 (lvbox1 w3 b (c : Int)).1 hr hg hA
    exact ⟨rfl, (KeptK.of_below hb (Nat.le_refl _) (SpS g s.lA)).trans k1 (fun _ _ e => e), s', k2.first hb, k3⟩)
  have HMID := Lib.hid (show ∀ (w3 W2 : World), Below w.heap.size w w3 → (w3.alloc (.cells #[.int .i64 (c : Int), .bool false, .slice b.sA b.f.length b.sc, .slice b.uA b.l.length b.uc, .slice none 0 0, .slice none 0 0, .int .i64 0, .int .i64 0, .slice none 0 0, .slice none 0 0] 43)).drew.grownBy W2 (Value.slice s.lA s.L.length s.lc).ownBlock → Own W2 g 60 s.cells from fun w3 W2 hb hg => by
    have hw3 := (h.wk.past hb).past (lvbox1 w3 b (c : Int)).1
    refine (hg.block g hw3.own.inside ?_).trans hw3.own
    rw [blkS_own]
    exact fun e => hw3.out e.symm)
  have HG := Lib.hid h.wk.own.inside
  have hpe : ¬ p = s.L.length := fun e => hq (hp.trans e)
  clear hz hq
  have hpi : posI s.L (c : Int) = (p : Int) := by unfold posI; rw [hp, if_neg hpe]
  rw [hpi] at y2
  have hplt : p < s.L.length := by omega
  obtain ⟨l, hl⟩ : ∃ l, s.L[p]? = some l := ⟨_, List.getElem?_eq_getElem hplt⟩
  have hcl : l.cls < (c : Int) := HLOW.out.2 l (by
    rw [List.drop_eq_getElem_cons hplt]
    have := (List.getElem?_eq_some_iff.1 hl).2
    rw [this]
    exact List.mem_cons_self)
  have t1 : ((p : Int) == (s.L.length : Int)) = false := beq_eq_false_iff_ne.2 (by omega)
  have t2 : decide (l.cls < (c : Int)) = true := decide_eq_true hcl
  have q0 : ¬ ((p : Int) < 0) := by omega
  have q1 : (0 : Int) ≤ (p : Int) := by omega
  have q2 : (p : Int) < (s.L.length : Int) := by omega
  have HLV := Lib.hid (show ∀ W, Below w.heap.size w W → ∃ G : Nat, s.lA = some ⟨G, 0, none⟩ ∧ W.cell? ⟨G, p * 10, none⟩ = some (.int .i64 l.cls) from fun W hb => by
    have hW := h.wk.past hb
    rcases row_ownK hW.row with ⟨_, h9, _⟩ | ⟨G, cur, hA, _⟩
    · omega
    · obtain ⟨b', o', e, _, hcell⟩ := hW.lies.head (by omega)
      rw [hA] at e
      simp only [Option.some.injEq, Addr.mk.injEq, and_true] at e
      obtain ⟨rfl, rfl⟩ := e
      have := hcell p l hl 0 _ rfl
      rw [Nat.zero_add, Nat.add_zero] at this
      exact ⟨G, hA, this⟩)
  clear h hvb hvs hvo hc hno hlow hn0 hp h0 hpi hpl hl hcl hplt
  go_enter Tryz.func20, Tryz.ntmps20
  go_upto_region 1 with fail
  rw [← hV]
  clear hV
  go_wp2_with fail
  refine y1.out.mono ?_
  rintro _ w1 ⟨rfl, b1⟩
  obtain ⟨V2, hV2, hs2, hb2, ho2⟩ := boxd w1 [.int .i64 (c : Int)] 3
  have b12 := belows b1 hb2
  have H2 := Lib.hid (And.intro (belows HB.out.1 b12) (And.intro (HB.out.2.past b12 HB.out.2.inside) (And.intro ho2 (show w.heap.size < w1.heap.size from Nat.lt_of_lt_of_le HB.out.2.inside b1.size))))
  have k0 : V2.cell? ⟨w1.heap.size, 0, none⟩ = some (.int .i64 (c : Int)) := ho2.at_ 0
  clear b1 hs2 hb2 ho2 y1 d0 d1 b12
  go_upto_region 2 with fail
  rw [← hV2]
  clear hV2
  have g0 : V2.cell? ⟨g, 1, none⟩ = some (.slice s.lA s.L.length s.lc) := (H.out.wk.past H2.out.1).own.at_ 1
  have hgi : g < V2.heap.size := (H.out.wk.past H2.out.1).own.inside
  have z2 := y2 V2 w1.heap.size H2.out.1 ⟨k0, H2.out.2.2.1.inside⟩
  go_wp2_with fail
  refine z2.out.mono ?_
  rintro _ w3 ⟨rfl, b3⟩
  have H3 := Lib.hid (And.intro (belows H2.out.1 b3) (And.intro (H2.out.2.1.past b3 H2.out.2.1.inside) (And.intro (H2.out.2.2.1.past b3 H2.out.2.2.1.inside) (And.intro H2.out.2.2.2 (Nat.lt_of_lt_of_le H2.out.2.2.1.inside b3.size)))))
  have k1 : w3.cell? ⟨w1.heap.size, 0, none⟩ = some (.int .i64 (c : Int)) := (b3.cell (p := ⟨w1.heap.size, 0, none⟩) H2.out.2.2.1.inside).trans k0
  have g1 : w3.cell? ⟨g, 1, none⟩ = some (.slice s.lA s.L.length s.lc) := (b3.cell (p := ⟨g, 1, none⟩) hgi).trans g0
  have hgi3 : g < w3.heap.size := Nat.lt_of_lt_of_le hgi b3.size
  obtain ⟨e0, e1⟩ := own2 H3.out.2.1
  clear b3 z2 k0 g0 hgi
  obtain ⟨G, hGA, r0⟩ := HLV.out w3 H3.out.1
  have hGi : G < w3.heap.size := by
    have := (H.out.wk.past H3.out.1).lt G (.inr (by rw [hGA]; rfl))
    exact this.2
  have x1 := fun q : Past w3 => (q.h.cell (p := ⟨w1.heap.size, 0, none⟩) H3.out.2.2.2.2).trans k1
  have x3 := fun q : Past w3 => (q.h.cell (p := ⟨G, p * 10, none⟩) hGi).trans r0
  rw [hGA] at g1 ⊢
  have x2 := fun q : Past w3 => (q.h.cell (p := ⟨g, 1, none⟩) hgi3).trans g1
  go_upto_region 7 with fail
  refine wp_region_past w3 (by kernel_rfl) (by kernel_rfl) (Below.refl _ _) ?_
  repeat (first | go_big_quiet_step (fail) | quiet_step (fail))
  refine wpQuiet_nil ?_
  intro wz hw'
  obtain ⟨⟨wy, hbz⟩, hw''⟩ := hw'
  dsimp only at hw''
  subst hw''
  have HZ3 := Lib.hid (And.intro (belows H3.out.1 hbz) (And.intro (H3.out.2.1.past hbz H3.out.2.1.inside) (H3.out.2.2.1.past hbz H3.out.2.2.1.inside)))
  have HW1 := Lib.hid H3.out.2.2.2.1
  have g1 := x2 ⟨wz, hbz⟩
  have k1 := (hbz.cell (p := ⟨w1.heap.size, 0, none⟩) H3.out.2.2.2.2).trans k1
  have hgi3 : g < wz.heap.size := Nat.lt_of_lt_of_le hgi3 hbz.size
  obtain ⟨e0, e1⟩ := own2 (H3.out.2.1.past hbz H3.out.2.1.inside)
  dsimp only at g1
  clear x2 hbz
  go_upto_region 8 with fail
  rw [← hGA] at g1 ⊢
  clear hGA r0 x1 x3 hGi
  have a2 : (wz.alloc (.cells #[.int .i64 (c : Int), .bool false, .slice b.sA b.f.length b.sc, .slice b.uA b.l.length b.uc, .slice none 0 0, .slice none 0 0, .int .i64 0, .int .i64 0, .slice none 0 0, .slice none 0 0] 43)).cell? ⟨g, 1, none⟩ = some (.slice s.lA s.L.length s.lc) := ((lvbox1 wz b (c : Int)).1.cell (p := ⟨g, 1, none⟩) hgi3).trans g1
  go_region_with (go_at_call 52; refine (y3 wz HZ3.out.1 _ (lvbox1 wz b (c : Int)).1 (lvbox1 wz b (c : Int)).2).out.mono ?_; rintro _ w4 ⟨A', c', rfl, hr, hg, hA⟩; have o2 := HMID.out wz w4 HZ3.out.1 hg; have s0 : w4.cell? ⟨g, 1, none⟩ = some (.slice s.lA s.L.length s.lc) := o2.at_ 1; have s1 : w4.frozen? ⟨g, 1, none⟩ = false := o2.open_ 1; have HF := Lib.hid (HFIN.out wz w4 A' c' HZ3.out.1 hr hg hA); clear hr hg hA o2)
  all_goals
    go_wp2_with fail
    go_ret
    exact HF.out
end Go.Proofs.YtgalemkjgaiphaaGreat
namespace Go.Proofs.YtgalemkjgaiphaaGreat
open Go Go.RowKit

set_option maxRecDepth 100000 in
set_option maxHeartbeats 12800000 in
theorem put_absent (base g : Nat) (s : Sp) (b : Bt) (w : World) (h : PutIn base g s b w) (hno : ∀ l ∈ s.L, l.cls ≠ (clsN b.l.length : Int)) :
    Calls Tryz.prog 20 #[.pointer (some ⟨g, 0, none⟩), b.val] w (PutNew base g s b w) := by
  obtain ⟨V, hV, hvb, hvs, hvo⟩ := btbox w b
  obtain ⟨c, hc⟩ : ∃ c : Nat, clsN b.l.length = c := ⟨_, rfl⟩
  have y1 := Lib.hid (class_any b.uA b.uc b.l.length V h.bok.l.n)
  rw [hc] at y1
  obtain ⟨d0, d1⟩ := own2 hvo
  have H := Lib.hid h
  have HB := Lib.hid (And.intro hvb hvo)
  have HC := Lib.hid hc
  have hcn : c ≤ 41 := by rw [← hc]; exact cls_pow (by have := h.bok.l.n; omega)
  have hpl := posC_le s.L (c : Int)
  have hfew := h.good.few h.wk.ok.each_
  have hlow : ∀ l ∈ s.L.drop (posC s.L (c : Int)), l.cls < (c : Int) := posC_after h.good.fall fun l hl e => hno l (List.mem_of_getElem? hl) (by rw [hc]; exact e)
  have HLOW := Lib.hid (And.intro (posC_before s.L (c : Int)) hlow)
  by_cases h0 : c = 0
  · rw [show b.val = .agg #[.slice b.sA b.f.length b.sc, .slice b.uA b.l.length b.uc] from rfl]
    have hn0 : b.l.length = 0 := cls_zero.1 (hc.trans h0)
    have HZ := Lib.hid hn0
    have t0 : ((c : Int) == 0) = true := by rw [h0]; rfl
    clear h hvb hvs hvo hc hno hpl hlow hfew hn0 h0
    go_enter Tryz.func20, Tryz.ntmps20
    go_upto_region 1 with fail
    rw [← hV]
    clear hV
    go_wp2_with fail
    refine y1.out.mono ?_
    rintro _ w1 ⟨rfl, b1⟩
    obtain ⟨V2, hV2, hs2, hb2, ho2⟩ := boxd w1 [.int .i64 (c : Int)] 3
    have b12 := belows b1 hb2
    have H2 := Lib.hid (And.intro (belows HB.out.1 b12) (And.intro (HB.out.2.past b12 HB.out.2.inside) (And.intro ho2 (show w.heap.size < w1.heap.size from Nat.lt_of_lt_of_le HB.out.2.inside b1.size))))
    have k0 : V2.cell? ⟨w1.heap.size, 0, none⟩ = some (.int .i64 (c : Int)) := ho2.at_ 0
    clear b1 hs2 hb2 ho2 y1 d0 d1 b12
    go_upto_region 2 with fail
    rw [← hV2]
    clear hV2
    go_wp2_with fail
    go_ret
    have hn : b.l = [] := List.eq_nil_of_length_eq_zero HZ.out
    exact ⟨rfl, KeptK.of_below H2.out.1 (Nat.le_refl _) _, s, ⟨H.out.wk.past H2.out.1, rfl, rfl, rfl, .inl rfl, by rw [hn]; exact PutTo.refl H.out.good 1 0, by rw [hn]; exact HasTo.refl _ _⟩, rfl⟩
  have hz : clsN b.l.length ≠ 0 := fun e => h0 (hc.symm.trans e)
  by_cases hq : posC s.L (clsN b.l.length : Int) = s.L.length
  · exact put_absent1 base g s b w h hno hz hq
  · exact put_absent2 base g s b w h hno hz hq
end Go.Proofs.YtgalemkjgaiphaaGreat
namespace Go.Proofs.YtgalemkjgaiphaaGreat
open Go Go.RowKit

theorem full_end {m m' : Mg} {c E : Int} (h : WorkOk m m' 9223372036854775807 c E) (hm : MOk m) (ok : ∀ u ∈ m.o, UOk u) (na : m.a.length ≤ 274877906944) (nb : m.b.length ≤ 274877906944) :
    E = 0 ∧ leftM m' = 0 ∧ EndOk m' ∨ E = 10 ∧ consE [advL m.f (partsM m)] = 10 := by
  obtain ⟨k, hk, mok, hsum, hE, _, _⟩ := work_gen h hm ok
  rcases hE with ⟨e, h1, _⟩ | e
  · refine .inl ⟨e, ?_⟩
    have hl : leftM m ≤ 549755813888 := by unfold leftM; omega
    have h0 : leftM m' = 0 := by
      rcases h1 with h1 | h1
      · exact h1
      · omega
    refine ⟨h0, mok, ?_, ?_⟩
    · have h2 := mok.da.lo
      have h3 := mok.da.hi
      unfold leftM at h0
      omega
    · have h2 := mok.db.lo
      have h3 := mok.db.hi
      unfold leftM at h0
      omega
  · exact .inr e
theorem put_both {base g p : Nat} {s s2 s3 : Sp} {b e : Bt} {w w5 w6 w7 : World} (hgood : SpGood s.f s.L) (ht : TookOut s.f s.L p e) (o2 : PutOut base g ⟨s.sA, s.sc, s.f, s.lA, s.lc, s.L.eraseIdx p⟩ b.l 1 b.l.length w5 w6 s2) (hw : w.heap.size ≤ w5.heap.size) (hw6 : w.heap.size ≤ w6.heap.size) (o3 : PutOut base g s2 e.l 1 e.l.length w6 w7 s3) (hbn : busyN s2.L = busyN (s.L.eraseIdx p)) : PutOut base g s b.l 1 b.l.length w w7 s3 := by
  refine ⟨o3.wk, o3.h1.trans o2.h1, o3.h2.trans o2.h2, o3.h3.trans o2.h3, ?_, ?_, ⟨fun hb hq => o3.has.old (by have := ht.busy; omega) _ (o2.has.new (by have := ht.busy; show busyN (s.L.eraseIdx p) ≤ 1; omega) hq), fun h0 => by have := ht.busy; omega, fun h => by
    have h3 := o3.has.fr
    rw [show s2.f = s.f from o2.h3] at h3
    exact h3 (o2.has.fr fun l hl hb => h l (List.mem_of_mem_eraseIdx hl) hb)⟩⟩
  · rcases o3.lA with h | ⟨q, h, hq⟩
    · rcases o2.lA with h' | ⟨q, h', hq⟩
      · exact .inl (h.trans h')
      · exact .inr ⟨q, h.trans h', by omega⟩
    · exact .inr ⟨q, h, by omega⟩
  · have e2 := o2.put
    have e3 := o3.put
    have hf : s2.f = s.f := o2.h3
    rw [hf] at e3
    have q1 : EqS s.f (partsS s3.L) (partsS s2.L ++ e.l) := e3.eq
    have q2 : EqS s.f (partsS s2.L) (partsS (s.L.eraseIdx p) ++ b.l) := e2.eq
    have q3 : EqS s.f (partsS (s.L.eraseIdx p) ++ e.l) (partsS s.L) := ht.eq
    have hb : chkUs b.l = 0 := (chkUs_parts q2.r).2
    have he : chkUs e.l = 0 := (chkUs_parts q1.r).2
    have q4 : EqS s.f (partsS s2.L ++ e.l) ((partsS (s.L.eraseIdx p) ++ b.l) ++ e.l) := q2.app (EqS.refl he)
    have q5 : EqS s.f ((partsS (s.L.eraseIdx p) ++ b.l) ++ e.l) ((partsS (s.L.eraseIdx p) ++ e.l) ++ b.l) := EqS.perm q4.r (by
      rw [List.append_assoc, List.append_assoc]
      exact List.Perm.append_left _ List.perm_append_comm)
    have q6 : EqS s.f ((partsS (s.L.eraseIdx p) ++ e.l) ++ b.l) (partsS s.L ++ b.l) := q3.app (EqS.refl hb)
    refine ⟨e3.good, ((q1.trans q4).trans q5).trans q6, ?_, ?_⟩
    · have c1 : cntS s3.L ≤ cntS s2.L + 1 := e3.cnt
      have c2 : cntS s2.L ≤ cntS (s.L.eraseIdx p) + 1 := e2.cnt
      have c3 := ht.cnt
      omega
    · have c1 : wtS s3.L ≤ wtS s2.L + e.l.length := e3.wt
      have c2 : wtS s2.L ≤ wtS (s.L.eraseIdx p) + b.l.length := e2.wt
      have c3 := ht.wt
      omega
theorem first_in {base g p : Nat} {s : Sp} {b e : Bt} {w w4 : World} (h : PutIn base g s b w) (ht : TookOut s.f s.L p e) (hk : KeptK w w4 (SpS g s.lA)) (hwk : Wk w4 base g ⟨s.sA, s.sc, s.f, s.lA, s.lc, s.L.eraseIdx p⟩) : PutIn base g ⟨s.sA, s.sc, s.f, s.lA, s.lc, s.L.eraseIdx p⟩ b w4 :=
  ⟨hwk, ht.good, bt_kept h.bin h.boff hk, h.bok, h.boff, h.blo, h.right, h.later, by have h1 := ht.wt; have h2 := h.wt; show wtS (s.L.eraseIdx p) + b.l.length ≤ _; omega⟩
theorem second_in {base g p : Nat} {s s2 : Sp} {b e : Bt} {w w5 w6 : World} (h : PutIn base g s b w) (ht : TookOut s.f s.L p e) (o2 : PutOut base g ⟨s.sA, s.sc, s.f, s.lA, s.lc, s.L.eraseIdx p⟩ b.l 1 b.l.length w5 w6 s2) (hk : KeptK w5 w6 (SpS g s.lA)) (he : BtIn w5 w5.heap.size e) (eo : BtOk e) (ef : OfB (SpS g s.lA) e) (elo : BtLo base e) : PutIn base g s2 e w6 := by
  have hf : s2.f = s.f := o2.h3
  refine ⟨o2.wk, ?_, bt_kept he ef hk, eo, ?_, elo, ht.ok, ?_, ?_⟩
  · have := o2.put.good
    rw [hf]; exact this
  · refine (ef.or (bt_in he)).less fun k hk => ?_
    rcases hk with hk | hk
    · exact .inl (.inl hk)
    · rcases o2.lA with h' | ⟨q, h', hq⟩
      · exact .inl (.inr (by rw [← h']; exact hk))
      · rw [h'] at hk
        injection hk with hk
        exact .inr (by omega)
  · rw [hf]; exact ht.later
  · have c2 : wtS s2.L ≤ wtS (s.L.eraseIdx p) + b.l.length := o2.put.wt
    have c3 := ht.wt
    have c4 := h.wt
    omega
theorem spS_trans {g : Nat} {A A' : Option Addr} {w : World} (h : blkS A' = blkS A ∨ ∃ q, blkS A' = some q ∧ w.heap.size ≤ q) : ∀ b, b < w.heap.size → SpS g A' b → SpS g A b := fun b hb hs => by
  rcases hs with hs | hs
  · exact .inl hs
  · rcases h with h | ⟨q, h, hq⟩
    · exact .inr (by rw [← h]; exact hs)
    · rw [h] at hs
      injection hs with hs
      omega
theorem busy_pos {L : List Lv} {l : Lv} (h : l ∈ L) (hb : l.busy = true) : 0 < busyN L := by
  unfold busyN
  exact List.length_pos_of_mem (List.mem_filter.2 ⟨h, hb⟩)
theorem put_there {base g : Nat} {s : Sp} {b : Bt} {w : World} (h : PutIn base g s b w) (hno : ¬ ∀ l ∈ s.L, l.cls ≠ (clsN b.l.length : Int)) : ∃ l, s.L[posC s.L (clsN b.l.length : Int)]? = some l ∧ l.cls = (clsN b.l.length : Int) := by
  obtain ⟨l, hl⟩ : ∃ l, l ∈ s.L ∧ l.cls = (clsN b.l.length : Int) := by
    by_cases hx : ∃ l, l ∈ s.L ∧ l.cls = (clsN b.l.length : Int)
    · exact hx
    · exact absurd (fun l hl e => hx ⟨l, hl, e⟩) hno
  obtain ⟨i, hi⟩ := List.getElem?_of_mem hl.1
  have e : posC s.L (clsN b.l.length : Int) = i := by
    refine posC_is (fun x hx => ?_) hi (by omega)
    have h1 := h.good.fall
    have h2 := split_at' hi
    rw [h2] at h1
    have h3 := (List.pairwise_append.1 h1).2.2 x hx l List.mem_cons_self
    omega
  exact ⟨l, by rw [e]; exact hi, hl.2⟩
end Go.Proofs.YtgalemkjgaiphaaGreat
namespace Go.Proofs.YtgalemkjgaiphaaGreat
open Go Go.RowKit

theorem put_bothO {base g p : Nat} {s s2 s3 : Sp} {b e : Bt} {w w5 w6 w7 : World} (hgood : SpGood s.f s.L) (ht : TookOut s.f s.L p e) (o2 : PutOutO base g ⟨s.sA, s.sc, s.f, s.lA, s.lc, s.L.eraseIdx p⟩ b.l 1 b.l.length w5 w6 s2) (hw : w.heap.size ≤ w5.heap.size) (hw6 : w.heap.size ≤ w6.heap.size) (o3 : PutOutO base g s2 e.l 1 e.l.length w6 w7 s3) (hbn : busyN s2.L = busyN (s.L.eraseIdx p)) : PutOutO base g s b.l 1 b.l.length w w7 s3 := by
  refine ⟨o3.wk, o3.h1.trans o2.h1, o3.h2.trans o2.h2, o3.h3.trans o2.h3, ?_, ?_, ⟨fun hb hq => o3.has.old (by have := ht.busy; omega) _ (o2.has.new (by have := ht.busy; show busyN (s.L.eraseIdx p) ≤ 1; omega) hq), fun h0 => by have := ht.busy; omega, fun h => by
    have h3 := o3.has.fr
    rw [show s2.f = s.f from o2.h3] at h3
    exact h3 (o2.has.fr fun l hl hb => h l (List.mem_of_mem_eraseIdx hl) hb)⟩⟩
  · rcases o3.lA with h | ⟨q, h, hq⟩
    · rcases o2.lA with h' | ⟨q, h', hq⟩
      · exact .inl (h.trans h')
      · exact .inr ⟨q, h.trans h', by omega⟩
    · exact .inr ⟨q, h, by omega⟩
  · have e2 := o2.put
    have e3 := o3.put
    have hf : s2.f = s.f := o2.h3
    rw [hf] at e3
    have q1 : EqS s.f (partsS s3.L) (partsS s2.L ++ e.l) := e3.eq
    have q2 : EqS s.f (partsS s2.L) (partsS (s.L.eraseIdx p) ++ b.l) := e2.eq
    have q3 : EqS s.f (partsS (s.L.eraseIdx p) ++ e.l) (partsS s.L) := ht.eq
    have hb : chkUs b.l = 0 := (chkUs_parts q2.r).2
    have he : chkUs e.l = 0 := (chkUs_parts q1.r).2
    have q4 : EqS s.f (partsS s2.L ++ e.l) ((partsS (s.L.eraseIdx p) ++ b.l) ++ e.l) := q2.app (EqS.refl he)
    have q5 : EqS s.f ((partsS (s.L.eraseIdx p) ++ b.l) ++ e.l) ((partsS (s.L.eraseIdx p) ++ e.l) ++ b.l) := EqS.perm q4.r (by
      rw [List.append_assoc, List.append_assoc]
      exact List.Perm.append_left _ List.perm_append_comm)
    have q6 : EqS s.f ((partsS (s.L.eraseIdx p) ++ e.l) ++ b.l) (partsS s.L ++ b.l) := q3.app (EqS.refl hb)
    refine ⟨e3.good, ((q1.trans q4).trans q5).trans q6, ?_, ?_⟩
    · have c1 : cntS s3.L ≤ cntS s2.L + 1 := e3.cnt
      have c2 : cntS s2.L ≤ cntS (s.L.eraseIdx p) + 1 := e2.cnt
      have c3 := ht.cnt
      omega
    · have c1 : wtS s3.L ≤ wtS s2.L + e.l.length := e3.wt
      have c2 : wtS s2.L ≤ wtS (s.L.eraseIdx p) + b.l.length := e2.wt
      have c3 := ht.wt
      omega
theorem first_inO {base g p : Nat} {s : Sp} {b e : Bt} {w w4 : World} (h : PutInO base g s b w) (ht : TookOut s.f s.L p e) (hk : KeptK w w4 (SpS g s.lA)) (hwk : WkO w4 base g ⟨s.sA, s.sc, s.f, s.lA, s.lc, s.L.eraseIdx p⟩) : PutInO base g ⟨s.sA, s.sc, s.f, s.lA, s.lc, s.L.eraseIdx p⟩ b w4 :=
  ⟨hwk, ht.good, bt_kept h.bin h.boff hk, h.bok, h.boff, h.blo, h.right, h.later, by have h1 := ht.wt; have h2 := h.wt; show wtS (s.L.eraseIdx p) + b.l.length ≤ _; omega, h.bopn.kept h.boff.l.1 hk⟩
theorem second_inO {base g p : Nat} {s s2 : Sp} {b e : Bt} {w w5 w6 : World} (h : PutInO base g s b w) (ht : TookOut s.f s.L p e) (o2 : PutOutO base g ⟨s.sA, s.sc, s.f, s.lA, s.lc, s.L.eraseIdx p⟩ b.l 1 b.l.length w5 w6 s2) (hk : KeptK w5 w6 (SpS g s.lA)) (he : BtIn w5 w5.heap.size e) (eo : BtOk e) (ef : OfB (SpS g s.lA) e) (elo : BtLo base e) (eop : OpnC w5 base e.uA e.l.length) : PutInO base g s2 e w6 := by
  have hf : s2.f = s.f := o2.h3
  refine ⟨o2.wk, ?_, bt_kept he ef hk, eo, ?_, elo, ht.ok, ?_, ?_, eop.kept ef.l.1 hk⟩
  · have := o2.put.good
    rw [hf]; exact this
  · refine (ef.or (bt_in he)).less fun k hk => ?_
    rcases hk with hk | hk
    · exact .inl (.inl hk)
    · rcases o2.lA with h' | ⟨q, h', hq⟩
      · exact .inl (.inr (by rw [← h']; exact hk))
      · rw [h'] at hk
        injection hk with hk
        exact .inr (by omega)
  · rw [hf]; exact ht.later
  · have c2 : wtS s2.L ≤ wtS (s.L.eraseIdx p) + b.l.length := o2.put.wt
    have c3 := ht.wt
    have c4 := h.wt
    omega
theorem put_thereO {base g : Nat} {s : Sp} {b : Bt} {w : World} (h : PutInO base g s b w) (hno : ¬ ∀ l ∈ s.L, l.cls ≠ (clsN b.l.length : Int)) : ∃ l, s.L[posC s.L (clsN b.l.length : Int)]? = some l ∧ l.cls = (clsN b.l.length : Int) := by
  obtain ⟨l, hl⟩ : ∃ l, l ∈ s.L ∧ l.cls = (clsN b.l.length : Int) := by
    by_cases hx : ∃ l, l ∈ s.L ∧ l.cls = (clsN b.l.length : Int)
    · exact hx
    · exact absurd (fun l hl e => hx ⟨l, hl, e⟩) hno
  obtain ⟨i, hi⟩ := List.getElem?_of_mem hl.1
  have e : posC s.L (clsN b.l.length : Int) = i := by
    refine posC_is (fun x hx => ?_) hi (by omega)
    have h1 := h.good.fall
    have h2 := split_at' hi
    rw [h2] at h1
    have h3 := (List.pairwise_append.1 h1).2.2 x hx l List.mem_cons_self
    omega
  exact ⟨l, by rw [e]; exact hi, hl.2⟩
end Go.Proofs.YtgalemkjgaiphaaGreat
namespace Go.Proofs.YtgalemkjgaiphaaGreat
open Go Go.RowKit

set_option maxRecDepth 100000 in
set_option maxHeartbeats 12800000 in
theorem put_busyO (n base g : Nat) (s : Sp) (b : Bt) (l : Lv) (w : World) (h : PutInO base g s b w) (hl : s.L[posC s.L (clsN b.l.length : Int)]? = some l) (hcl : l.cls = (clsN b.l.length : Int)) (hbusy : l.busy = true) (hn : busyN s.L ≤ n + 1)
    (IH : ∀ (s : Sp) (b : Bt) (w : World), PutInO base g s b w → busyN s.L ≤ n → Calls Tryz.prog 20 #[.pointer (some ⟨g, 0, none⟩), b.val] w (PutSaysO base g s b w)) :
    Calls Tryz.prog 20 #[.pointer (some ⟨g, 0, none⟩), b.val] w (PutSaysO base g s b w) := by
  have HIH := Lib.hid IH
  have HBN := Lib.hid hn
  have HBU := Lib.hid hbusy
  obtain ⟨V, hV, hvb, hvs, hvo⟩ := btbox w b
  obtain ⟨c, hc⟩ : ∃ c : Nat, clsN b.l.length = c := ⟨_, rfl⟩
  have y1 := Lib.hid (class_any b.uA b.uc b.l.length V h.bok.l.n)
  rw [hc] at y1
  obtain ⟨d0, d1⟩ := own2 hvo
  have H := Lib.hid h
  have HB := Lib.hid (And.intro hvb hvo)
  have HC := Lib.hid hc
  have hcn : c ≤ 41 := by rw [← hc]; exact cls_pow (by have := h.bok.l.n; omega)
  have hpl := posC_le s.L (c : Int)
  have hfew := h.good.few h.wk.ok.each_
  obtain ⟨p, hp⟩ : ∃ p : Nat, posC s.L (c : Int) = p := ⟨_, rfl⟩
  rw [hc] at hl hcl
  rw [hp] at hl hpl
  have hplt : p < s.L.length := (List.getElem?_eq_some_iff.1 hl).1
  have hn0 : c ≠ 0 := by have := h.good.pos l (List.mem_of_getElem? hl); omega
  have t0 : ((c : Int) == 0) = false := beq_eq_false_iff_ne.2 (by omega)
  have hpi : posI s.L (c : Int) = (p : Int) := by unfold posI; rw [hp, if_neg (by omega)]
  have y2 := fun (V2 : World) (bx : Nat) (hb : Below w.heap.size w V2) (hk : Kin V2 bx (c : Int)) => Lib.hid (indexS_any s.lA s.lc s.L bx (c : Int) V2 (h.wk.past hb).lies.head h.wk.ok.n hk)
  rw [hpi] at y2
  have t1 : ((p : Int) == (s.L.length : Int)) = false := beq_eq_false_iff_ne.2 (by omega)
  have t2 : decide (l.cls < (c : Int)) = false := decide_eq_false (by omega)
  have q0 : ¬ ((p : Int) < 0) := by omega
  have q1 : (0 : Int) ≤ (p : Int) := by omega
  have q2 : (p : Int) < (s.L.length : Int) := by omega
  obtain ⟨G, hGA⟩ : ∃ G : Nat, s.lA = some ⟨G, 0, none⟩ := by
    rcases row_ownK h.wk.row with ⟨_, h9, _⟩ | ⟨G, cur, hA, _⟩
    · omega
    · exact ⟨G, hA⟩
  have hGi : G < w.heap.size := (h.wk.lt G (.inr (by rw [hGA]; rfl))).2
  have HLV := Lib.hid (show ∀ W, Below w.heap.size w W → (∀ (j : Nat) (u : Value), l.cells[j]? = some u → W.cell? ⟨G, p * 10 + j, none⟩ = some u) from fun W hb j u hj => by
    have hW := h.wk.past hb
    obtain ⟨b', o', e, _, hcell⟩ := hW.lies.head (by omega)
    rw [hGA] at e
    simp only [Option.some.injEq, Addr.mk.injEq, and_true] at e
    obtain ⟨rfl, rfl⟩ := e
    have := hcell p l hl j u hj
    rwa [Nat.zero_add] at this)
  have HGA := Lib.hid hGA
  have HIDX := Lib.hid (And.intro hl (And.intro hcl hplt))
  have hLn := h.wk.ok.n
  rw [hGA] at y2
  rw [show b.val = .agg #[.slice b.sA b.f.length b.sc, .slice b.uA b.l.length b.uc] from rfl]
  clear h hvb hvs hvo hc hp hpi hpl hl hcl hplt hfew hn0 hGA
  clear IH hn
  go_enter Tryz.func20, Tryz.ntmps20
  go_upto_region 1 with fail
  rw [← hV]
  clear hV
  go_wp2_with fail
  refine y1.out.mono ?_
  rintro _ w1 ⟨rfl, b1⟩
  obtain ⟨V2, hV2, hs2, hb2, ho2⟩ := boxd w1 [.int .i64 (c : Int)] 3
  have b12 := belows b1 hb2
  have H2 := Lib.hid (And.intro (belows HB.out.1 b12) (And.intro (HB.out.2.past b12 HB.out.2.inside) (And.intro ho2 (show w.heap.size < w1.heap.size from Nat.lt_of_lt_of_le HB.out.2.inside b1.size))))
  have k0 : V2.cell? ⟨w1.heap.size, 0, none⟩ = some (.int .i64 (c : Int)) := ho2.at_ 0
  clear b1 hs2 hb2 ho2 y1 d0 d1 b12
  go_upto_region 2 with fail
  rw [← hV2]
  clear hV2
  have g0 : V2.cell? ⟨g, 1, none⟩ = some (.slice (some ⟨G, 0, none⟩) s.L.length s.lc) := by rw [← HGA.out]; exact (H.out.wk.past H2.out.1).own.at_ 1
  have hgi : g < V2.heap.size := (H.out.wk.past H2.out.1).own.inside
  have z2 := y2 V2 w1.heap.size H2.out.1 ⟨k0, H2.out.2.2.1.inside⟩
  go_wp2_with fail
  refine z2.out.mono ?_
  rintro _ w3 ⟨rfl, b3⟩
  have H3 := Lib.hid (And.intro (belows H2.out.1 b3) (And.intro (H2.out.2.1.past b3 H2.out.2.1.inside) (And.intro (H2.out.2.2.1.past b3 H2.out.2.2.1.inside) (And.intro H2.out.2.2.2 (Nat.lt_of_lt_of_le H2.out.2.2.1.inside b3.size)))))
  have k1 : w3.cell? ⟨w1.heap.size, 0, none⟩ = some (.int .i64 (c : Int)) := (b3.cell (p := ⟨w1.heap.size, 0, none⟩) H2.out.2.2.1.inside).trans k0
  have g1 : w3.cell? ⟨g, 1, none⟩ = some (.slice (some ⟨G, 0, none⟩) s.L.length s.lc) := (b3.cell (p := ⟨g, 1, none⟩) hgi).trans g0
  have hgi3 : g < w3.heap.size := Nat.lt_of_lt_of_le hgi b3.size
  obtain ⟨e0, e1⟩ := own2 H3.out.2.1
  clear b3 z2 k0 g0 hgi
  have hGi3 : G < w3.heap.size := Nat.lt_of_lt_of_le hGi H3.out.1.size
  have x1 := fun q : Past w3 => (q.h.cell (p := ⟨w1.heap.size, 0, none⟩) H3.out.2.2.2.2).trans k1
  have x3 := fun q : Past w3 => HLV.out q.w (belows H3.out.1 q.h) 0 _ rfl
  simp only [Nat.add_zero] at x3
  have x2 := fun q : Past w3 => (q.h.cell (p := ⟨g, 1, none⟩) hgi3).trans g1
  go_upto_region 7 with fail
  refine wp_region_past w3 (by kernel_rfl) (by kernel_rfl) (Below.refl _ _) ?_
  repeat (first | go_big_quiet_step (fail) | quiet_step (fail))
  refine wpQuiet_nil ?_
  intro wz hw'
  obtain ⟨⟨wy, hbz⟩, hw''⟩ := hw'
  dsimp only at hw''
  subst hw''
  have HZ3 := Lib.hid (And.intro (belows H3.out.1 hbz) (And.intro (H3.out.2.1.past hbz H3.out.2.1.inside) (H3.out.2.2.1.past hbz H3.out.2.2.1.inside)))
  have HW1 := Lib.hid H3.out.2.2.2.1
  have g1 := x2 ⟨wz, hbz⟩
  have k1 := (hbz.cell (p := ⟨w1.heap.size, 0, none⟩) H3.out.2.2.2.2).trans k1
  have hgi3 : g < wz.heap.size := Nat.lt_of_lt_of_le hgi3 hbz.size
  obtain ⟨e0, e1⟩ := own2 (H3.out.2.1.past hbz H3.out.2.1.inside)
  dsimp only at g1
  clear x1 x2 x3 hbz hGi3
  go_upto_region 10 with fail
  obtain ⟨r0, r1, r2, r3, r4, r5, r6, r7, r8, r9⟩ := lv_ten (HLV.out wz HZ3.out.1)
  have hGz : G < wz.heap.size := Nat.lt_of_lt_of_le hGi HZ3.out.1.size
  obtain ⟨V5, hV5, hb5, hs5, ho5⟩ := lvbox wz l
  obtain ⟨f0, f1, f2, f3, f4, f5, f6, f7, f8, f9⟩ := own10 ho5
  have H5 := Lib.hid (And.intro (belows HZ3.out.1 hb5) (And.intro (HZ3.out.2.1.past hb5 HZ3.out.2.1.inside) (And.intro ho5 trivial)))
  rw [hbusy] at r1 f1 hV5
  go_upto_region 11 with fail
  rw [← hV5]
  clear hV5 r0 r1 r2 r3 r4 r5 r6 r7 r8 r9 e0 e1 g1 k1 hgi3
  have hwk5 := H.out.wk.past H5.out.1
  have hLl := List.mem_of_getElem? HIDX.out.1
  have hgd := (H.out.good.each l hLl).busy hbusy
  have hlv := hwk5.lev l hLl
  have hlo := hwk5.ok.each_ l hLl
  have hwt := H.out.wt
  have hwl := wt_le hLl
  have hwtl : wtL l = max (l.m.a.length + l.m.b.length) (partsM l.m).length := by unfold wtL; rw [if_pos hbusy]
  have hpo : l.m.o.length ≤ (partsM l.m).length := by unfold partsM; rw [List.length_append, List.length_append]; omega
  have na : l.m.a.length ≤ 274877906944 := by omega
  have nb : l.m.b.length ≤ 274877906944 := by omega
  have no : l.m.o.length ≤ 274877906944 := by omega
  have z := Lib.hid (work_any l.m 9223372036854775807 V5 hlv.m hlo.m na nb no)
  have HK5 := Lib.hid (And.intro hgd (And.intro hlo (And.intro na (And.intro nb no))))
  obtain ⟨r0, r1, r2, r3, r4, r5, r6, r7, r8, r9⟩ := lv_ten (HLV.out V5 H5.out.1)
  have g1 : V5.cell? ⟨g, 1, none⟩ = some (.slice (some ⟨G, 0, none⟩) s.L.length s.lc) := by rw [← HGA.out]; exact hwk5.own.at_ 1
  unfold Mg.val at z
  clear hwk5 hLl hgd hlv hlo hwt hwl hwtl hpo na nb no f0 f2 f3 f4 f5 f6 f7 f8 f9 hb5 ho5 hs5
  go_wp2_with fail
  refine z.out.mono ?_
  rintro _ w6 ⟨m', cc, E, rfl, hw, im, om, lm, b6⟩
  have hwork : WorkOk l.m m' 9223372036854775807 cc E := by
    rcases hw with ⟨h1, _⟩ | ⟨_, h1⟩
    · exact absurd HK5.out.1.2.2.1 h1
    · exact h1
  have hfe := full_end hwork HK5.out.1.2.2.1 HK5.out.2.1.m.o.ok HK5.out.2.2.1 HK5.out.2.2.2.1
  obtain ⟨V6, hV6, hb6, hs6, ho6⟩ := mgbox w6 m'
  have b66 := belows b6 hb6
  have H6 := Lib.hid (And.intro (belows H5.out.1 b66) (And.intro (H5.out.2.1.past b66 H5.out.2.1.inside) (And.intro ho6 (And.intro (im.keep hb6) (And.intro om (And.intro hwork (And.intro hs6 lm)))))))
  obtain ⟨d0, d1, d2, d3, d4, d5⟩ := own6 ho6
  unfold Mg.val
  clear hw im om lm b6 b66 hb6 hs6 ho6 hwork r0 r1 r2 r3 r4 r5 r6 r7 r8 r9 g1 z f1
  go_upto_region 16 with fail
  rw [← hV6]
  clear hV6
  by_cases hE : E = 0
  case neg =>
    have tE : (E != 0) = true := bne_iff_ne.2 hE
    have HE := Lib.hid (show E = 10 ∧ FailS s.L from by
      rcases hfe with ⟨h1, _⟩ | h1
      · exact absurd h1 hE
      · exact ⟨h1.1, by have := busy_pos (List.mem_of_getElem? HIDX.out.1) HBU.out; omega, fun _ => ⟨l, List.mem_of_getElem? HIDX.out.1, HBU.out, h1.2⟩⟩)
    clear hfe hE
    go_wp2_with fail
    go_ret
    exact ⟨E, rfl, KeptK.of_below H6.out.1 (Nat.le_refl _) _, .inr HE.out⟩
  subst hE
  have hfe2 : leftM m' = 0 ∧ EndOk m' := by
    rcases hfe with ⟨_, h1⟩ | h1
    · exact h1
    · exact absurd h1.1 (by decide)
  have hpo : m'.o.length ≤ 274877906944 := by
    obtain ⟨k, _, _, _, _, _, hlen⟩ := work_gen H6.out.2.2.2.2.2.1 HK5.out.1.2.2.1 HK5.out.2.1.m.o.ok
    have hwl := wt_le (List.mem_of_getElem? HIDX.out.1)
    have hwt := H.out.wt
    have hwtl : wtL l = max (l.m.a.length + l.m.b.length) (partsM l.m).length := by unfold wtL; rw [if_pos hbusy]
    have hp2 : m'.o.length ≤ (partsM m').length := by unfold partsM; rw [List.length_append, List.length_append]; omega
    omega
  have hof : OfM (SpS g s.lA) m' := H6.out.2.2.2.2.2.2.2.of fun k hk => ((H.out.wk.past H5.out.1).lt k hk).2
  have z := Lib.hid (ends_anyO base g p s m' V6 (H.out.wk.past H6.out.1) HIDX.out.2.2 H6.out.2.2.2.1 H6.out.2.2.2.2.1 hof hpo hfe2.2)
  have HF := Lib.hid hfe2
  unfold Mg.val at z
  clear hfe hfe2 hpo hof
  go_wp2_with fail
  refine z.out.mono ?_
  rintro _ w7 ⟨e, rfl, hwk7, hk7, hef, hel, ie, oe, le, pe⟩
  have ht : TookOut s.f s.L p e := take_out H.out.good HIDX.out.1 HBU.out HK5.out.2.1.m.o.ok H6.out.2.2.2.2.2.1 rfl HF.out.1 hef hel
  have hkw : KeptK w w7 (SpS g s.lA) := (KeptK.of_below H6.out.1 (Nat.le_refl _) (SpS g s.lA)).trans hk7 (fun _ _ e => e)
  obtain ⟨V7, hV7, hb7, hs7, ho7⟩ := btbox w7 e
  have hin := (first_inO (H.out) ht hkw hwk7).past hb7
  have hab : ∀ x ∈ s.L.eraseIdx p, x.cls ≠ (clsN b.l.length : Int) := fun x hx => by
    rw [HC.out]
    have h1 := H.out.good.fall
    have h2 := split_at' HIDX.out.1
    rw [h2] at h1
    have h3 := List.pairwise_append.1 h1
    rw [List.eraseIdx_eq_take_drop_succ] at hx
    have h4 := HIDX.out.2.1
    rcases List.mem_append.1 hx with hx | hx
    · have := h3.2.2 x hx l List.mem_cons_self; omega
    · have := (List.pairwise_cons.1 h3.2.1).1 x hx; omega
  have z2 := Lib.hid (put_absentO base g _ b V7 hin hab)
  have ob7 := hk7.own H6.out.2.1 (fun hs => by have := ((H.out.wk).lt _ hs).2; omega)
  have ob8 := ob7.past hb7 ob7.inside
  obtain ⟨e0, e1⟩ := own2 ob8
  have H7 := Lib.hid (And.intro hkw (And.intro ht (And.intro (ie.keep hb7) (And.intro oe (And.intro (le.of (fun k hk => ((H.out.wk.past H6.out.1).lt k hk).2) : OfB (SpS g s.lA) e) (And.intro ho7 (And.intro hb7 (Nat.le_trans H6.out.1.size (hk7.size)))))))))
  have HLE := Lib.hid (le.mono (Nat.le_trans H.out.wk.base_ H6.out.1.size) : BtLo base e)
  have HPE := Lib.hid ((pe.low (Nat.le_trans H.out.wk.base_ H6.out.1.size)).past hb7)
  unfold Bt.val at z2 ⊢
  clear hwk7 hk7 hef hel ie oe le pe ht hkw hb7 hs7 ho7 hin hab ob7 ob8 d0 d1 d2 d3 d4 d5 z
  go_upto_region 19 with fail
  rw [← hV7]
  clear hV7
  go_wp2_with fail
  refine z2.out.mono ?_
  rintro _ w8 ⟨rfl, hk8, s2, o2, hbn⟩
  have hin2 := second_inO H.out H7.out.2.1 o2 hk8 H7.out.2.2.1 H7.out.2.2.2.1 H7.out.2.2.2.2.1 HLE.out HPE.out
  have z3 := Lib.hid (HIH.out s2 e w8 hin2 (by have h1 := H7.out.2.1.busy; have h2 := HBN.out; rw [hbn]; show busyN (s.L.eraseIdx p) ≤ n; omega))
  have oe8 := hk8.own H7.out.2.2.2.2.2.1 (fun hs => by have := ((H.out.wk).lt _ hs).2; have := H7.out.2.2.2.2.2.2.2; omega)
  obtain ⟨d0, d1⟩ := own2 oe8
  have H8 := Lib.hid (And.intro o2 (And.intro hk8 hbn))
  unfold Bt.val at z3
  clear hk8 o2 hbn hin2 oe8 e0 e1 z2
  go_wp2_with fail
  refine z3.out.mono ?_
  rintro _ w9 ⟨E9, rfl, hk9, h9⟩
  have hw7 := H7.out.2.2.2.2.2.2.2
  have hw8 : w.heap.size ≤ w8.heap.size := Nat.le_trans (Nat.le_trans hw7 H7.out.2.2.2.2.2.2.1.size) H8.out.2.1.size
  have hk07 : KeptK w V7 (SpS g s.lA) := H7.out.1.trans (KeptK.of_below H7.out.2.2.2.2.2.2.1 (Nat.le_refl _) (SpS g s.lA)) (fun _ _ e => e)
  have hk08 : KeptK w w8 (SpS g s.lA) := hk07.trans H8.out.2.1 (fun _ _ e => e)
  have hlA : blkS s2.lA = blkS s.lA ∨ ∃ q, blkS s2.lA = some q ∧ w.heap.size ≤ q := by
    rcases H8.out.1.lA with h' | ⟨q, h', hq⟩
    · exact .inl h'
    · exact .inr ⟨q, h', Nat.le_trans (Nat.le_trans hw7 H7.out.2.2.2.2.2.2.1.size) hq⟩
  have hk09 : KeptK w w9 (SpS g s.lA) := hk08.trans hk9 (spS_trans hlA)
  have HZ := Lib.hid (show PutSaysO base g s b w (.returned (.int .i64 E9)) w9 from ⟨E9, rfl, hk09, by
    rcases h9 with ⟨h1, s3, o3⟩ | h1
    · exact .inl ⟨h1, s3, put_bothO H.out.good H7.out.2.1 H8.out.1 (Nat.le_trans hw7 H7.out.2.2.2.2.2.2.1.size) hw8 o3 H8.out.2.2⟩
    · exact .inr ⟨h1.1, by have := H7.out.2.1.busy; omega, fun hb1 => by have h2 := H7.out.2.1.busy; have h3 := H8.out.2.2; have h4 := h1.2.1; rw [h3] at h4; have h5 : busyN (s.L.eraseIdx p) ≠ 0 := h4; omega⟩⟩)
  clear hk9 h9 hw7 hw8 hk07 hk08 hlA hk09 d0 d1 z3
  go_wp2_with fail
  go_ret
  exact HZ.out
theorem put_anyO (base g : Nat) : ∀ (n : Nat) (s : Sp) (b : Bt) (w : World), PutInO base g s b w → busyN s.L ≤ n → Calls Tryz.prog 20 #[.pointer (some ⟨g, 0, none⟩), b.val] w (PutSaysO base g s b w) := by
  intro n
  induction n with
  | zero =>
    intro s b w h hn
    by_cases hno : ∀ l ∈ s.L, l.cls ≠ (clsN b.l.length : Int)
    · exact (put_absentO base g s b w h hno).mono fun _ _ k => k.says
    · obtain ⟨l, hl, hcl⟩ := put_thereO h hno
      refine put_idleO base g s b l w h hl hcl ?_
      cases hb : l.busy
      · rfl
      · have := busy_pos (List.mem_of_getElem? hl) hb; omega
  | succ n ih =>
    intro s b w h hn
    by_cases hno : ∀ l ∈ s.L, l.cls ≠ (clsN b.l.length : Int)
    · exact (put_absentO base g s b w h hno).mono fun _ _ k => k.says
    · obtain ⟨l, hl, hcl⟩ := put_thereO h hno
      cases hb : l.busy
      · exact put_idleO base g s b l w h hl hcl hb
      · exact put_busyO n base g s b l w h hl hcl hb hn ih
end Go.Proofs.YtgalemkjgaiphaaGreat
namespace Go.Proofs.YtgalemkjgaiphaaGreat
open Go Go.RowKit

set_option maxRecDepth 100000 in
set_option maxHeartbeats 25600000 in
theorem rightB_any (cl : Int) (b : Bt) (m : Mg) (A : Option Addr) (c : Nat) (f : List Tm) (w : World) (hl : LvIn w w.heap.size ⟨cl, true, b, m⟩) (ol : LvOk ⟨cl, true, b, m⟩) (hf : Times w w.heap.size A f) (hfo : TsOk f c) :
    Calls Tryz.prog 41 #[(⟨cl, true, b, m⟩ : Lv).val, .slice A f.length c] w (Tells (LvGood f ⟨cl, true, b, m⟩) w) := by
  obtain ⟨V, hV, hvb, hvs, hvo⟩ := lvbox w ⟨cl, true, b, m⟩
  obtain ⟨a0, a1, a2, a3, a4, a5, a6, a7, a8, a9⟩ := own10 hvo
  have hin := hl.keep hvb
  have hfV := (hf.past hvb (Nat.le_refl _)).wide hvb.size
  have HL := Lib.hid (And.intro hin.b (And.intro hin.m (And.intro ol.b (And.intro ol.m (And.intro hfV hfo)))))
  have HB := Lib.hid (And.intro hvb hvo)
  have hlt : w.heap.size < V.heap.size := hvo.inside
  rw [show (⟨cl, true, b, m⟩ : Lv).val = .agg #[.int .i64 cl, .bool true, .slice b.sA b.f.length b.sc, .slice b.uA b.l.length b.uc, .slice m.aA m.a.length m.ac, .slice m.bA m.b.length m.bc, .int .i64 m.i, .int .i64 m.j, .slice m.sA m.f.length m.sc, .slice m.oA m.o.length m.oc] from rfl]
  dsimp only at hV a0 a1 a2 a3 a4 a5 a6 a7 a8 a9
  clear hl ol hf hfo hvb hvs hvo hin hfV
  go_enter Tryz.func41, Tryz.ntmps41
  go_upto_region 1 with fail
  rw [← hV]
  clear hV
  go_cut [5, 6] (fun s5 s6 wx => ∃ P Q : Nat, s5 = .pointer (some ⟨P, 0, none⟩) ∧ s6 = .pointer (some ⟨Q, 0, none⟩) ∧ Own wx P 39 b.cells ∧ Own wx Q 41 m.cells ∧ Below V.heap.size V wx)
  case first =>
    go_region
    all_goals
      go_wp2_with fail
      go_meet
    · obtain ⟨x1, x2, x3⟩ := two_alloc V 39 41 b.cells m.cells
      exact ⟨_, _, rfl, rfl, x1, x2, x3⟩
    · obtain ⟨x1, x2, x3⟩ := two_alloc V 41 39 m.cells b.cells
      exact ⟨_, _, rfl, rfl, x2, x1, x3⟩
  case rest =>
    obtain ⟨P, Q, rfl, rfl, hP, hQ, hb⟩ := hcut
    have oL := HB.out.2.past hb HB.out.2.inside
    have hX := fun p : Past wc => own10 (oL.past p.h oL.inside)
    have hP2 := fun p : Past wc => own2 (hP.past p.h hP.inside)
    have hQ6 := fun p : Past wc => own6 (hQ.past p.h hQ.inside)
    dsimp only at hX
    have HW := Lib.hid (belows HB.out.1 hb)
    obtain ⟨ib, im, ob, om, hfV, hfo⟩ := HL.out
    have ib := ib.keep hb
    have im := im.keep hb
    have hfV := (hfV.past hb (Nat.le_refl _)).wide hb.size
    have n1 := hfo.n
    have m1 : f.length ≤ maxLen := Nat.le_trans hfo.le hfo.c_
    have n2 := om.f.n
    have n3 := om.a.n
    have n4 := om.b.n
    obtain ⟨z1, hz1⟩ : ∃ z : Bool, ((b.f.length : Int) == 0) = z := ⟨_, rfl⟩
    obtain ⟨z2, hz2⟩ : ∃ z : Bool, ((b.l.length : Int) == 0) = z := ⟨_, rfl⟩
    obtain ⟨c1, hc1⟩ : ∃ z : Bool, ((clsN m.a.length : Int) == cl) = z := ⟨_, rfl⟩
    obtain ⟨c2, hc2⟩ : ∃ z : Bool, ((clsN m.b.length : Int) == cl) = z := ⟨_, rfl⟩
    obtain ⟨K, hK⟩ := code_of (MOk m) 8
    obtain ⟨z3, hz3⟩ : ∃ z : Bool, (K == 0) = z := ⟨_, rfl⟩
    obtain ⟨bl, hbl⟩ := bool_of (LaterF f m.f)
    obtain ⟨lf, hlf⟩ := bool_of (m.i < (m.a.length : Int) ∨ m.j < (m.b.length : Int))
    have u1 := fun p : Past wc => calls_past ((checkM_any m p.w (im.keep p.h) om).mono fun x w' h => codes_is hK h)
    have u2 := fun p : Past wc => calls_past (class_any m.aA m.ac m.a.length p.w n3)
    have u3 := fun p : Past wc => calls_past (class_any m.bA m.bc m.b.length p.w n4)
    have u4 := fun p : Past wc => calls_past ((later_any A c f m.sA m.sc m.f p.w ((hfV.past p.h (Nat.le_refl _)).wide p.h.size) m1 (im.keep p.h).f (Nat.le_trans om.f.le om.f.c_)).mono fun x w' h => tells_is hbl h)
    have u5 := fun p : Past wc => calls_past ((left_anyS m p.w).mono fun x w' h => tells_is hlf h)
    have HE := Lib.hid (show LvGood f ⟨cl, true, b, m⟩ ↔ (z1 = true ∧ z2 = true ∧ z3 = true ∧ c1 = true ∧ c2 = true ∧ bl = true ∧ lf = true) from by
      have e3 : z3 = true ↔ MOk m := by
        rw [← hz3]
        rcases hK with ⟨h1, h2⟩ | ⟨h1, h2⟩
        · rw [h2]; exact ⟨fun _ => h1, fun _ => rfl⟩
        · rw [h2]; exact ⟨fun h => (by cases h), fun h => absurd h h1⟩
      have e1 : z1 = true ↔ b.f = [] := by rw [← hz1, beq_iff_eq, ← List.length_eq_zero_iff]; omega
      have e2 : z2 = true ↔ b.l = [] := by rw [← hz2, beq_iff_eq, ← List.length_eq_zero_iff]; omega
      have e4 : c1 = true ↔ (clsN m.a.length : Int) = cl := by rw [← hc1, beq_iff_eq]
      have e5 : c2 = true ↔ (clsN m.b.length : Int) = cl := by rw [← hc2, beq_iff_eq]
      rw [e1, e2, e3, e4, e5, hbl, hlf]
      constructor
      · intro h
        obtain ⟨h1, h2, h3, h4, h5, h6, h7⟩ := h.busy rfl
        refine ⟨h1, h2, h3, h4, h5, h6, ?_⟩
        have k1 := h3.da.lo
        have k2 := h3.db.lo
        have h7 : 0 < (m.a.length - m.i.toNat) + (m.b.length - m.j.toNat) := h7
        omega
      · rintro ⟨h1, h2, h3, h4, h5, h6, h7⟩
        refine ⟨fun _ => ⟨h1, h2, h3, h4, h5, h6, ?_⟩, fun h => (by cases h)⟩
        have k1 := h3.da.lo
        have k2 := h3.db.lo
        show 0 < (m.a.length - m.i.toNat) + (m.b.length - m.j.toNat)
        omega)
    obtain ⟨a0, a1, a2, a3, a4, a5, a6, a7, a8, a9⟩ := hX ⟨wc, Below.refl _ _⟩
    obtain ⟨b0, b1⟩ := hP2 ⟨wc, Below.refl _ _⟩
    dsimp only at a0 a1 a2 a3 a4 a5 a6 a7 a8 a9 b0 b1
    clear hbl hlf hK HL HB oL hP hQ hb ib im ob om hfV hfo m1 n1 n2 n3 n4
    unfold Mg.val at u1 u5
    cases z1 with
    | false =>
      go_upto_region 4 with fail
      clear a0 a1 a2 a3 a4 a5 a6 a7 a8 a9 b0 b1
      refine wp_region_past wc (by kernel_rfl) (by kernel_rfl) (Below.refl _ _) ?_
      repeat (first | go_big_quiet_step (fail) | quiet_step (fail))
      refine wpQuiet_nil ?_
      intro wz hw'
      obtain ⟨⟨wy, hbz⟩, hw''⟩ := hw'
      dsimp only at hw''
      subst hw''
      have HZ := Lib.hid (belows HW.out hbz)
      clear hX hP2 hQ6 hbz
      go_wp2_with fail
      go_ret
      exact ⟨false, rfl, (HE.out.trans (by simp)).symm, HZ.out⟩
    | true =>
    cases z2 with
    | false =>
      go_upto_region 4 with fail
      clear a0 a1 a2 a3 a4 a5 a6 a7 a8 a9 b0 b1
      refine wp_region_past wc (by kernel_rfl) (by kernel_rfl) (Below.refl _ _) ?_
      repeat (first | go_big_quiet_step (fail) | quiet_step (fail))
      refine wpQuiet_nil ?_
      intro wz hw'
      obtain ⟨⟨wy, hbz⟩, hw''⟩ := hw'
      dsimp only at hw''
      subst hw''
      have HZ := Lib.hid (belows HW.out hbz)
      clear hX hP2 hQ6 hbz
      go_wp2_with fail
      go_ret
      exact ⟨false, rfl, (HE.out.trans (by simp)).symm, HZ.out⟩
    | true =>
    cases z3 with
    | false =>
      go_upto_region 4 with fail
      clear a0 a1 a2 a3 a4 a5 a6 a7 a8 a9 b0 b1
      refine wp_region_past wc (by kernel_rfl) (by kernel_rfl) (Below.refl _ _) ?_
      repeat (first | go_big_quiet_step (fail) | quiet_step (fail))
      quiet_step ((go_at_call 79; exact u1 _))
      repeat (first | go_big_quiet_step (fail) | quiet_step (fail))
      refine wpQuiet_nil ?_
      intro wz hw'
      obtain ⟨⟨wy, hbz⟩, hw''⟩ := hw'
      dsimp only at hw''
      subst hw''
      have HZ := Lib.hid (belows HW.out hbz)
      clear hX hP2 hQ6 hbz
      go_wp2_with fail
      go_ret
      exact ⟨false, rfl, (HE.out.trans (by simp)).symm, HZ.out⟩
    | true =>
    cases c1 with
    | false =>
      go_upto_region 4 with fail
      clear a0 a1 a2 a3 a4 a5 a6 a7 a8 a9 b0 b1
      refine wp_region_past wc (by kernel_rfl) (by kernel_rfl) (Below.refl _ _) ?_
      repeat (first | go_big_quiet_step (fail) | quiet_step (fail))
      quiet_step ((go_at_call 79; exact u1 _))
      repeat (first | go_big_quiet_step (fail) | quiet_step (fail))
      quiet_step ((go_at_call 49; exact u2 _))
      repeat (first | go_big_quiet_step (fail) | quiet_step (fail))
      refine wpQuiet_nil ?_
      intro wz hw'
      obtain ⟨⟨wy, hbz⟩, hw''⟩ := hw'
      dsimp only at hw''
      subst hw''
      have HZ := Lib.hid (belows HW.out hbz)
      clear hX hP2 hQ6 hbz
      go_wp2_with fail
      go_ret
      exact ⟨false, rfl, (HE.out.trans (by simp)).symm, HZ.out⟩
    | true =>
    cases c2 with
    | false =>
      go_upto_region 4 with fail
      clear a0 a1 a2 a3 a4 a5 a6 a7 a8 a9 b0 b1
      refine wp_region_past wc (by kernel_rfl) (by kernel_rfl) (Below.refl _ _) ?_
      repeat (first | go_big_quiet_step (fail) | quiet_step (fail))
      quiet_step ((go_at_call 79; exact u1 _))
      repeat (first | go_big_quiet_step (fail) | quiet_step (fail))
      quiet_step ((go_at_call 49; exact u2 _))
      repeat (first | go_big_quiet_step (fail) | quiet_step (fail))
      quiet_step ((go_at_call 49; exact u3 _))
      repeat (first | go_big_quiet_step (fail) | quiet_step (fail))
      refine wpQuiet_nil ?_
      intro wz hw'
      obtain ⟨⟨wy, hbz⟩, hw''⟩ := hw'
      dsimp only at hw''
      subst hw''
      have HZ := Lib.hid (belows HW.out hbz)
      clear hX hP2 hQ6 hbz
      go_wp2_with fail
      go_ret
      exact ⟨false, rfl, (HE.out.trans (by simp)).symm, HZ.out⟩
    | true =>
    cases bl with
    | false =>
      go_upto_region 4 with fail
      clear a0 a1 a2 a3 a4 a5 a6 a7 a8 a9 b0 b1
      refine wp_region_past wc (by kernel_rfl) (by kernel_rfl) (Below.refl _ _) ?_
      repeat (first | go_big_quiet_step (fail) | quiet_step (fail))
      quiet_step ((go_at_call 79; exact u1 _))
      repeat (first | go_big_quiet_step (fail) | quiet_step (fail))
      quiet_step ((go_at_call 49; exact u2 _))
      repeat (first | go_big_quiet_step (fail) | quiet_step (fail))
      quiet_step ((go_at_call 49; exact u3 _))
      repeat (first | go_big_quiet_step (fail) | quiet_step (fail))
      quiet_step ((go_at_call 29; exact u4 _))
      repeat (first | go_big_quiet_step (fail) | quiet_step (fail))
      refine wpQuiet_nil ?_
      intro wz hw'
      obtain ⟨⟨wy, hbz⟩, hw''⟩ := hw'
      dsimp only at hw''
      subst hw''
      have HZ := Lib.hid (belows HW.out hbz)
      clear hX hP2 hQ6 hbz
      go_wp2_with fail
      go_ret
      exact ⟨false, rfl, (HE.out.trans (by simp)).symm, HZ.out⟩
    | true =>
    cases lf with
    | false =>
      go_upto_region 4 with fail
      clear a0 a1 a2 a3 a4 a5 a6 a7 a8 a9 b0 b1
      refine wp_region_past wc (by kernel_rfl) (by kernel_rfl) (Below.refl _ _) ?_
      repeat (first | go_big_quiet_step (fail) | quiet_step (fail))
      quiet_step ((go_at_call 79; exact u1 _))
      repeat (first | go_big_quiet_step (fail) | quiet_step (fail))
      quiet_step ((go_at_call 49; exact u2 _))
      repeat (first | go_big_quiet_step (fail) | quiet_step (fail))
      quiet_step ((go_at_call 49; exact u3 _))
      repeat (first | go_big_quiet_step (fail) | quiet_step (fail))
      quiet_step ((go_at_call 29; exact u4 _))
      repeat (first | go_big_quiet_step (fail) | quiet_step (fail))
      quiet_step ((go_at_call 65; exact u5 _))
      repeat (first | go_big_quiet_step (fail) | quiet_step (fail))
      refine wpQuiet_nil ?_
      intro wz hw'
      obtain ⟨⟨wy, hbz⟩, hw''⟩ := hw'
      dsimp only at hw''
      subst hw''
      have HZ := Lib.hid (belows HW.out hbz)
      clear hX hP2 hQ6 hbz
      go_wp2_with fail
      go_ret
      exact ⟨false, rfl, (HE.out.trans (by simp)).symm, HZ.out⟩
    | true =>
      go_upto_region 4 with fail
      clear a0 a1 a2 a3 a4 a5 a6 a7 a8 a9 b0 b1
      refine wp_region_past wc (by kernel_rfl) (by kernel_rfl) (Below.refl _ _) ?_
      repeat (first | go_big_quiet_step (fail) | quiet_step (fail))
      quiet_step ((go_at_call 79; exact u1 _))
      repeat (first | go_big_quiet_step (fail) | quiet_step (fail))
      quiet_step ((go_at_call 49; exact u2 _))
      repeat (first | go_big_quiet_step (fail) | quiet_step (fail))
      quiet_step ((go_at_call 49; exact u3 _))
      repeat (first | go_big_quiet_step (fail) | quiet_step (fail))
      quiet_step ((go_at_call 29; exact u4 _))
      repeat (first | go_big_quiet_step (fail) | quiet_step (fail))
      quiet_step ((go_at_call 65; exact u5 _))
      repeat (first | go_big_quiet_step (fail) | quiet_step (fail))
      refine wpQuiet_nil ?_
      intro wz hw'
      obtain ⟨⟨wy, hbz⟩, hw''⟩ := hw'
      dsimp only at hw''
      subst hw''
      have HZ := Lib.hid (belows HW.out hbz)
      clear hX hP2 hQ6 hbz
      go_wp2_with fail
      go_ret
      exact ⟨true, rfl, (HE.out.trans (by simp)).symm, HZ.out⟩
end Go.Proofs.YtgalemkjgaiphaaGreat
namespace Go.Proofs.YtgalemkjgaiphaaGreat
open Go Go.RowKit

set_option maxRecDepth 100000 in
set_option maxHeartbeats 25600000 in
theorem rightI_any (cl : Int) (b : Bt) (m : Mg) (A : Option Addr) (c : Nat) (f : List Tm) (w : World) (hl : LvIn w w.heap.size ⟨cl, false, b, m⟩) (ol : LvOk ⟨cl, false, b, m⟩) (hf : Times w w.heap.size A f) (hfo : TsOk f c) :
    Calls Tryz.prog 41 #[(⟨cl, false, b, m⟩ : Lv).val, .slice A f.length c] w (Tells (LvGood f ⟨cl, false, b, m⟩) w) := by
  obtain ⟨V, hV, hvb, hvs, hvo⟩ := lvbox w ⟨cl, false, b, m⟩
  obtain ⟨a0, a1, a2, a3, a4, a5, a6, a7, a8, a9⟩ := own10 hvo
  have hin := hl.keep hvb
  have hfV := (hf.past hvb (Nat.le_refl _)).wide hvb.size
  have HL := Lib.hid (And.intro hin.b (And.intro hin.m (And.intro ol.b (And.intro ol.m (And.intro hfV hfo)))))
  have HB := Lib.hid (And.intro hvb hvo)
  have hlt : w.heap.size < V.heap.size := hvo.inside
  rw [show (⟨cl, false, b, m⟩ : Lv).val = .agg #[.int .i64 cl, .bool false, .slice b.sA b.f.length b.sc, .slice b.uA b.l.length b.uc, .slice m.aA m.a.length m.ac, .slice m.bA m.b.length m.bc, .int .i64 m.i, .int .i64 m.j, .slice m.sA m.f.length m.sc, .slice m.oA m.o.length m.oc] from rfl]
  dsimp only at hV a0 a1 a2 a3 a4 a5 a6 a7 a8 a9
  clear hl ol hf hfo hvb hvs hvo hin hfV
  go_enter Tryz.func41, Tryz.ntmps41
  go_upto_region 1 with fail
  rw [← hV]
  clear hV
  go_cut [5, 6] (fun s5 s6 wx => ∃ P Q : Nat, s5 = .pointer (some ⟨P, 0, none⟩) ∧ s6 = .pointer (some ⟨Q, 0, none⟩) ∧ Own wx P 39 b.cells ∧ Own wx Q 41 m.cells ∧ Below V.heap.size V wx)
  case first =>
    go_region
    all_goals
      go_wp2_with fail
      go_meet
    · obtain ⟨x1, x2, x3⟩ := two_alloc V 39 41 b.cells m.cells
      exact ⟨_, _, rfl, rfl, x1, x2, x3⟩
    · obtain ⟨x1, x2, x3⟩ := two_alloc V 41 39 m.cells b.cells
      exact ⟨_, _, rfl, rfl, x2, x1, x3⟩
  case rest =>
    obtain ⟨P, Q, rfl, rfl, hP, hQ, hb⟩ := hcut
    have oL := HB.out.2.past hb HB.out.2.inside
    have hX := fun p : Past wc => own10 (oL.past p.h oL.inside)
    have hP2 := fun p : Past wc => own2 (hP.past p.h hP.inside)
    have hQ6 := fun p : Past wc => own6 (hQ.past p.h hQ.inside)
    dsimp only at hX
    have HW := Lib.hid (belows HB.out.1 hb)
    obtain ⟨ib, im, ob, om, hfV, hfo⟩ := HL.out
    have ib := ib.keep hb
    have im := im.keep hb
    have hfV := (hfV.past hb (Nat.le_refl _)).wide hb.size
    have n1 := hfo.n
    have m1 : f.length ≤ maxLen := Nat.le_trans hfo.le hfo.c_
    have n2 := ob.f.n
    have n3 := ob.l.n
    obtain ⟨y1, hy1⟩ : ∃ z : Bool, ((m.a.length : Int) == 0) = z := ⟨_, rfl⟩
    obtain ⟨y2, hy2⟩ : ∃ z : Bool, ((m.b.length : Int) == 0) = z := ⟨_, rfl⟩
    obtain ⟨y3, hy3⟩ : ∃ z : Bool, (m.i == 0) = z := ⟨_, rfl⟩
    obtain ⟨y4, hy4⟩ : ∃ z : Bool, (m.j == 0) = z := ⟨_, rfl⟩
    obtain ⟨y5, hy5⟩ : ∃ z : Bool, ((m.f.length : Int) == 0) = z := ⟨_, rfl⟩
    obtain ⟨y6, hy6⟩ : ∃ z : Bool, ((m.o.length : Int) == 0) = z := ⟨_, rfl⟩
    obtain ⟨c1, hc1⟩ : ∃ z : Bool, ((clsN b.l.length : Int) == cl) = z := ⟨_, rfl⟩
    obtain ⟨K, hK⟩ := code_of (BatchOk b.f b.l) 4
    obtain ⟨z3, hz3⟩ : ∃ z : Bool, (K == 0) = z := ⟨_, rfl⟩
    obtain ⟨bl, hbl⟩ := bool_of (LaterF f b.f)
    have u1 := fun p : Past wc => calls_past ((bcheck_any b p.w (ib.keep p.h) ob).mono fun x w' h => codes_is hK h)
    have u2 := fun p : Past wc => calls_past (class_any b.uA b.uc b.l.length p.w n3)
    have u4 := fun p : Past wc => calls_past ((later_any A c f b.sA b.sc b.f p.w ((hfV.past p.h (Nat.le_refl _)).wide p.h.size) m1 (ib.keep p.h).since (Nat.le_trans ob.f.le ob.f.c_)).mono fun x w' h => tells_is hbl h)
    have HE := Lib.hid (show LvGood f ⟨cl, false, b, m⟩ ↔ (y1 = true ∧ y2 = true ∧ y3 = true ∧ y4 = true ∧ y5 = true ∧ y6 = true ∧ z3 = true ∧ c1 = true ∧ bl = true) from by
      have e3 : z3 = true ↔ BatchOk b.f b.l := by
        rw [← hz3]
        rcases hK with ⟨h1, h2⟩ | ⟨h1, h2⟩
        · rw [h2]; exact ⟨fun _ => h1, fun _ => rfl⟩
        · rw [h2]; exact ⟨fun h => (by cases h), fun h => absurd h h1⟩
      have e1 : y1 = true ↔ m.a = [] := by rw [← hy1, beq_iff_eq, ← List.length_eq_zero_iff]; omega
      have e2 : y2 = true ↔ m.b = [] := by rw [← hy2, beq_iff_eq, ← List.length_eq_zero_iff]; omega
      have e4 : y3 = true ↔ m.i = 0 := by rw [← hy3, beq_iff_eq]
      have e5 : y4 = true ↔ m.j = 0 := by rw [← hy4, beq_iff_eq]
      have e6 : y5 = true ↔ m.f = [] := by rw [← hy5, beq_iff_eq, ← List.length_eq_zero_iff]; omega
      have e7 : y6 = true ↔ m.o = [] := by rw [← hy6, beq_iff_eq, ← List.length_eq_zero_iff]; omega
      have e8 : c1 = true ↔ (clsN b.l.length : Int) = cl := by rw [← hc1, beq_iff_eq]
      rw [e1, e2, e3, e4, e5, e6, e7, e8, hbl]
      constructor
      · intro h
        obtain ⟨⟨h1, h2, h3, h4, h5, h6⟩, h7, h8, h9⟩ := h.idle rfl
        exact ⟨h1, h2, h3, h4, h5, h6, h7, h8, h9⟩
      · rintro ⟨h1, h2, h3, h4, h5, h6, h7, h8, h9⟩
        exact ⟨fun h => (by cases h), fun _ => ⟨⟨h1, h2, h3, h4, h5, h6⟩, h7, h8, h9⟩⟩)
    obtain ⟨a0, a1, a2, a3, a4, a5, a6, a7, a8, a9⟩ := hX ⟨wc, Below.refl _ _⟩
    obtain ⟨b0, b1, b2, b3, b4, b5⟩ := hQ6 ⟨wc, Below.refl _ _⟩
    dsimp only at a0 a1 a2 a3 a4 a5 a6 a7 a8 a9 b0 b1 b2 b3 b4 b5
    clear hbl hK HL HB oL hP hQ hb ib im ob om hfV hfo m1 n1 n2 n3
    unfold Bt.val at u1
    cases y1 with
    | false =>
      go_upto_region 6 with fail
      clear a0 a1 a2 a3 a4 a5 a6 a7 a8 a9 b0 b1 b2 b3 b4 b5
      refine wp_region_past wc (by kernel_rfl) (by kernel_rfl) (Below.refl _ _) ?_
      repeat (first | go_big_quiet_step (fail) | quiet_step (fail))
      refine wpQuiet_nil ?_
      intro wz hw'
      obtain ⟨⟨wy, hbz⟩, hw''⟩ := hw'
      dsimp only at hw''
      subst hw''
      have HZ := Lib.hid (belows HW.out hbz)
      clear hX hP2 hQ6 hbz
      go_wp2_with fail
      go_ret
      exact ⟨false, rfl, (HE.out.trans (by simp)).symm, HZ.out⟩
    | true =>
    cases y2 with
    | false =>
      go_upto_region 6 with fail
      clear a0 a1 a2 a3 a4 a5 a6 a7 a8 a9 b0 b1 b2 b3 b4 b5
      refine wp_region_past wc (by kernel_rfl) (by kernel_rfl) (Below.refl _ _) ?_
      repeat (first | go_big_quiet_step (fail) | quiet_step (fail))
      refine wpQuiet_nil ?_
      intro wz hw'
      obtain ⟨⟨wy, hbz⟩, hw''⟩ := hw'
      dsimp only at hw''
      subst hw''
      have HZ := Lib.hid (belows HW.out hbz)
      clear hX hP2 hQ6 hbz
      go_wp2_with fail
      go_ret
      exact ⟨false, rfl, (HE.out.trans (by simp)).symm, HZ.out⟩
    | true =>
    cases y3 with
    | false =>
      go_upto_region 6 with fail
      clear a0 a1 a2 a3 a4 a5 a6 a7 a8 a9 b0 b1 b2 b3 b4 b5
      refine wp_region_past wc (by kernel_rfl) (by kernel_rfl) (Below.refl _ _) ?_
      repeat (first | go_big_quiet_step (fail) | quiet_step (fail))
      refine wpQuiet_nil ?_
      intro wz hw'
      obtain ⟨⟨wy, hbz⟩, hw''⟩ := hw'
      dsimp only at hw''
      subst hw''
      have HZ := Lib.hid (belows HW.out hbz)
      clear hX hP2 hQ6 hbz
      go_wp2_with fail
      go_ret
      exact ⟨false, rfl, (HE.out.trans (by simp)).symm, HZ.out⟩
    | true =>
    cases y4 with
    | false =>
      go_upto_region 6 with fail
      clear a0 a1 a2 a3 a4 a5 a6 a7 a8 a9 b0 b1 b2 b3 b4 b5
      refine wp_region_past wc (by kernel_rfl) (by kernel_rfl) (Below.refl _ _) ?_
      repeat (first | go_big_quiet_step (fail) | quiet_step (fail))
      refine wpQuiet_nil ?_
      intro wz hw'
      obtain ⟨⟨wy, hbz⟩, hw''⟩ := hw'
      dsimp only at hw''
      subst hw''
      have HZ := Lib.hid (belows HW.out hbz)
      clear hX hP2 hQ6 hbz
      go_wp2_with fail
      go_ret
      exact ⟨false, rfl, (HE.out.trans (by simp)).symm, HZ.out⟩
    | true =>
    cases y5 with
    | false =>
      go_upto_region 6 with fail
      clear a0 a1 a2 a3 a4 a5 a6 a7 a8 a9 b0 b1 b2 b3 b4 b5
      refine wp_region_past wc (by kernel_rfl) (by kernel_rfl) (Below.refl _ _) ?_
      repeat (first | go_big_quiet_step (fail) | quiet_step (fail))
      refine wpQuiet_nil ?_
      intro wz hw'
      obtain ⟨⟨wy, hbz⟩, hw''⟩ := hw'
      dsimp only at hw''
      subst hw''
      have HZ := Lib.hid (belows HW.out hbz)
      clear hX hP2 hQ6 hbz
      go_wp2_with fail
      go_ret
      exact ⟨false, rfl, (HE.out.trans (by simp)).symm, HZ.out⟩
    | true =>
    cases y6 with
    | false =>
      go_upto_region 6 with fail
      clear a0 a1 a2 a3 a4 a5 a6 a7 a8 a9 b0 b1 b2 b3 b4 b5
      refine wp_region_past wc (by kernel_rfl) (by kernel_rfl) (Below.refl _ _) ?_
      repeat (first | go_big_quiet_step (fail) | quiet_step (fail))
      refine wpQuiet_nil ?_
      intro wz hw'
      obtain ⟨⟨wy, hbz⟩, hw''⟩ := hw'
      dsimp only at hw''
      subst hw''
      have HZ := Lib.hid (belows HW.out hbz)
      clear hX hP2 hQ6 hbz
      go_wp2_with fail
      go_ret
      exact ⟨false, rfl, (HE.out.trans (by simp)).symm, HZ.out⟩
    | true =>
    cases z3 with
    | false =>
      go_upto_region 6 with fail
      clear a0 a1 a2 a3 a4 a5 a6 a7 a8 a9 b0 b1 b2 b3 b4 b5
      refine wp_region_past wc (by kernel_rfl) (by kernel_rfl) (Below.refl _ _) ?_
      repeat (first | go_big_quiet_step (fail) | quiet_step (fail))
      quiet_step ((go_at_call 69; exact u1 _))
      repeat (first | go_big_quiet_step (fail) | quiet_step (fail))
      refine wpQuiet_nil ?_
      intro wz hw'
      obtain ⟨⟨wy, hbz⟩, hw''⟩ := hw'
      dsimp only at hw''
      subst hw''
      have HZ := Lib.hid (belows HW.out hbz)
      clear hX hP2 hQ6 hbz
      go_wp2_with fail
      go_ret
      exact ⟨false, rfl, (HE.out.trans (by simp)).symm, HZ.out⟩
    | true =>
    cases c1 with
    | false =>
      go_upto_region 6 with fail
      clear a0 a1 a2 a3 a4 a5 a6 a7 a8 a9 b0 b1 b2 b3 b4 b5
      refine wp_region_past wc (by kernel_rfl) (by kernel_rfl) (Below.refl _ _) ?_
      repeat (first | go_big_quiet_step (fail) | quiet_step (fail))
      quiet_step ((go_at_call 69; exact u1 _))
      repeat (first | go_big_quiet_step (fail) | quiet_step (fail))
      quiet_step ((go_at_call 49; exact u2 _))
      repeat (first | go_big_quiet_step (fail) | quiet_step (fail))
      refine wpQuiet_nil ?_
      intro wz hw'
      obtain ⟨⟨wy, hbz⟩, hw''⟩ := hw'
      dsimp only at hw''
      subst hw''
      have HZ := Lib.hid (belows HW.out hbz)
      clear hX hP2 hQ6 hbz
      go_wp2_with fail
      go_ret
      exact ⟨false, rfl, (HE.out.trans (by simp)).symm, HZ.out⟩
    | true =>
    cases bl with
    | false =>
      go_upto_region 6 with fail
      clear a0 a1 a2 a3 a4 a5 a6 a7 a8 a9 b0 b1 b2 b3 b4 b5
      refine wp_region_past wc (by kernel_rfl) (by kernel_rfl) (Below.refl _ _) ?_
      repeat (first | go_big_quiet_step (fail) | quiet_step (fail))
      quiet_step ((go_at_call 69; exact u1 _))
      repeat (first | go_big_quiet_step (fail) | quiet_step (fail))
      quiet_step ((go_at_call 49; exact u2 _))
      repeat (first | go_big_quiet_step (fail) | quiet_step (fail))
      quiet_step ((go_at_call 29; exact u4 _))
      repeat (first | go_big_quiet_step (fail) | quiet_step (fail))
      refine wpQuiet_nil ?_
      intro wz hw'
      obtain ⟨⟨wy, hbz⟩, hw''⟩ := hw'
      dsimp only at hw''
      subst hw''
      have HZ := Lib.hid (belows HW.out hbz)
      clear hX hP2 hQ6 hbz
      go_wp2_with fail
      go_ret
      exact ⟨false, rfl, (HE.out.trans (by simp)).symm, HZ.out⟩
    | true =>
      go_upto_region 6 with fail
      clear a0 a1 a2 a3 a4 a5 a6 a7 a8 a9 b0 b1 b2 b3 b4 b5
      refine wp_region_past wc (by kernel_rfl) (by kernel_rfl) (Below.refl _ _) ?_
      repeat (first | go_big_quiet_step (fail) | quiet_step (fail))
      quiet_step ((go_at_call 69; exact u1 _))
      repeat (first | go_big_quiet_step (fail) | quiet_step (fail))
      quiet_step ((go_at_call 49; exact u2 _))
      repeat (first | go_big_quiet_step (fail) | quiet_step (fail))
      quiet_step ((go_at_call 29; exact u4 _))
      repeat (first | go_big_quiet_step (fail) | quiet_step (fail))
      refine wpQuiet_nil ?_
      intro wz hw'
      obtain ⟨⟨wy, hbz⟩, hw''⟩ := hw'
      dsimp only at hw''
      subst hw''
      have HZ := Lib.hid (belows HW.out hbz)
      clear hX hP2 hQ6 hbz
      go_wp2_with fail
      go_ret
      exact ⟨true, rfl, (HE.out.trans (by simp)).symm, HZ.out⟩
end Go.Proofs.YtgalemkjgaiphaaGreat
namespace Go.Proofs.YtgalemkjgaiphaaGreat
open Go Go.RowKit

theorem right_anyS (l : Lv) (A : Option Addr) (c : Nat) (f : List Tm) (w : World) (hl : LvIn w w.heap.size l) (ol : LvOk l) (hf : Times w w.heap.size A f) (hfo : TsOk f c) :
    Calls Tryz.prog 41 #[l.val, .slice A f.length c] w (Tells (LvGood f l) w) := by
  obtain ⟨cl, bu, b, m⟩ := l
  cases bu
  · exact rightI_any cl b m A c f w hl ol hf hfo
  · exact rightB_any cl b m A c f w hl ol hf hfo
theorem spbox (w : World) (s : Sp) : ∃ W, W = w.alloc (.cells #[.slice s.sA s.f.length s.sc, .slice s.lA s.L.length s.lc] 25) ∧ Below w.heap.size w W ∧ W.heap.size = w.heap.size + 1 ∧ Own W w.heap.size 25 s.cells :=
  ⟨_, rfl, (Below.refl _ _).alloc (Nat.le_refl _) _, by simp, Own.made w 25 s.cells⟩
theorem good_next {f : List Tm} {L : List Lv} {k : Nat} {l : Lv} (hl : L[k]? = some l) (h : SpGood f (L.take k)) (h1 : 1 ≤ l.cls) (h2 : ∀ l0, 0 < k → L[k - 1]? = some l0 → l.cls < l0.cls) (h3 : LvGood f l) : SpGood f (L.take (k + 1)) := by
  have e : L.take (k + 1) = L.take k ++ [l] := by rw [List.take_add_one, hl]; rfl
  rw [e]
  refine ⟨h.front, fun x hx => ?_, ?_, fun x hx => ?_⟩
  · rcases List.mem_append.1 hx with hx | hx
    · exact h.pos x hx
    · obtain rfl : x = l := by simpa using hx
      exact h1
  · refine List.pairwise_append.2 ⟨h.fall, List.pairwise_singleton _ _, fun x hx y hy => ?_⟩
    obtain rfl : y = l := by simpa using hy
    have hk : 0 < (L.take k).length := List.length_pos_of_mem hx
    rw [List.length_take] at hk
    have hlt := (List.getElem?_eq_some_iff.1 hl).1
    obtain ⟨l0, hl0⟩ : ∃ l0, L[k - 1]? = some l0 := ⟨_, List.getElem?_eq_getElem (by omega)⟩
    have h4 := h2 l0 (by omega) hl0
    obtain ⟨i, hi⟩ := List.getElem?_of_mem hx
    have hik := (List.getElem?_eq_some_iff.1 hi).1
    rw [List.length_take] at hik
    by_cases e1 : i = k - 1
    · subst e1
      rw [List.getElem?_take_of_lt (by omega), hl0] at hi
      injection hi with hi
      rw [← hi]; exact h4
    · have hp := List.pairwise_iff_getElem.1 h.fall i (k - 1) (by rw [List.length_take]; omega) (by rw [List.length_take]; omega) (by omega)
      have a1 : (L.take k)[i]'(by rw [List.length_take]; omega) = x := (List.getElem?_eq_some_iff.1 hi).2
      have a2 : (L.take k)[k - 1]'(by rw [List.length_take]; omega) = l0 := by
        rw [List.getElem_take]
        exact (List.getElem?_eq_some_iff.1 hl0).2
      rw [a1, a2] at hp
      omega
  · rcases List.mem_append.1 hx with hx | hx
    · exact h.each x hx
    · obtain rfl : x = l := by simpa using hx
      exact h3
theorem good_prev {f : List Tm} {L : List Lv} {k : Nat} {l l0 : Lv} (h : SpGood f L) (hk : 0 < k) (hl : L[k]? = some l) (hl0 : L[k - 1]? = some l0) : l.cls < l0.cls := by
  have h1 := List.getElem?_eq_some_iff.1 hl
  have h2 := List.getElem?_eq_some_iff.1 hl0
  rw [← h1.2, ← h2.2]
  exact List.pairwise_iff_getElem.1 h.fall (k - 1) k h2.1 h1.1 (by omega)
set_option maxRecDepth 100000 in
set_option maxHeartbeats 25600000 in
theorem scheck_any (s : Sp) (w : World) (hs : SpIn w w.heap.size s) (ok : SpOk s) :
    Calls Tryz.prog 17 #[s.val] w (Codes (SpGood s.f s.L) 8 w) := by
  obtain ⟨V, hV, hvb, hvs, hvo⟩ := spbox w s
  have hin := hs.keep hvb
  have y1 := Lib.hid (frontier_anyS s.sA s.sc s.f V hin.since ok.f)
  have H := Lib.hid (And.intro hin (And.intro ok (And.intro hvb hvo)))
  obtain ⟨d0, d1⟩ := own2 hvo
  have hn := ok.n
  rw [show s.val = .agg #[.slice s.sA s.f.length s.sc, .slice s.lA s.L.length s.lc] from rfl]
  clear hs ok hvb hvs hvo hin
  go_enter Tryz.func17, Tryz.ntmps17
  go_upto_region 1 with fail
  rw [← hV]
  clear hV
  go_wp2_with fail
  refine y1.out.mono ?_
  rintro _ w1 ⟨fb, rfl, hfb, b1⟩
  have H1 := Lib.hid (And.intro b1 hfb)
  clear b1 hfb d0 d1 y1
  cases fb with
  | false =>
    go_wp2_with fail
    go_ret
    exact ⟨8, rfl, .inr ⟨fun h => absurd (H1.out.2.2 h.front) (by decide), rfl⟩, H.out.2.2.1.trans (H1.out.1.mono H.out.2.2.1.size)⟩
  | true =>
  have hf := Lib.hid (H1.out.2.1 rfl)
  have hX := Lib.hid (fun W (hb : Below V.heap.size V W) => own2 (H.out.2.2.2.past hb H.out.2.2.2.inside))
  obtain ⟨d0, d1⟩ := hX.out w1 H1.out.1
  go_wp2_with fail
  go_loopw [12] (fun v12 wr => ∃ k : Nat, v12 = .int .i64 (k : Int) ∧ k ≤ s.L.length ∧ Below V.heap.size V wr ∧ SpGood s.f (s.L.take k))
    (fun v12 _ => s.L.length - (intOf v12).toNat)
  case atStart => exact ⟨0, rfl, by omega, H1.out.1, ⟨hf.out, fun l hl => (by simp at hl), by simp, fun l hl => (by simp at hl)⟩⟩
  case round =>
    obtain ⟨k, rfl, hk, hb, hg⟩ := hrel
    by_cases hlt : k < s.L.length
    · obtain ⟨l, hl⟩ : ∃ l, s.L[k]? = some l := ⟨_, List.getElem?_eq_getElem hlt⟩
      obtain ⟨b, o, hA, hB, hc⟩ := lies_lv H.out.1.lev.head (by omega)
      obtain ⟨c0, c1, c2, c3, c4, c5, c6, c7, c8, c9⟩ := lv_ten fun j u hj => (hb.cell (p := ⟨b, o + k * 10 + j, none⟩) hB).trans (hc k l hl j u hj)
      have hlm := List.mem_of_getElem? hl
      have hli := ((H.out.1.lev.each_ l hlm).past hb (Nat.le_refl _)).wide hb.size
      have hlo := H.out.2.1.each_ l hlm
      have hpos := fun (h : SpGood s.f s.L) => h.pos l hlm
      have heach := fun (h : SpGood s.f s.L) => h.each l hlm
      obtain ⟨V5, hV5, hb5, hs5, ho5⟩ := lvbox wr l
      have hb55 := belows hb hb5
      have hX5 := fun q : Past V5 => own10 (ho5.past q.h ho5.inside)
      have hX2 := fun q : Past V5 => hX.out q.w (belows hb55 q.h)
      obtain ⟨br, hbr⟩ := bool_of (LvGood s.f l)
      have u1 := fun q : Past V5 => calls_past ((right_anyS l s.sA s.sc s.f q.w ((hli.keep hb5).keep q.h) hlo ((H.out.1.since.past (belows hb55 q.h) (Nat.le_refl _)).wide (belows hb55 q.h).size) H.out.2.1.f).mono fun x w' h => tells_is hbr h)
      have HK := Lib.hid (And.intro hg (And.intro hl (And.intro hb55 (And.intro hbr (And.intro hpos heach)))))
      obtain ⟨d0, d1⟩ := hX.out wr hb
      have q0 : (0 : Int) ≤ (k : Int) := by omega
      have q1 : (k : Int) < (s.L.length : Int) := by omega
      have hP := fun q : Past V5 => (show ∀ j : Nat, ∀ l0, s.L[j]? = some l0 → q.w.cell? ⟨b, o + j * 10, none⟩ = some (.int .i64 l0.cls) from fun j l0 h0 => by
        have := ((belows hb55 q.h).cell (p := ⟨b, o + j * 10 + 0, none⟩) hB).trans (hc j l0 h0 0 _ rfl)
        exact this)
      unfold Lv.val at u1
      have HS := Lib.hid hA
      rw [hA] at d1
      clear hc hb hg hli hlo hpos heach hlm hbr hl hb5 ho5 hs5 hb55
      by_cases hc1 : l.cls < 1
      · have t1 : decide (l.cls < 1) = true := decide_eq_true hc1
        have HC := Lib.hid hc1
        clear hc1
        go_upto_region 6 with fail
        rw [← hV5]
        clear hV5
        refine wp_region_past V5 (by kernel_rfl) (by kernel_rfl) (Below.refl _ _) ?_
        repeat (first | go_big_quiet_step (fail) | quiet_step (fail))
        refine wpQuiet_nil ?_
        intro wz hw'
        obtain ⟨⟨wy, hbz⟩, hw''⟩ := hw'
        dsimp only at hw''
        subst hw''
        have HZ := Lib.hid (belows HK.out.2.2.1 hbz)
        clear hX5 hX2 hP hbz u1 c0 c1 c2 c3 c4 c5 c6 c7 c8 c9 d0 d1
        go_wp2_with fail
        go_ret
        exact ⟨8, rfl, .inr ⟨fun h => absurd (HK.out.2.2.2.2.1 h) (by have := HC.out; omega), rfl⟩, H.out.2.2.1.trans (HZ.out.mono H.out.2.2.1.size)⟩
      have t1 : decide (l.cls < 1) = false := decide_eq_false hc1
      have HC := Lib.hid hc1
      clear hc1
      by_cases hk0 : k = 0
      · have t2 : decide (k > 0) = false := decide_eq_false (by omega)
        have t2' : decide (0 < k) = false := decide_eq_false (by omega)
        have t2'' : decide ((0 : Int) < (k : Int)) = false := decide_eq_false (by omega)
        have HK0 := Lib.hid hk0
        cases br with
        | false =>
          clear hk0
          go_upto_region 6 with fail
          rw [← hV5]
          clear hV5
          refine wp_region_past V5 (by kernel_rfl) (by kernel_rfl) (Below.refl _ _) ?_
          repeat (first | go_big_quiet_step ((go_at_call 41; exact u1 _)) | quiet_step ((go_at_call 41; exact u1 _)))
          refine wpQuiet_nil ?_
          intro wz hw'
          obtain ⟨⟨wy, hbz⟩, hw''⟩ := hw'
          dsimp only at hw''
          subst hw''
          have HZ := Lib.hid (belows HK.out.2.2.1 hbz)
          clear hX5 hX2 hP hbz u1 c0 c1 c2 c3 c4 c5 c6 c7 c8 c9 d0 d1
          go_wp2_with fail
          go_ret
          exact ⟨8, rfl, .inr ⟨fun h => absurd (HK.out.2.2.2.1.2 (HK.out.2.2.2.2.2 h)) (by decide), rfl⟩, H.out.2.2.1.trans (HZ.out.mono H.out.2.2.1.size)⟩
        | true =>
          have hbl : k + 1 ≤ s.L.length := by omega
          clear hk0
          go_upto_region 6 with fail
          rw [← hV5]
          clear hV5
          refine wp_region_past V5 (by kernel_rfl) (by kernel_rfl) (Below.refl _ _) ?_
          repeat (first | go_big_quiet_step ((go_at_call 41; exact u1 _)) | quiet_step ((go_at_call 41; exact u1 _)))
          refine wpQuiet_nil ?_
          intro wz hw'
          obtain ⟨⟨wy, hbz⟩, hw''⟩ := hw'
          dsimp only at hw''
          subst hw''
          have HZ := Lib.hid (belows HK.out.2.2.1 hbz)
          clear hX5 hX2 hP hbz u1 c0 c1 c2 c3 c4 c5 c6 c7 c8 c9 d0 d1
          go_wp2_with fail
          go_roundw
          case rel => exact ⟨k + 1, by go_num, by omega, HZ.out, good_next HK.out.2.1 HK.out.1 (by have := HC.out; omega) (fun l0 h0 _ => absurd h0 (by have := HK0.out; omega)) (HK.out.2.2.2.1.1 rfl)⟩
          case measure => simp [intOf]; omega
      · have t2 : decide (0 < k) = true := decide_eq_true (by omega)
        have t2'' : decide ((0 : Int) < (k : Int)) = true := decide_eq_true (by omega)
        obtain ⟨l0, hl0⟩ : ∃ l0, s.L[k - 1]? = some l0 := ⟨_, List.getElem?_eq_getElem (by omega)⟩
        have hP1 := fun q : Past V5 => hP q (k - 1) l0 hl0
        have hsub : IntKind.i64.wrap ((k : Int) - 1) = ((k - 1 : Nat) : Int) := by rw [IntKind.wrap_i64]; omega
        have s0 : (0 : Int) ≤ ((k - 1 : Nat) : Int) := by omega
        have s1 : ((k - 1 : Nat) : Int) < (s.L.length : Int) := by omega
        have HL0 := Lib.hid (And.intro hl0 (show 0 < k by omega))
        by_cases hc2 : l0.cls ≤ l.cls
        · have t3 : decide (l.cls ≥ l0.cls) = true := decide_eq_true hc2
          have t3' : decide (l0.cls ≤ l.cls) = true := decide_eq_true hc2
          have HC2 := Lib.hid hc2
          clear hl0 hk0 hc2
          go_upto_region 6 with fail
          rw [← hV5]
          clear hV5
          refine wp_region_past V5 (by kernel_rfl) (by kernel_rfl) (Below.refl _ _) ?_
          repeat (first | go_big_quiet_step (fail) | quiet_step (fail))
          refine wpQuiet_nil ?_
          intro wz hw'
          obtain ⟨⟨wy, hbz⟩, hw''⟩ := hw'
          dsimp only at hw''
          subst hw''
          have HZ := Lib.hid (belows HK.out.2.2.1 hbz)
          clear hX5 hX2 hP hbz u1 c0 c1 c2 c3 c4 c5 c6 c7 c8 c9 d0 d1
          go_wp2_with fail
          go_ret
          exact ⟨8, rfl, .inr ⟨fun h => absurd (good_prev h HL0.out.2 HK.out.2.1 HL0.out.1) (by have := HC2.out; omega), rfl⟩, H.out.2.2.1.trans (HZ.out.mono H.out.2.2.1.size)⟩
        · have t3' : decide (l0.cls ≤ l.cls) = false := decide_eq_false hc2
          have HC2 := Lib.hid hc2
          cases br with
          | false =>
            clear hl0 hk0 hc2
            go_upto_region 6 with fail
            rw [← hV5]
            clear hV5
            refine wp_region_past V5 (by kernel_rfl) (by kernel_rfl) (Below.refl _ _) ?_
            repeat (first | go_big_quiet_step ((go_at_call 41; exact u1 _)) | quiet_step ((go_at_call 41; exact u1 _)))
            refine wpQuiet_nil ?_
            intro wz hw'
            obtain ⟨⟨wy, hbz⟩, hw''⟩ := hw'
            dsimp only at hw''
            subst hw''
            have HZ := Lib.hid (belows HK.out.2.2.1 hbz)
            clear hX5 hX2 hP hbz u1 c0 c1 c2 c3 c4 c5 c6 c7 c8 c9 d0 d1
            go_wp2_with fail
            go_ret
            exact ⟨8, rfl, .inr ⟨fun h => absurd (HK.out.2.2.2.1.2 (HK.out.2.2.2.2.2 h)) (by decide), rfl⟩, H.out.2.2.1.trans (HZ.out.mono H.out.2.2.1.size)⟩
          | true =>
            have hbl : k + 1 ≤ s.L.length := by omega
            clear hl0 hk0 hc2
            go_upto_region 6 with fail
            rw [← hV5]
            clear hV5
            refine wp_region_past V5 (by kernel_rfl) (by kernel_rfl) (Below.refl _ _) ?_
            repeat (first | go_big_quiet_step ((go_at_call 41; exact u1 _)) | quiet_step ((go_at_call 41; exact u1 _)))
            refine wpQuiet_nil ?_
            intro wz hw'
            obtain ⟨⟨wy, hbz⟩, hw''⟩ := hw'
            dsimp only at hw''
            subst hw''
            have HZ := Lib.hid (belows HK.out.2.2.1 hbz)
            clear hX5 hX2 hP hbz u1 c0 c1 c2 c3 c4 c5 c6 c7 c8 c9 d0 d1
            go_wp2_with fail
            go_roundw
            case rel => exact ⟨k + 1, by go_num, by omega, HZ.out, good_next HK.out.2.1 HK.out.1 (by have := HC.out; omega) (fun x _ h0 => by rw [HL0.out.1] at h0; injection h0 with h0; rw [← h0]; have := HC2.out; omega) (HK.out.2.2.2.1.1 rfl)⟩
            case measure => simp [intOf]; omega
    · have hk2 : k = s.L.length := by omega
      subst hk2
      rw [List.take_length] at hg
      have HH := Lib.hid (And.intro hb hg)
      clear hb hg
      go_wp2_with fail
      go_ret
      exact ⟨0, rfl, .inl ⟨HH.out.2, rfl⟩, H.out.2.2.1.trans (HH.out.1.mono H.out.2.2.1.size)⟩
end Go.Proofs.YtgalemkjgaiphaaGreat
namespace Go.Proofs.YtgalemkjgaiphaaGreat
open Go Go.RowKit

set_option maxRecDepth 100000 in
set_option maxHeartbeats 3200000 in
theorem listS_any (A : Option Addr) (c : Nat) (l : List Lv) (w : World) (hl : Lies 10 Lv.cells w w.heap.size A l) (hn : l.length * 176 ≤ 140737488355328) :
    Calls Tryz.prog 42 #[.slice A l.length c] w fun x w' => ∃ A', x = .returned (.slice A' l.length l.length) ∧ (l = [] → A' = none ∧ w' = w) ∧ (0 < l.length → A' = some ⟨w.heap.size, 0, none⟩ ∧ Own w' w.heap.size 43 (l.flatMap Lv.cells)) ∧ Below w.heap.size w w' := by
  obtain ⟨i0, hi, hz0, hz1, hz2⟩ := info_parts infoLv
  have hU := Tryz.underlying23
  have hsz1 : (Tryz.prog.info? 43).map (·.size) = some 10 := by rw [hi]; simp [hz1]
  cases l with
  | nil =>
    clear hl hn hi hz0 hz1 hz2 hU hsz1
    go_enter Tryz.func42, Tryz.ntmps42
    go_wp2_with fail
    go_ret
    exact ⟨none, rfl, fun _ => ⟨rfl, rfl⟩, fun h => absurd h (by simp), Below.refl _ _⟩
  | cons t l =>
    obtain ⟨b, o, rfl, hB, hc⟩ := hl (by simp)
    obtain ⟨m, hm⟩ : ∃ m, m = t :: l := ⟨_, rfl⟩
    have hpos : 0 < m.length := by rw [hm]; simp
    have hne : m ≠ [] := by rw [hm]; simp
    rw [← hm] at hc hn ⊢
    have t1 : ((m.length : Int) == 0) = false := beq_eq_false_iff_ne.2 (by omega)
    have HC := Lib.hid hc
    have HNE := Lib.hid hne
    clear hc hm hl hne
    go_enter Tryz.func42, Tryz.ntmps42
    go_wp2_with (refine wpList_make_full _ rfl (.tmp 8) (.tmp 8) 23 rfl w.heap.size 43 i0 _ 10 hU hi hz0 hz1 .i64 .i64 _ _ m.length rfl rfl rfl rfl ?c1 ?c2 ?c3 ?_)
    case c1 => rw [hz2]; omega
    case c2 => unfold maxLen; omega
    case c3 => exact Nat.le_refl _
    intro w1 ho1 hg1
    obtain ⟨cur, ho1⟩ : ∃ cur, w1.ownsRow w.heap.size 43 10 (.slice (some ⟨w.heap.size, 0, none⟩) m.length m.length) m.length cur := ⟨_, ho1⟩
    have hm1 := own_made ho1
    have hb1 : Below w.heap.size w w1 := (Below.refl _ _).grown hg1 (Nat.le_refl _) (fun k h => by cases h)
    have hlen1 : cur.length = m.length * 10 := ho1.1
    have hcl : (m.flatMap Lv.cells).length = m.length * 10 := flat_size (size := 10) (cells := Lv.cells) (fun _ => rfl) m
    have hsrc : ∀ j v, (m.flatMap Lv.cells)[j]? = some v → w1.cell? ((⟨b, o, none⟩ : Addr).add j) = some v := fun j v hv => by
      obtain ⟨i, r, x, rfl, hx, hr⟩ := flat_back (size := 10) (cells := Lv.cells) (by decide) (fun _ => rfl) m j v hv
      have ea : (⟨b, o, none⟩ : Addr).add (i * 10 + r) = ⟨b, o + i * 10 + r, none⟩ := by unfold Addr.add; split <;> simp_all <;> omega
      rw [ea, hb1.cell (p := ⟨b, o + i * 10 + r, none⟩) hB]
      exact HC.out i x hx r v hr
    have hrun := fun ty => run_copy_all (P := Tryz.prog) w1 23 23 ty 43 w.heap.size m.length m.length c 10 ⟨b, o, none⟩ cur (m.flatMap Lv.cells) 43 hU hsz1 hm1 hcl hsrc (by rw [hcl, hlen1]) (fun v hv => by
      obtain ⟨x, _, hx⟩ := List.mem_flatMap.1 hv
      exact lcells_one x v hx)
    have ho2 : Own (w1.setRow w.heap.size (m.flatMap Lv.cells).toArray) w.heap.size 43 (m.flatMap Lv.cells) := own_setRow hm1
    have hb2 : Below w.heap.size w (w1.setRow w.heap.size (m.flatMap Lv.cells).toArray) := below_setRow hb1 (Nat.le_refl _) _
    have HR := Lib.hid hrun
    obtain ⟨w2, hw2⟩ : ∃ w2, w2 = w1.setRow w.heap.size (m.flatMap Lv.cells).toArray := ⟨_, rfl⟩
    rw [← hw2] at HR ho2 hb2
    have H2 := Lib.hid (And.intro ho2 hb2)
    clear hw2 hrun ho2 hb2 hsrc hcl hm1 hb1 hlen1 ho1 hg1 hU hsz1 hi hz0 hz1 hz2
    go_wp2_with (refine Lib.wpList_copy_run _ rfl _ _ 23 23 rfl _ _ rfl rfl (HR.out _) ?_)
    go_wp2_with fail
    go_ret
    exact ⟨_, rfl, fun h => absurd h HNE.out, fun _ => ⟨rfl, H2.out.1⟩, H2.out.2⟩

end Go.Proofs.YtgalemkjgaiphaaGreat
namespace Go.Proofs.YtgalemkjgaiphaaGreat
open Go Go.RowKit

structure CopyS (s s' : Sp) (B : Nat) (w' : World) : Prop where
  f : s'.f = s.f
  L : s'.L.map Lv.pl = s.L.map Lv.pl
  in_ : SpIn w' w'.heap.size s'
  ok : SpOk s'
  lo : SpLo B s'
  row : w'.ownsRow B 43 10 (.slice s'.lA s'.L.length s'.lc) s'.L.length (s'.L.flatMap Lv.cells)
  soff : OfT (fun k => blkS s'.lA = some k) s'.sA s'.f.length
  loff : ∀ l ∈ s'.L, OfL (fun k => blkS s'.lA = some k) l
def CopiedS (s : Sp) (w : World) (x : Ending) (w' : World) : Prop := ∃ s' : Sp, x = .returned s'.val ∧ CopyS s s' w.heap.size w' ∧ Below w.heap.size w w'
theorem good_small {f : List Tm} {l : Lv} (g : LvGood f l) (hw : wtL l ≤ 274877906944) : chkUs l.b.l = 0 ∧ l.b.l.length ≤ 274877906944 ∧ MgSm l.m := by
  cases hb : l.busy
  · obtain ⟨⟨h1, h2, _, _, _, h6⟩, h7, _, _⟩ := g.idle hb
    have hwl : wtL l = l.b.l.length := by unfold wtL; rw [if_neg (by rw [hb]; decide)]
    exact ⟨h7.2.1.2.2, by omega, by rw [h1]; rfl, by rw [h2]; rfl, by rw [h6]; rfl, by rw [h1]; exact Nat.zero_le _, by rw [h2]; exact Nat.zero_le _, by rw [h6]; exact Nat.zero_le _⟩
  · obtain ⟨_, h2, h3, _⟩ := g.busy hb
    have hwtl : wtL l = max (l.m.a.length + l.m.b.length) (partsM l.m).length := by unfold wtL; rw [if_pos hb]
    have hpo : l.m.o.length ≤ (partsM l.m).length := by unfold partsM; rw [List.length_append, List.length_append]; omega
    exact ⟨by rw [h2]; rfl, by rw [h2]; exact Nat.zero_le _, h3.even.1.2.2, h3.even.2.1.2.2, h3.even.2.2.2.2, by omega, by omega, by omega⟩
theorem wt_leC {L : List Lv} {l : Lv} (h : l ∈ L) : wtL l ≤ wtS L := by
  unfold wtS
  induction L with
  | nil => cases h
  | cons x L ih =>
    rw [List.map_cons, List.sum_cons]
    rcases List.mem_cons.1 h with rfl | h
    · exact Nat.le_add_right _ _
    · have := ih h; omega
theorem turn_tail {A c c' R : List Value} (h : c.length = 10) (h' : c'.length = 10) (e : c'.take 2 = c.take 2) : (A ++ (c ++ R)).take (A.length + 2) ++ c'.drop 2 ++ (A ++ (c ++ R)).drop (A.length + 10) = A ++ (c' ++ R) := by
  rw [List.take_length_add_append, List.drop_length_add_append, List.take_append_of_le_length (by omega), ← e]
  have e3 : (c ++ R).drop 10 = R := by rw [← h, List.drop_left]
  rw [e3, List.append_assoc, List.append_assoc]
  congr 1
  rw [← List.append_assoc, List.take_append_drop]
theorem own_level {w : World} {G : Nat} {t : TypeId} {M R : List Lv} {l l' : Lv} (h : Own w G t ((M ++ l :: R).flatMap Lv.cells)) (hc : l'.cls = l.cls) (hb : l'.busy = l.busy) :
    Own (setsAt w G (M.length * 10 + 2) (l'.cells.drop 2)) G t ((M ++ l' :: R).flatMap Lv.cells) := by
  have h1 := setsAt_own (l'.cells.drop 2) w (M.length * 10 + 2) _ h (by
    show M.length * 10 + 2 + 8 ≤ _
    rw [lflat_len, List.length_append, List.length_cons]; omega)
  have e : ((M ++ l :: R).flatMap Lv.cells).take (M.length * 10 + 2) ++ l'.cells.drop 2 ++ ((M ++ l :: R).flatMap Lv.cells).drop (M.length * 10 + 2 + (l'.cells.drop 2).length) = (M ++ l' :: R).flatMap Lv.cells := by
    have hM := lflat_len M
    have e8 : (l'.cells.drop 2).length = 8 := rfl
    have e2 : l'.cells.take 2 = l.cells.take 2 := by
      show [Value.int .i64 l'.cls, Value.bool l'.busy] = [Value.int .i64 l.cls, Value.bool l.busy]
      rw [hc, hb]
    rw [List.flatMap_append, List.flatMap_append, List.flatMap_cons, List.flatMap_cons, e8, show M.length * 10 + 2 + 8 = M.length * 10 + 10 by omega, ← hM]
    exact turn_tail rfl rfl e2
  rw [e] at h1
  exact h1
theorem at_level {M R : List Lv} {l : Lv} {w : World} {G : Nat} {t : TypeId} (h : Own w G t ((M ++ l :: R).flatMap Lv.cells)) : ∀ (j : Nat) (u : Value), l.cells[j]? = some u → w.cell? ⟨G, M.length * 10 + j, none⟩ = some u := fun j u hj => by
  have hj10 : j < 10 := (List.getElem?_eq_some_iff.1 hj).1
  rw [h.at_, List.flatMap_append, List.flatMap_cons]
  have hM := lflat_len M
  rw [List.getElem?_append_right (by omega), show M.length * 10 + j - (M.flatMap Lv.cells).length = j by omega, List.getElem?_append_left hj10]
  exact hj
structure CpSt (V wr : World) (G k : Nat) (L M : List Lv) : Prop where
  len : M.length = k
  pl : M.map Lv.pl = (L.take k).map Lv.pl
  own : Own wr G 43 ((M ++ L.drop k).flatMap Lv.cells)
  each_ : ∀ l ∈ M, LvIn wr wr.heap.size l ∧ LvOk l ∧ LvLo (G + 1) l
  kept : KeptK V wr (fun b => b = G)
theorem cp_next {V wr X : World} {G k : Nat} {L M : List Lv} {l l' : Lv} {w7 : World} (h : CpSt V wr G k L M) (hl : L[k]? = some l) (hb : Below wr.heap.size wr w7) (hX : X = setsAt w7 G (k * 10 + 2) (l'.cells.drop 2)) (hc : l'.cls = l.cls) (hbu : l'.busy = l.busy) (hpl : l'.pl = l.pl) (hin : LvIn w7 w7.heap.size l') (hok : LvOk l') (hlo : LvLo (G + 1) l') :
    CpSt V X G (k + 1) L (M ++ [l']) := by
  have hd : L.drop k = l :: L.drop (k + 1) := by
    have := List.getElem?_eq_some_iff.1 hl
    rw [List.drop_eq_getElem_cons this.1, this.2]
  have ho := h.own.past hb h.own.inside
  rw [hd] at ho
  have ho2 := own_level (l' := l') ho hc hbu
  rw [h.len, ← hX] at ho2
  have kX : KeptK w7 X (fun b => b = G) := by rw [hX]; exact setsAt_kept (S := fun b => b = G) (.inl rfl) _ _ _ (KeptK.refl _ _)
  have off : ∀ {x : Lv}, LvLo (G + 1) x → OfL (fun b => b = G) x := fun hx => hx.of fun k e => by omega
  refine ⟨by rw [List.length_append, h.len]; rfl, ?_, by rw [List.append_assoc]; exact ho2, fun x hx => ?_, (h.kept.trans (KeptK.of_below hb (Nat.le_refl _) (fun b => b = G)) (fun _ _ e => e)).trans kX (fun _ _ e => e)⟩
  · rw [List.map_append, h.pl, List.take_add_one, hl, List.map_append]
    show _ ++ [l'.pl] = _ ++ [l.pl]
    rw [hpl]
  · rcases List.mem_append.1 hx with hx | hx
    · obtain ⟨a, b, c⟩ := h.each_ x hx
      exact ⟨lv_kept (a.keep hb) (off c) kX, b, c⟩
    · obtain rfl : x = l' := by simpa using hx
      exact ⟨lv_kept hin (off hlo) kX, hok, hlo⟩
theorem cp_end {s : Sp} {w V wr : World} {G : Nat} {A : Option Addr} {M : List Lv} (h : CpSt V wr G s.L.length s.L M) (hs : SpOk s) (hA : Times V V.heap.size A s.f) (hAl : LoT w.heap.size A) (hAo : OfT (fun b => b = G) A s.f.length) (hG : w.heap.size ≤ G) (_ : Below w.heap.size w V) :
    CopyS s ⟨A, s.f.length, s.f, some ⟨G, 0, none⟩, s.L.length, M⟩ w.heap.size wr := by
  have hlen : M.length = s.L.length := h.len
  have hpl := h.pl
  rw [List.take_length] at hpl
  have ho := h.own
  rw [List.drop_length, List.append_nil] at ho
  have hlies : Lies 10 Lv.cells wr wr.heap.size (some ⟨G, 0, none⟩) M := lies_owned (fun _ => rfl) ho
  have hfl := lflat_len M
  refine ⟨rfl, hpl, ⟨times_kept hA hAo h.kept, ⟨hlies, fun l hl => (h.each_ l hl).1⟩⟩, ⟨⟨hs.f.n, Nat.le_refl _, Nat.le_trans hs.f.le hs.f.c_⟩, by show M.length ≤ _; have := hs.n; omega, by show M.length ≤ s.L.length; omega, Nat.le_trans hs.le hs.c_, fun l hl => (h.each_ l hl).2.1⟩, ⟨hAl, fun b o e => ?_, fun l hl => (h.each_ l hl).2.2.mono (by omega)⟩, ?_, ?_, fun l hl => ?_⟩
  · simp only [Option.some.injEq, Addr.mk.injEq, and_true] at e
    omega
  · show World.ownsRow wr w.heap.size _ 10 (.slice (some ⟨G, 0, none⟩) M.length s.L.length) M.length (M.flatMap Lv.cells)
    have := own_to_row (base := w.heap.size) (n := s.L.length) (c := s.L.length) (size := 10) ho hG (Nat.le_refl _) (Nat.le_trans hs.le hs.c_) (by rw [hfl, hlen])
    rw [List.take_of_length_le (by rw [hfl, hlen]; exact Nat.le_refl _)] at this
    rw [hlen]; exact this
  · refine hAo.less fun k hk => ?_
    have hk : some G = some k := hk
    injection hk with hk
    exact hk.symm
  · refine (((h.each_ l hl).2.2.of (S := fun b => b = G) (fun k e => by omega))).less fun k hk => ?_
    have hk : some G = some k := hk
    injection hk with hk
    exact hk.symm
theorem CopyS.low {s s' : Sp} {B B' : Nat} {w : World} (h : CopyS s s' B w) (hB : B' ≤ B) : CopyS s s' B' w :=
  ⟨h.f, h.L, h.in_, h.ok, ⟨h.lo.f.mono hB, h.lo.l.mono hB, fun l hl => (h.lo.each_ l hl).mono hB⟩, ⟨h.row.1, by
    rcases h.row.2 with h0 | ⟨g, cap, cur, e, hb, rest⟩
    · exact .inl h0
    · exact .inr ⟨g, cap, cur, e, Nat.le_trans hB hb, rest⟩⟩, h.soff, h.loff⟩
theorem CopyS.kept {s s' : Sp} {B P : Nat} {w X : World} (h : CopyS s s' B w) (k : KeptK w X (fun b => b = P)) (hP : P < B) : CopyS s s' B X := by
  have hl : ∀ x ∈ s'.L, LvIn X X.heap.size x := fun x hx => lv_kept (h.in_.lev.each_ x hx) ((h.lo.each_ x hx).of (fun b e => by omega)) k
  refine ⟨h.f, h.L, ⟨times_kept h.in_.since (h.lo.f.of (fun b e => by omega)) k, ⟨lies_kept h.in_.lev.head (fun _ b o e hs => by have := h.lo.l b o e; omega) k, hl⟩⟩, h.ok, h.lo, k.row h.row (fun b e hs => ?_), h.soff, h.loff⟩
  rcases row_ownK h.row with ⟨h0, _⟩ | ⟨g, cur, h0, hb, _⟩
  · rw [h0] at e; simp [Value.ownBlock] at e
  · rw [h0] at e
    have : g = b := by simpa [Value.ownBlock] using e
    omega
end Go.Proofs.YtgalemkjgaiphaaGreat
