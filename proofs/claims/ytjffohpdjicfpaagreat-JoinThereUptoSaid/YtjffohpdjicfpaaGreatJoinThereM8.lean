/- Part 8 of the texts on which JoinThere rests: facts and contracts. -/
import Derived.Test.YtjffohpdjicfpaaGreatJoinThereM7
import Derived.Test.YtjffohpdjicfpaaGreatProg
import Derived.Deep.Draws
import Derived.Deep.RegionLaw
import Derived.Outline
import Derived.Handy
import Derived.Lib.SlBuf
namespace Go.Proofs.YtjffohpdjicfpaaGreat
open Go Go.RowKit
def bldE (f : List Tm) (l : List Up) : Int := if chk f = 0 ∧ frontL f = f then consE [advL f l] else 4
def Built (f : List Tm) (l : List Up) (w : World) (x : Ending) (w' : World) : Prop :=
  ∃ b : Bt, x = .returned (.tuple #[b.val, .int .i64 (bldE f l)]) ∧ (bldE f l = 0 → FrontOk f ∧ b.f = f ∧ b.l.map Up.p = consL [advL f l]) ∧ (bldE f l ≠ 0 → b = Bt.nil) ∧ BtIn w' w'.heap.size b ∧ BtOk b ∧ BtLo w.heap.size b ∧ Below w.heap.size w w'
set_option maxRecDepth 100000 in
set_option maxHeartbeats 6400000 in
theorem build_any (A : Option Addr) (c : Nat) (f : List Tm) (A' : Option Addr) (c' : Nat) (L : List (Rw Up)) (w : World) (hf : Times w w.heap.size A f) (hfo : TsOk f c) (hl : ULs w w.heap.size A' L) (hok : ∀ s ∈ L, ∀ u ∈ s.l, UOk u) (hn : (flatR L).length ≤ 1099511627776) (hn2 : L.length ≤ 1099511627776) :
    Calls Tryz.prog 68 #[.slice A f.length c, .slice A' L.length c'] w (Built f (flatR L) w) := by
  obtain ⟨W, hW, hWb, hWo⟩ : ∃ W, W = w.alloc (.cells #[.slice none 0 0, .slice none 0 0] 125) ∧ Below w.heap.size w W ∧ Own W w.heap.size 125 [.slice none 0 0, .slice none 0 0] :=
    ⟨_, rfl, (Below.refl _ _).alloc (Nat.le_refl _) _, Own.made w 125 [.slice none 0 0, .slice none 0 0]⟩
  have hfn : f.length ≤ 1099511627776 := hfo.n
  have y1 := Lib.hid (bfrontier_any A c f W ((hf.past hWb (Nat.le_refl _)).wide hWb.size) (by omega))
  have HL := Lib.hid (And.intro hf (And.intro hfo (And.intro hl hok)))
  have HW := Lib.hid (And.intro hWb hWo)
  obtain ⟨G, hG⟩ : ∃ G, G = w.heap.size := ⟨_, rfl⟩
  have HG := Lib.hid hG
  clear hf hfo hl hok hWb hWo
  go_enter Tryz.func68, Tryz.ntmps68
  go_upto_region 1 with fail
  rw [← hW, ← hG]
  clear hW hG
  go_wp2_with fail
  refine y1.out.mono ?_
  rintro _ w1 ⟨b, rfl, hb, b1⟩
  have h1 : Below w.heap.size w w1 := HW.out.1.trans (b1.mono HW.out.1.size)
  have ho1 := HW.out.2.past b1 HW.out.2.inside
  rw [← HG.out] at ho1
  cases b with
  | false =>
    have hne : ¬ (chk f = 0 ∧ frontL f = f) := fun h => by have := hb.2 h; cases this
    have he : bldE f (flatR L) = 4 := if_neg hne
    have f0 := ho1.open_ 0
    have f1 := ho1.open_ 1
    obtain ⟨d0, d1⟩ := own2 ho1
    have H1 := Lib.hid (And.intro h1 (And.intro ho1 he))
    clear h1 ho1 he hne hb b1 y1
    go_wp2_with fail
    have hX := ((H1.out.2.1.set_ 0 (.slice none 0 0)).set_ 1 (.slice none 0 0))
    obtain ⟨x0, x1⟩ := own2 hX
    have HB := Lib.hid ((H1.out.1.setCell (p := ⟨G, 0, none⟩) (Nat.le_of_eq HG.out.symm) (.slice none 0 0)).setCell (p := ⟨G, 1, none⟩) (Nat.le_of_eq HG.out.symm) (.slice none 0 0))
    have HE := Lib.hid H1.out.2.2
    clear hX f0 f1 d0 d1
    exact bodyPost_ret (v := .tuple #[.agg #[.slice none 0 0, .slice none 0 0], .int .i64 4]) (by simp [results, Tryz.results68, go_sem, x0, x1]) rfl ⟨Bt.nil, by rw [HE.out]; rfl, fun h => by rw [HE.out] at h; omega, fun _ => rfl, bt_nil_in _ _, bt_nil_ok, bt_nil_lo _, HB.out⟩
  | true =>
    have hfr : FrontOk f := hb.1 rfl
    have he : bldE f (flatR L) = consE [advL f (flatR L)] := if_pos hfr
    have y2 := Lib.hid (concatU_any A' c' L w1 ((HL.out.2.2.1.past h1 (Nat.le_refl _)).wide h1.size) hn hn2)
    have H1 := Lib.hid (And.intro h1 (And.intro ho1 (And.intro hfr he)))
    clear h1 ho1 hfr he hb b1 y1
    go_wp2_with fail
    refine y2.out.mono ?_
    rintro _ w2 ⟨v2, rfl, ho2, b2⟩
    obtain ⟨A2, c2, rfl, _, _, hl2⟩ := lies_of_own (size := 6) (cells := Up.cells) (l := flatR L) (by decide) ucells_len rfl ho2
    have h2 : Below w.heap.size w w2 := H1.out.1.trans (b2.mono H1.out.1.size)
    have hu2 : Ups w2 w2.heap.size A2 (flatR L) := ⟨hl2, fun u hu => by
      obtain ⟨s, hs, hu⟩ := List.mem_flatMap.1 hu
      exact ((HL.out.2.2.1.each_ s hs).each_ u hu).past h2 (Nat.le_refl _) |>.wide h2.size⟩
    have hok2 : ∀ u ∈ flatR L, UOk u := fun u hu => by
      obtain ⟨s, hs, hu⟩ := List.mem_flatMap.1 hu
      exact HL.out.2.2.2 s hs u hu
    have hf2 : Times w2 w2.heap.size A f := (HL.out.1.past h2 (Nat.le_refl _)).wide h2.size
    have y3 := Lib.hid (badvance_any A2 c2 (flatR L) A c f w2 hu2 hn hf2 HL.out.2.1)
    have H2 := Lib.hid (And.intro h2 (And.intro (H1.out.2.1.past b2 H1.out.2.1.inside) hok2))
    obtain ⟨l, hlE⟩ : ∃ l, flatR L = l := ⟨_, rfl⟩
    rw [hlE] at y3 H1 H2 hn ⊢
    have HLE := Lib.hid hlE
    clear ho2 hl2 b2 h2 hu2 hok2 hf2 y2 hlE
    go_wp2_with fail
    refine y3.out.mono ?_
    rintro _ w3 ⟨A3, rfl, hu3, _, b3⟩
    rw [← advL_len f l] at *
    obtain ⟨V, hV, hvb, hul⟩ := one_list w3 A3 (advL f l).length (advL f l) hu3
    have y4 := Lib.hid (consolidate_new (some ⟨w3.heap.size, 0, none⟩) 1 _ V hul (fun s hs u hu => by
      obtain rfl : s = ⟨A3, (advL f l).length, advL f l⟩ := by simpa using hs
      exact advL_ok H2.out.2.2 u hu) (by simpa [flatR] using hn) (by simp))
    have h3 : Below w.heap.size w w3 := H2.out.1.trans (b3.mono H2.out.1.size)
    have hV' : Below w.heap.size w V := h3.trans (hvb.mono h3.size)
    have ho3 := (H2.out.2.1.past b3 H2.out.2.1.inside)
    have H3 := Lib.hid (And.intro hV' (ho3.past hvb ho3.inside))
    clear b3 hu3 hvb hul h3 hV' ho3 y3
    go_wp2_with fail
    rw [← hV]
    clear hV
    refine y4.out.mono ?_
    rintro _ w4 ⟨A4, c4, e, rfl, hp, hu4, ho4, b4, hlo⟩
    simp only [List.map_cons, List.map_nil] at hp
    simp only [List.map_cons, List.map_nil]
    have h4 : Below w.heap.size w w4 := H3.out.1.trans (b4.mono H3.out.1.size)
    have hoo := H3.out.2.past b4 H3.out.2.inside
    have hlen : e.length ≤ 1099511627776 := by
      have := consL_len [advL f l]
      rw [← hp, List.length_map] at this
      simp only [List.flatten_cons, List.flatten_nil, List.append_nil] at this
      omega
    obtain ⟨E, hE⟩ : ∃ E, consE [advL f l] = E := ⟨_, rfl⟩
    rw [hE]
    have hbe : bldE f l = E := H1.out.2.2.2.trans hE
    by_cases h0 : E = 0
    case neg =>
      have t1 : (E != 0) = true := bne_iff_ne.2 h0
      have f0 := hoo.open_ 0
      have f1 := hoo.open_ 1
      obtain ⟨d0, d1⟩ := own2 hoo
      have H4 := Lib.hid (And.intro h4 (And.intro hoo (And.intro hbe h0)))
      clear h4 hoo hbe h0 hE hp hu4 ho4 b4 hlo hlen y4
      go_wp2_with fail
      have hX := ((H4.out.2.1.set_ 0 (.slice none 0 0)).set_ 1 (.slice none 0 0))
      obtain ⟨x0, x1⟩ := own2 hX
      have HB := Lib.hid ((H4.out.1.setCell (p := ⟨G, 0, none⟩) (Nat.le_of_eq HG.out.symm) (.slice none 0 0)).setCell (p := ⟨G, 1, none⟩) (Nat.le_of_eq HG.out.symm) (.slice none 0 0))
      have HE := Lib.hid H4.out.2.2
      clear hX f0 f1 d0 d1
      exact bodyPost_ret (v := .tuple #[.agg #[.slice none 0 0, .slice none 0 0], .int .i64 E]) (by simp [results, Tryz.results68, go_sem, x0, x1]) rfl (by rw [HLE.out]; exact ⟨Bt.nil, by rw [HE.out.1]; rfl, fun h => absurd (HE.out.1.symm.trans h) HE.out.2, fun _ => rfl, bt_nil_in _ _, bt_nil_ok, bt_nil_lo _, HB.out⟩)
    subst h0
    have y5 := Lib.hid (listT_times A c f w4 ((HL.out.1.past h4 (Nat.le_refl _)).wide h4.size) (by omega))
    have H4 := Lib.hid (And.intro h4 (And.intro hoo (And.intro hbe (And.intro hp (And.intro hu4 (And.intro ho4 (And.intro hlo hlen)))))))
    clear h4 hoo hbe hE hp hu4 ho4 b4 hlo hlen y4
    go_wp2_with fail
    refine y5.out.mono ?_
    rintro _ w5 ⟨A5, rfl, ht5, hl5, b5⟩
    have h5 : Below w.heap.size w w5 := H4.out.1.trans (b5.mono H4.out.1.size)
    have ho5 := H4.out.2.1.past b5 H4.out.2.1.inside
    have f0 := ho5.open_ 0
    have f1 := ho5.open_ 1
    obtain ⟨d0, d1⟩ := own2 ho5
    have H5 := Lib.hid (And.intro h5 (And.intro ho5 (And.intro ht5 (And.intro hl5 (H4.out.2.2.2.2.1.keep b5)))))
    clear h5 ho5 ht5 hl5 b5 y5
    go_wp2_with fail
    have hX := ((H5.out.2.1.set_ 0 (.slice A5 f.length f.length)).set_ 1 (.slice A4 e.length c4))
    obtain ⟨x0, x1⟩ := own2 hX
    have HB := Lib.hid ((H5.out.1.setCell (p := ⟨G, 0, none⟩) (Nat.le_of_eq HG.out.symm) (.slice A5 f.length f.length)).setCell (p := ⟨G, 1, none⟩) (Nat.le_of_eq HG.out.symm) (.slice A4 e.length c4))
    clear hX f0 f1 d0 d1
    exact bodyPost_ret (v := .tuple #[.agg #[.slice A5 f.length f.length, .slice A4 e.length c4], .int .i64 0]) (by simp [results, Tryz.results68, go_sem, x0, x1]) rfl (by
      rw [HLE.out]
      have hs1 := H4.out.1.size
      have hs3 := H3.out.2.inside
      obtain ⟨s1, s2⟩ := set2_other w5 G (.slice A5 f.length f.length) (.slice A4 e.length c4)
      exact ⟨⟨A5, f.length, f, A4, c4, e⟩, by rw [H4.out.2.2.1]; rfl, fun _ => ⟨H1.out.2.2.1, rfl, H4.out.2.2.2.1⟩, fun h => absurd H4.out.2.2.1 h,
        ⟨times_other H5.out.2.2.1 (fun b o h => by have h1 := (H5.out.2.2.2.1 b o h).1; have h2 := H4.out.2.1.inside; omega) s1 s2, ups_other H5.out.2.2.2.2 (H4.out.2.2.2.2.2.2.1.mono hs3) s1 s2⟩,
        ⟨⟨hfn, Nat.le_refl _, by show f.length ≤ maxLen; unfold maxLen; omega⟩, ⟨H4.out.2.2.2.2.2.2.2, H4.out.2.2.2.2.2.1⟩⟩, ⟨fun b o h => Nat.le_trans H4.out.1.size (H5.out.2.2.2.1 b o h).1, H4.out.2.2.2.2.2.2.1.mono H3.out.1.size⟩, HB.out⟩)
structure WSt (base P : Nat) (m : Mg) (i j k : Nat) (v : Value) (o : List Up) (w : World) : Prop where
  own : Own w P 218 (mcells m i j v k)
  row : w.ownsRow base 49 6 v o.length (o.flatMap Up.cells)
  vP : v.ownBlock ≠ some P
  a : Ups w w.heap.size m.aA m.a
  b : Ups w w.heap.size m.bA m.b
  f : Times w w.heap.size m.sA m.f
  o_ : ∀ u ∈ o, UIn w w.heap.size u
  xa : Off P v m.aA m.a
  xb : Off P v m.bA m.b
  xf : OffR P v m.sA m.f.length
  xo : ∀ u ∈ o, OffU P v u
  ok : ∀ u ∈ o, UOk u
  base_ : base ≤ P
  lo : ∀ u ∈ o, ∀ b o', (u.kA = some (⟨b, o', none⟩ : Addr) ∨ u.rA = some (⟨b, o', none⟩ : Addr)) → base ≤ b
theorem WSt.past {base P : Nat} {m : Mg} {i j k : Nat} {v : Value} {o : List Up} {w w' : World} (h : WSt base P m i j k v o w) (hb : Below w.heap.size w w') : WSt base P m i j k v o w' :=
  ⟨h.own.past hb h.own.inside, own_below h.row hb, h.vP, h.a.keep hb, h.b.keep hb, (h.f.past hb (Nat.le_refl _)).wide hb.size, fun u hu => (h.o_ u hu).keep hb, h.xa, h.xb, h.xf, h.xo, h.ok, h.base_, h.lo⟩
theorem valsF {w w' : World} {P : Nat} {v : Value} {A : Option Addr} {l : List Vl} (h : Vals w w.heap.size A l) (hx : OffR P v A l.length) (hs : w.heap.size ≤ w'.heap.size) (hk : ∀ b, b < w.heap.size → b ≠ P → v.ownBlock ≠ some b → w'.heap[b]? = w.heap[b]?) : Vals w' w'.heap.size A l := fun hp => by
  obtain ⟨b, o, e, hb, hc⟩ := h hp
  obtain ⟨h1, h2⟩ := hx hp b o e
  have hh : ∀ j, w'.cell? ⟨b, j, none⟩ = w.cell? ⟨b, j, none⟩ := fun j => by unfold World.cell?; rw [hk b hb h1 h2]
  refine ⟨b, o, e, Nat.lt_of_lt_of_le hb hs, fun i x hi => ?_⟩
  obtain ⟨a0, a1, a2⟩ := hc i x hi
  exact ⟨(hh _).trans a0, (hh _).trans a1, (hh _).trans a2⟩
theorem uinF {w w' : World} {P : Nat} {v : Value} {u : Up} (h : UIn w w.heap.size u) (hx : OffU P v u) (hs : w.heap.size ≤ w'.heap.size) (hk : ∀ b, b < w.heap.size → b ≠ P → v.ownBlock ≠ some b → w'.heap[b]? = w.heap[b]?) : UIn w' w'.heap.size u := ⟨valsF h.key hx.1 hs hk, valsF h.row hx.2 hs hk⟩
theorem upsF {w w' : World} {P : Nat} {v : Value} {A : Option Addr} {l : List Up} (h : Ups w w.heap.size A l) (hx : Off P v A l) (hs : w.heap.size ≤ w'.heap.size) (hk : ∀ b, b < w.heap.size → b ≠ P → v.ownBlock ≠ some b → w'.heap[b]? = w.heap[b]?) : Ups w' w'.heap.size A l := ⟨fun hp => by
  obtain ⟨b, o, e, hb, hc⟩ := h.head hp
  obtain ⟨h1, h2⟩ := hx.1 hp b o e
  exact ⟨b, o, e, Nat.lt_of_lt_of_le hb hs, fun i x hi j u hj => by
    rw [← hc i x hi j u hj]
    unfold World.cell?
    rw [hk b hb h1 h2]⟩, fun u hu => uinF (h.each_ u hu) (hx.2 u hu) hs hk⟩
theorem timesF {w w' : World} {P : Nat} {v : Value} {A : Option Addr} {l : List Tm} (h : Times w w.heap.size A l) (hx : OffR P v A l.length) (hs : w.heap.size ≤ w'.heap.size) (hk : ∀ b, b < w.heap.size → b ≠ P → v.ownBlock ≠ some b → w'.heap[b]? = w.heap[b]?) : Times w' w'.heap.size A l := fun hp => by
  obtain ⟨b, o, e, hb, hc⟩ := h hp
  obtain ⟨h1, h2⟩ := hx hp b o e
  have hh : ∀ j, w'.cell? ⟨b, j, none⟩ = w.cell? ⟨b, j, none⟩ := fun j => by unfold World.cell?; rw [hk b hb h1 h2]
  refine ⟨b, o, e, Nat.lt_of_lt_of_le hb hs, fun i x hi => ?_⟩
  obtain ⟨a0, a1, a2⟩ := hc i x hi
  exact ⟨(hh _).trans a0, (hh _).trans a1, (hh _).trans a2⟩
theorem offR_next {w : World} {P : Nat} {v v' : Value} {A : Option Addr} {n : Nat} (h : OffR P v A n) (hv : v'.ownBlock = v.ownBlock ∨ v'.ownBlock = some w.heap.size) (hA : 0 < n → ∃ b o, A = some ⟨b, o, none⟩ ∧ b < w.heap.size) : OffR P v' A n := fun hp b o e => by
  obtain ⟨h1, h2⟩ := h hp b o e
  refine ⟨h1, ?_⟩
  rcases hv with hv | hv
  · rw [hv]; exact h2
  · obtain ⟨b', o', e', hb⟩ := hA hp
    rw [e'] at e
    simp only [Option.some.injEq, Addr.mk.injEq, and_true] at e
    rw [hv]
    intro h
    injection h with h
    omega
theorem vals_ad {w : World} {B : Nat} {A : Option Addr} {l : List Vl} (h : Vals w B A l) : 0 < l.length → ∃ b o, A = some ⟨b, o, none⟩ ∧ b < B := fun hp => by obtain ⟨b, o, e, hb, _⟩ := h hp; exact ⟨b, o, e, hb⟩
theorem lies_ad {α : Type} {size : Nat} {cells : α → List Value} {w : World} {B : Nat} {A : Option Addr} {l : List α} (h : Lies size cells w B A l) : 0 < l.length → ∃ b o, A = some ⟨b, o, none⟩ ∧ b < B := fun hp => by obtain ⟨b, o, e, hb, _⟩ := h hp; exact ⟨b, o, e, hb⟩
theorem times_ad {w : World} {B : Nat} {A : Option Addr} {l : List Tm} (h : Times w B A l) : 0 < l.length → ∃ b o, A = some ⟨b, o, none⟩ ∧ b < B := fun hp => by obtain ⟨b, o, e, hb, _⟩ := h hp; exact ⟨b, o, e, hb⟩
theorem offU_next {w : World} {P : Nat} {v v' : Value} {u : Up} (h : OffU P v u) (hv : v'.ownBlock = v.ownBlock ∨ v'.ownBlock = some w.heap.size) (hu : UIn w w.heap.size u) : OffU P v' u := ⟨offR_next h.1 hv (vals_ad hu.key), offR_next h.2 hv (vals_ad hu.row)⟩
theorem off_next {w : World} {P : Nat} {v v' : Value} {A : Option Addr} {l : List Up} (h : Off P v A l) (hv : v'.ownBlock = v.ownBlock ∨ v'.ownBlock = some w.heap.size) (hu : Ups w w.heap.size A l) : Off P v' A l := ⟨offR_next h.1 hv (lies_ad hu.head), fun u hm => offU_next (h.2 u hm) hv (hu.each_ u hm)⟩
theorem WSt.push {base P : Nat} {m : Mg} {i j k i' j' k' : Nat} {v v' : Value} {o e : List Up} {w w1 w2 : World} (h : WSt base P m i j k v o w) (hrow : w1.ownsRow base 49 6 v' (o ++ e).length ((o ++ e).flatMap Up.cells)) (hg : w.grownBy w1 v.ownBlock) (hv : v'.ownBlock = v.ownBlock ∨ v'.ownBlock = some w.heap.size)
    (he : ∀ u ∈ e, UIn w w.heap.size u) (hlo : ∀ u ∈ e, OffU P v u) (hek : ∀ u ∈ e, UOk u) (hel : ∀ u ∈ e, ∀ b o', (u.kA = some (⟨b, o', none⟩ : Addr) ∨ u.rA = some (⟨b, o', none⟩ : Addr)) → base ≤ b) (hP : Own w2 P 218 (mcells m i' j' v' k')) (h2 : w1.grownBy w2 (some P)) : WSt base P m i' j' k' v' (o ++ e) w2 := by
  have hPin := h.own.inside
  have hs : w.heap.size ≤ w2.heap.size := Nat.le_trans hg.size h2.size
  have hk : ∀ b, b < w.heap.size → b ≠ P → v.ownBlock ≠ some b → w2.heap[b]? = w.heap[b]? := fun b hb h3 h4 => (h2.block b (Nat.lt_of_lt_of_le hb hg.size) (by simpa using h3)).trans (hg.block b hb (Ne.symm h4))
  have hvP : v'.ownBlock ≠ some P := by
    rcases hv with hv | hv
    · rw [hv]; exact h.vP
    · rw [hv]; intro hh; injection hh with hh; omega
  have hin : ∀ u ∈ o ++ e, UIn w w.heap.size u := fun u hu => by
    rcases List.mem_append.1 hu with hu | hu
    · exact h.o_ u hu
    · exact he u hu
  have hof : ∀ u ∈ o ++ e, OffU P v u := fun u hu => by
    rcases List.mem_append.1 hu with hu | hu
    · exact h.xo u hu
    · exact hlo u hu
  exact ⟨hP, World.ownsRow.kept hrow h2 (.inr hvP), hvP, upsF h.a h.xa hs hk, upsF h.b h.xb hs hk, timesF h.f h.xf hs hk, fun u hu => uinF (hin u hu) (hof u hu) hs hk, off_next h.xa hv h.a, off_next h.xb hv h.b, offR_next h.xf hv (times_ad h.f), fun u hu => offU_next (hof u hu) hv (hin u hu), fun u hu => by
    rcases List.mem_append.1 hu with hu | hu
    · exact h.ok u hu
    · exact hek u hu, h.base_, fun u hu => by
    rcases List.mem_append.1 hu with hu | hu
    · exact h.lo u hu
    · exact hel u hu⟩
theorem part_lies {A : Option Addr} {l : List Up} {i n : Nat} {w : World} (hl : Ups w w.heap.size A l) (hA : l = [] → A = none) (hn : i + n ≤ l.length) : ∃ A1, partV A i n = .slice A1 n n ∧ Ups w w.heap.size A1 ((l.drop i).take n) ∧ (n = 0 → A1 = none ∨ ∃ b o, A1 = some ⟨b, o, none⟩) := by
  by_cases hp : 0 < l.length
  · obtain ⟨b, o, rfl, hb, hc⟩ := hl.head hp
    refine ⟨subA b o i n, rfl, ⟨fun hlen => ?_, fun u hu => hl.each_ u (List.mem_of_mem_drop (List.mem_of_mem_take hu))⟩, fun h => .inr ⟨b, o, by unfold subA; rw [if_pos h]⟩⟩
    have hn0 : n ≠ 0 := by intro h; rw [h] at hlen; simp at hlen
    refine ⟨b, o + i * 6, by unfold subA; rw [if_neg hn0], hb, fun q x hq j u hj => ?_⟩
    have hx : l[i + q]? = some x := by
      rw [List.getElem?_take] at hq
      split at hq
      · rwa [List.getElem?_drop] at hq
      · cases hq
    have := hc (i + q) x hx j u hj
    rwa [show o + i * 6 + q * 6 + j = o + (i + q) * 6 + j by omega]
  · have h0 : l = [] := List.eq_nil_of_length_eq_zero (by omega)
    obtain rfl := hA h0
    have hn0 : n = 0 := by rw [h0] at hn; simp at hn; omega
    subst hn0
    exact ⟨none, rfl, ⟨fun h => by simp at h, fun u hu => by simp at hu⟩, fun _ => .inl rfl⟩
set_option maxRecDepth 100000 in
set_option maxHeartbeats 3200000 in
theorem grpS_all (cap : Value) (p : Up → Bool) (A : Option Addr) (c : Nat) (l : List Up) (i : Nat) (w : World) (hl : Ups w w.heap.size A l) (hA : l = [] → A = none) (hc : l.length ≤ c) (hcm : c ≤ 4611686018427387904) (hi : i ≤ l.length) (hp : Asks 191 cap p l w) :
    Calls Tryz.prog 193 #[.slice A l.length c, .int .i64 (i : Int), .func (.func 191) #[] #[cap]] w fun x w' => x = .returned (partV A i ((l.drop i).takeWhile p).length) ∧ Below w.heap.size w w' := by
  by_cases hpos : 0 < l.length
  · obtain ⟨b, o, rfl, _, _⟩ := hl.head hpos
    exact grpS_any cap p b o c l i w hl hc hcm hi hp
  · have h0 : l = [] := List.eq_nil_of_length_eq_zero (by omega)
    obtain rfl := hA h0
    subst h0
    obtain rfl : i = 0 := by simpa using hi
    clear hl hp hA hpos hc hi
    go_enter Tryz.func193, Tryz.ntmps193
    go_wp2_with fail
    go_loopw [7] (fun v7 wr => v7 = .int .i64 0 ∧ wr = w) (fun _ _ => 0)
    case atStart => exact ⟨rfl, rfl⟩
    case round =>
      obtain ⟨rfl, rfl⟩ := hrel
      go_wp2_with fail
      go_ret
      exact ⟨rfl, Below.refl _ _⟩
theorem badvance_n (A : Option Addr) (c n : Nat) (l : List Up) (A' : Option Addr) (c' : Nat) (f : List Tm) (w : World) (hnl : l.length = n) (hl : Ups w w.heap.size A l) (hn : l.length ≤ 1099511627776) (hf : Times w w.heap.size A' f) (hfo : TsOk f c') :
    Calls Tryz.prog 106 #[.slice A n c, .slice A' f.length c'] w fun x w' => ∃ A2, x = .returned (.slice A2 n n) ∧ Ups w' w'.heap.size A2 (advL f l) ∧ Below w.heap.size w w' := by
  subst hnl
  exact (badvance_any A c l A' c' f w hl hn hf hfo).mono fun x w' ⟨A2, h1, h2, _, h3⟩ => ⟨A2, h1, h2, h3⟩
theorem cons_n (A : Option Addr) (n : Nat) (l : List Up) (w : World) (hnl : l.length = n) (hl : Ups w w.heap.size A l) (hok : ∀ u ∈ l, UOk u) (hn : n ≤ 1099511627776) :
    Calls Tryz.prog 13 #[.slice (some ⟨w.heap.size, 0, none⟩) 1 1] (w.alloc (.cells #[.slice A n n] 22)) (UpsNew (consL [l]) (consE [l]) (w.alloc (.cells #[.slice A n n] 22))) := by
  subst hnl
  obtain ⟨V, hV, hvb, hul⟩ := one_list w A l.length l hl
  have := consolidate_new (some ⟨w.heap.size, 0, none⟩) 1 _ V hul (fun s hs u hu => by
    obtain rfl : s = ⟨A, l.length, l⟩ := by simpa using hs
    exact hok u hu) (by simpa [flatR] using hn) (by simp)
  rw [hV] at this
  exact this
def Steps (base P : Nat) (m : Mg) (i j k : Nat) (v : Value) (o : List Up) (w : World) (x : Ending) (w' : World) : Prop :=
  ∃ (u : Up) (E : Int), nextM (m.a.drop i) (m.b.drop j) = some u ∧ E = consE [advL m.f (grp u (m.a.drop i) ++ grp u (m.b.drop j))] ∧ x = .returned (.int .i64 E) ∧ Below base w w' ∧
    ((E ≠ 0 ∧ WSt base P m i j k v o w') ∨ (E = 0 ∧ ∃ (v' : Value) (e : List Up), e.map Up.p = consL [advL m.f (grp u (m.a.drop i) ++ grp u (m.b.drop j))] ∧ WSt base P m (i + (grp u (m.a.drop i)).length) (j + (grp u (m.b.drop j)).length) (k + ((grp u (m.a.drop i)).length + (grp u (m.b.drop j)).length)) v' (o ++ e) w'))
theorem grp_take (u : Up) (l : List Up) (i : Nat) : (l.drop i).take ((l.drop i).takeWhile fun x => decide (plc x u = 0)).length = grp u (l.drop i) := by
  unfold grp
  have := List.takeWhile_append_dropWhile (p := fun x => decide (plc x u = 0)) (l := l.drop i)
  conv => lhs; arg 2; rw [← this]
  rw [List.take_left]
theorem own_since {w : World} {P i j k : Nat} {m : Mg} {v : Value} (h : Own w P 218 (mcells m i j v k)) : w.cell? ⟨P, 4, none⟩ = some (.slice m.sA m.f.length m.sc) := h.at_ 4
set_option maxRecDepth 100000 in
set_option maxHeartbeats 12800000 in
theorem step_anyB (base P : Nat) (m : Mg) (i j k : Nat) (v : Value) (o : List Up) (w : World) (h : WSt base P m i j k v o w) (hna : m.a = [] → m.aA = none) (hnb : m.b = [] → m.bA = none) (oa : UsOk m.a) (ob : UsOk m.b) (of : TsOk m.f m.sc) (hac : m.ac = m.a.length) (hbc : m.bc = m.b.length)
    (hi : i ≤ m.a.length) (hj : j ≤ m.b.length) (hl : i < m.a.length ∨ j < m.b.length) (hk : k ≤ 4398046511104) (hsz : o.length + (m.a.length - i) + (m.b.length - j) ≤ 824633720832) :
    Calls Tryz.prog 155 #[.pointer (some ⟨P, 0, none⟩)] w (Steps base P m i j k v o w) := by
  obtain ⟨i0, hi0, hz0, hz1, hz2⟩ := info_parts infoUp
  have HI := Lib.hid (And.intro Tryz.underlying22 (And.intro hi0 (And.intro hz0 (And.intro hz1 hz2))))
  have na := oa.n
  have nb := ob.n
  have y0 := Lib.hid (next_any P m i j k v w h.own h.a oa h.b ob hi hj hl)
  have HL := Lib.hid (And.intro h (And.intro (And.intro hna hnb) (And.intro (And.intro oa ob) (And.intro of (And.intro hac hbc)))))
  clear h hna hnb oa ob of hac hbc hi0 hz0 hz1 hz2
  go_enter Tryz.func155, Tryz.ntmps155
  go_wp2_with fail
  refine y0.out.mono ?_
  rintro _ w1 ⟨u, hnx, hum, rfl, b1⟩
  have h1 := HL.out.1.past b1
  obtain ⟨V, hV, hvb, hvs, hvo⟩ := upbox w1 u
  have hVw := h1.past hvb
  have huI : UIn V V.heap.size u := by
    rcases hum with hm | hm
    · exact hVw.a.each_ u hm
    · exact hVw.b.each_ u hm
  have huO : UOk u := by
    rcases hum with hm | hm
    · exact HL.out.2.2.1.1.ok u hm
    · exact HL.out.2.2.1.2.ok u hm
  have hac := HL.out.2.2.2.2.1
  have hbc := HL.out.2.2.2.2.2
  have ha1 : m.a.length ≤ m.ac := by rw [hac]; exact Nat.le_refl _
  have ha2 : m.ac ≤ 4611686018427387904 := by rw [hac]; omega
  have hb1' : m.b.length ≤ m.bc := by rw [hbc]; exact Nat.le_refl _
  have hb2' : m.bc ≤ 4611686018427387904 := by rw [hbc]; omega
  have hask1 := fun p : Past V => asks_step w1.heap.size u m.a p.w (hvo.past p.h hvo.inside) (huI.keep p.h) huO (fun x hx => (hVw.past p.h).a.each_ x hx) HL.out.2.2.1.1.ok
  have hask2 := fun p : Past V => asks_step w1.heap.size u m.b p.w (hvo.past p.h hvo.inside) (huI.keep p.h) huO (fun x hx => (hVw.past p.h).b.each_ x hx) HL.out.2.2.1.2.ok
  have u1 := fun p : Past V => calls_past (grpS_all (.pointer (some ⟨w1.heap.size, 0, none⟩)) (fun x => decide (plc x u = 0)) m.aA m.ac m.a i p.w (hVw.past p.h).a HL.out.2.1.1 ha1 ha2 hi (hask1 p))
  have u2 := fun p : Past V => calls_past (grpS_all (.pointer (some ⟨w1.heap.size, 0, none⟩)) (fun x => decide (plc x u = 0)) m.bA m.bc m.b j p.w (hVw.past p.h).b HL.out.2.1.2 hb1' hb2' hj (hask2 p))
  have g1l : ((m.a.drop i).takeWhile fun x => decide (plc x u = 0)).length ≤ m.a.length - i := by have := (List.takeWhile_sublist (fun x : Up => decide (plc x u = 0)) (l := m.a.drop i)).length_le; rwa [List.length_drop] at this
  have g2l : ((m.b.drop j).takeWhile fun x => decide (plc x u = 0)).length ≤ m.b.length - j := by have := (List.takeWhile_sublist (fun x : Up => decide (plc x u = 0)) (l := m.b.drop j)).length_le; rwa [List.length_drop] at this
  obtain ⟨A1, e1, hu1, hn1⟩ := part_lies (i := i) (n := ((m.a.drop i).takeWhile fun x => decide (plc x u = 0)).length) hVw.a HL.out.2.1.1 (by omega)
  obtain ⟨A2, e2, hu2, hn2⟩ := part_lies (i := j) (n := ((m.b.drop j).takeWhile fun x => decide (plc x u = 0)).length) hVw.b HL.out.2.1.2 (by omega)
  rw [grp_take] at hu1 hu2
  have hg1 : ((m.a.drop i).takeWhile fun x => decide (plc x u = 0)) = grp u (m.a.drop i) := rfl
  have hg2 : ((m.b.drop j).takeWhile fun x => decide (plc x u = 0)) = grp u (m.b.drop j) := rfl
  rw [hg1] at e1 g1l hn1
  rw [hg2] at e2 g2l hn2
  simp only [hg1, e1] at u1
  simp only [hg2, e2] at u2
  have hC := fun p : Past V => own7 ((hVw.past p.h).own)
  have hok1 : ∀ x ∈ grp u (m.a.drop i), UOk x := fun x hx => HL.out.2.2.1.1.ok x (List.mem_of_mem_drop ((List.takeWhile_sublist _).subset hx))
  have hok2 : ∀ x ∈ grp u (m.b.drop j), UOk x := fun x hx => HL.out.2.2.1.2.ok x (List.mem_of_mem_drop ((List.takeWhile_sublist _).subset hx))
  obtain ⟨g1, hgg1⟩ : ∃ g1, grp u (m.a.drop i) = g1 := ⟨_, rfl⟩
  obtain ⟨g2, hgg2⟩ : ∃ g2, grp u (m.b.drop j) = g2 := ⟨_, rfl⟩
  have HU := Lib.hid (And.intro hnx (And.intro hgg1 hgg2))
  rw [hgg1] at u1 hu1 hn1 hok1 g1l
  rw [hgg2] at u2 hu2 hn2 hok2 g2l
  have HB := Lib.hid (b1.trans (hvb.mono b1.size))
  have HV := Lib.hid (And.intro hVw (And.intro hu1 (And.intro hu2 (And.intro hn1 (And.intro hn2 (And.intro hok1 hok2))))))
  clear b1 h1 hvb hvs hvo hVw huI huO hac hbc ha1 ha2 hb1' hb2' hask1 hask2 e1 e2 hu1 hu2 hn1 hn2 hg1 hg2 hok1 hok2 hgg1 hgg2 hnx hum y0
  go_upto_region 3 with fail
  rw [← hV]
  clear hV
  refine wp_region_past V (by kernel_rfl) (by kernel_rfl) (Below.refl _ _) ?_
  repeat (first | go_big_quiet_step (fail) | quiet_step (fail))
  quiet_step ((go_at_call 193; exact u1 _))
  repeat (first | go_big_quiet_step (fail) | quiet_step (fail))
  quiet_step ((go_at_call 193; exact u2 _))
  repeat (first | go_big_quiet_step (fail) | quiet_step (fail))
  refine wpQuiet_nil ?_
  intro wz hw'
  obtain ⟨⟨wy, hbz⟩, hw''⟩ := hw'
  dsimp only at hw''
  subst hw''
  obtain ⟨W4, hW4⟩ : ∃ W4, W4 = wz := ⟨_, rfl⟩
  subst hW4
  have h4 := HV.out.1.past hbz
  have c4 := own_since h4.own
  have hgu1 := HV.out.2.1.keep hbz
  have hgu2 := HV.out.2.2.1.keep hbz
  have hself := Bl.refl W4
  have HS := Lib.hid (fun W (hb : Bl W4 W) => own_since (h4.past hb).own)
  have HF := Lib.hid (fun W (hb : Bl W4 W) => (h4.past hb).f)
  have H4 := Lib.hid (And.intro (HB.out.trans (hbz.mono HB.out.size)) (And.intro h4 (And.intro hgu1 hgu2)))
  have hlap : ∀ (A3 : Option Addr) (W : World), Bl W4 W → Lies 6 Up.cells W W.heap.size A3 (g1 ++ g2) → Ups W W.heap.size A3 (g1 ++ g2) := fun A3 W hb hL => ⟨hL, fun x hx => by
    rcases List.mem_append.1 hx with hx | hx
    · exact ((hgu1.each_ x hx).keep hb)
    · exact ((hgu2.each_ x hx).keep hb)⟩
  have HLP := Lib.hid hlap
  have hlen : (g1 ++ g2).length = g1.length + g2.length := List.length_append
  have y1 := fun (A3 : Option Addr) (c3 : Nat) (W : World) (hb : Bl W4 W) (hL : Lies 6 Up.cells W W.heap.size A3 (g1 ++ g2)) => Lib.hid (badvance_n A3 c3 (g1.length + g2.length) (g1 ++ g2) m.sA m.sc m.f W hlen (HLP.out A3 W hb hL) (by omega) (HF.out W hb) HL.out.2.2.2.1)
  have y2 := fun (A5 : Option Addr) (W : World) (hu : Ups W W.heap.size A5 (advL m.f (g1 ++ g2))) => Lib.hid (cons_n A5 (g1.length + g2.length) (advL m.f (g1 ++ g2)) W ((advL_len _ _).trans hlen) hu (advL_ok fun x hx => by
    rcases List.mem_append.1 hx with hx | hx
    · exact HV.out.2.2.2.2.2.1 x hx
    · exact HV.out.2.2.2.2.2.2 x hx) (by omega))
  have HG := Lib.hid (And.intro hlen (And.intro g1l g2l))
  have hm63 : g1.length + g2.length ≤ maxLen := by unfold maxLen; omega
  have hm47 : (g1.length + g2.length) * 80 ≤ 140737488355328 := by omega
  have HM := Lib.hid (And.intro hm63 hm47)
  clear hbz h4 hgu1 hgu2 hC u1 u2 hlap hlen g1l g2l hm63 hm47
  go_upto_region 4 with fail
  go_region_held3 (fun w' => Bl W4 w' ∧ w'.cell? ⟨P, 4, none⟩ = some (.slice m.sA m.f.length m.sc))
    ((refine (fun h => And.intro h (HS.out _ h)) ?_; repeat (first | with_reducible exact hb6 | with_reducible exact hb5 | with_reducible exact hb4 | with_reducible exact hself | with_reducible refine Bl.more ?_ _ | with_reducible refine Bl.drew ?_)))
    (first | ((refine step_append_both _ (by rfl) (.tmp 37) (.tmp 38) 22 49 (by rfl) i0 _ 80 HI.out.1 HI.out.2.1 HI.out.2.2.1 HI.out.2.2.2.1 HI.out.2.2.2.2 rfl (by decide) ucells_len ucells_one (l := g1) (l' := g2) (A := A1) (A' := A2) H4.out.2.2.1.head H4.out.2.2.2.head (fun e => HV.out.2.2.2.1 (by rw [e]; rfl)) (fun e => HV.out.2.2.2.2.1 (by rw [e]; rfl)) HM.out.1 HM.out.2 (by rfl) (by rfl) ?_); intro A3 c3 w4 hL4 hbe4; have hb4 : Bl W4 w4 := Bl.call hself.drew hbe4) | (go_at_call 106; refine (y1 _ _ _ hb4 hL4).out.mono ?_; rintro _ w5 ⟨A5, rfl, hu5, bb5⟩; have hb5 : Bl W4 w5 := Bl.call hb4 bb5) | (go_at_call 13; refine (y2 _ _ hu5).out.mono ?_; rintro _ w6 ⟨A6, c6, e, rfl, hp6, hu6, ho6, bb6, hlo6⟩; have hb6 : Bl W4 w6 := Bl.call (Bl.more hb5 _) bb6))
  obtain ⟨E, hE⟩ : ∃ E, consE [advL m.f (g1 ++ g2)] = E := ⟨_, rfl⟩
  rw [hE]
  have h6 := H4.out.2.1.past hb6
  have hbw : Below w.heap.size w w6 := H4.out.1.trans (hb6.below.mono H4.out.1.size)
  have hwP : base ≤ w.heap.size := Nat.le_trans HL.out.1.base_ (Nat.le_of_lt HL.out.1.own.inside)
  have hUE := Lib.hid (show E = consE [advL m.f (grp u (m.a.drop i) ++ grp u (m.b.drop j))] from by rw [HU.out.2.1, HU.out.2.2]; exact hE.symm)
  have H6 := Lib.hid (And.intro h6 (And.intro (hbw.mono hwP) (And.intro hp6 (And.intro hu6 (And.intro ho6 hlo6)))))
  by_cases h0 : E = 0
  case neg =>
    have t1 : (E != 0) = true := bne_iff_ne.2 h0
    have H0 := Lib.hid h0
    clear hE h6 hbw hwP h0 hp6 hu6 ho6 hlo6 hb6 bb6 hb5 bb5 hu5 hb4 hbe4 hL4 y1 y2 c4 hself
    go_wp2_with fail
    go_ret
    exact ⟨u, E, HU.out.1, hUE.out, rfl, H6.out.2.1, .inl ⟨H0.out, H6.out.1⟩⟩
  subst h0
  have hlen6 : e.length ≤ g1.length + g2.length := by
    have := consL_len [advL m.f (g1 ++ g2)]
    rw [← hp6, List.length_map] at this
    simp only [List.flatten_cons, List.flatten_nil, List.append_nil, advL_len] at this
    rw [HG.out.1] at this
    exact this
  have hg1 := HG.out.2.1
  have hg2 := HG.out.2.2
  have hsz6 : o.length + e.length ≤ 824633720832 := by omega
  have hbs : base ≤ w6.heap.size := Nat.le_trans hwP hbw.size
  obtain ⟨c0, c1, c2, c3', c4', c5, c6'⟩ := own7 h6.own
  have hw5 : w.heap.size ≤ w5.heap.size := Nat.le_trans H4.out.1.size hb5.below.size
  have hfar : ∀ x ∈ e, OffU P v x := fun x hx => by
    have hP := HL.out.1.own.inside
    have hg : ∀ b, v.ownBlock = some b → b < w.heap.size := fun b hb => (HL.out.1.row.lt b hb).2
    have k : ∀ b o', (x.kA = some (⟨b, o', none⟩ : Addr) ∨ x.rA = some (⟨b, o', none⟩ : Addr)) → b ≠ P ∧ v.ownBlock ≠ some b := fun b o' hb => by
      have h9 := hlo6.2 x hx b o' hb
      simp at h9
      exact ⟨by omega, fun h => by have := hg b h; omega⟩
    exact ⟨fun _ b o' hb => k b o' (.inl hb), fun _ b o' hb => k b o' (.inr hb)⟩
  have hlow : ∀ x ∈ e, ∀ b o', (x.kA = some (⟨b, o', none⟩ : Addr) ∨ x.rA = some (⟨b, o', none⟩ : Addr)) → base ≤ b := fun x hx b o' hb => by
    have h9 := hlo6.2 x hx b o' hb
    simp at h9
    omega
  have H7 := Lib.hid (And.intro hsz6 (And.intro hbs (And.intro hlen6 (And.intro hfar hlow))))
  have hE' := Lib.hid hE
  clear hE h6 hbw hwP hp6 hu6 ho6 hlo6 hb6 bb6 hb5 bb5 hu5 hb4 hbe4 hL4 y1 y2 c4 hself hlen6 hbs hw5 hfar hlow
  go_wp2_with (at_builtin; refine wpList_append_liesG _ rfl (.tmp 58) (.tmp 59) 22 49 rfl i0 _ 80 HI.out.1 HI.out.2.1 HI.out.2.2.1 HI.out.2.2.2.1 HI.out.2.2.2.2 rfl (by decide) ucells_len ucells_one base v o.length (o.flatMap Up.cells) rfl H6.out.1.row c6 rfl H6.out.2.2.2.1.head ?m1 ?m2 H7.out.2.1 ?m3)
  case m1 => have := H7.out.1; unfold maxLen; omega
  case m2 => have := H7.out.1; omega
  intro v7 w7 ho7 hg7 hv7
  obtain ⟨A7, c7, hve, _, _, _⟩ := lies_of_own (size := 6) (cells := Up.cells) (l := o ++ e) (by decide) ucells_len (show o.length + e.length = (o ++ e).length from List.length_append.symm) (by rw [List.flatMap_append]; exact ho7)
  rw [List.length_append] at hve
  subst hve
  have hP7 : Own w7 P 218 (mcells m i j v k) := (hg7.block P H6.out.1.own.inside (fun h => H6.out.1.vP h.symm)).trans H6.out.1.own
  clear c0 c1 c2 c3' c4' c5 c6'
  obtain ⟨c0, c1, c2, c3', c4', c5, c6'⟩ := own7 hP7
  have z2 := hP7.open_ 2
  have z3 := hP7.open_ 3
  have z5 := hP7.open_ 5
  have z6 := hP7.open_ 6
  have H8 := Lib.hid (And.intro ho7 (And.intro hg7 (And.intro hv7 hP7)))
  clear ho7 hg7 hv7 hP7
  have q1 : i + g1.length ≤ 2199023255552 := by omega
  have q2 : j + g2.length ≤ 2199023255552 := by omega
  have q3 : k + (g1.length + g2.length) ≤ 8796093022208 := by omega
  go_wp2_with fail
  go_ret
  have hX : Own ((((w7.setCell ⟨P, 5, none⟩ (.slice A7 (o.length + e.length) c7)).setCell ⟨P, 2, none⟩ (.int .i64 ((i : Int) + (g1.length : Int)))).setCell ⟨P, 3, none⟩ (.int .i64 ((j : Int) + (g2.length : Int)))).setCell ⟨P, 6, none⟩ (.int .i64 ((k : Int) + ((g1.length : Int) + (g2.length : Int))))) P 218 (mcells m (i + g1.length) (j + g2.length) (.slice A7 (o.length + e.length) c7) (k + (g1.length + g2.length))) :=
    own_of ((((H8.out.2.2.2.set_ 5 _).set_ 2 _).set_ 3 _).set_ 6 _) (by simp [mcells])
  have hG : w7.grownBy ((((w7.setCell ⟨P, 5, none⟩ (.slice A7 (o.length + e.length) c7)).setCell ⟨P, 2, none⟩ (.int .i64 ((i : Int) + (g1.length : Int)))).setCell ⟨P, 3, none⟩ (.int .i64 ((j : Int) + (g2.length : Int)))).setCell ⟨P, 6, none⟩ (.int .i64 ((k : Int) + ((g1.length : Int) + (g2.length : Int))))) (some P) :=
    ⟨rfl, rfl, rfl, by simp [World.setCell], fun b _ hne => by
      have hne : b ≠ P := by simpa using hne
      rw [Below.heap_setCell _ ⟨P, 6, none⟩ _ b hne, Below.heap_setCell _ ⟨P, 3, none⟩ _ b hne, Below.heap_setCell _ ⟨P, 2, none⟩ _ b hne, Below.heap_setCell _ ⟨P, 5, none⟩ _ b hne]⟩
  have hBl := (H6.out.2.1.grown H8.out.2.1 H7.out.2.1 (fun b hb => (H6.out.1.row.lt b hb).1)).setCell (p := ⟨P, 5, none⟩) HL.out.1.base_ (.slice A7 (o.length + e.length) c7) |>.setCell (p := ⟨P, 2, none⟩) HL.out.1.base_ (.int .i64 ((i : Int) + (g1.length : Int))) |>.setCell (p := ⟨P, 3, none⟩) HL.out.1.base_ (.int .i64 ((j : Int) + (g2.length : Int))) |>.setCell (p := ⟨P, 6, none⟩) HL.out.1.base_ (.int .i64 ((k : Int) + ((g1.length : Int) + (g2.length : Int))))
  refine ⟨u, 0, HU.out.1, hUE.out, rfl, hBl, .inr ⟨rfl, .slice A7 (o.length + e.length) c7, e, by rw [HU.out.2.1, HU.out.2.2]; exact H6.out.2.2.1, ?_⟩⟩
  rw [HU.out.2.1, HU.out.2.2]
  exact H6.out.1.push (by rw [List.length_append, List.flatMap_append]; exact H8.out.1) H8.out.2.1 H8.out.2.2.1 H6.out.2.2.2.1.each_ H7.out.2.2.2.1 H6.out.2.2.2.2.1 H7.out.2.2.2.2 hX hG
def curM (m : Mg) (i j k : Nat) (o : List Up) : MS := ⟨m.a.take i, m.a.drop i, m.b.take j, m.b.drop j, o.map Up.p, k, 0⟩
theorem grp_take' (u : Up) (l : List Up) (i : Nat) : grp u (l.drop i) = (l.drop i).take (grp u (l.drop i)).length := (grp_take u l i).symm
theorem cur_step (m : Mg) (i j k : Nat) (o e : List Up) (u : Up) (he : e.map Up.p = consL [advL m.f (grp u (m.a.drop i) ++ grp u (m.b.drop j))]) :
    (curM m i j k o).step m.f u = curM m (i + (grp u (m.a.drop i)).length) (j + (grp u (m.b.drop j)).length) (k + ((grp u (m.a.drop i)).length + (grp u (m.b.drop j)).length)) (o ++ e) := by
  unfold curM MS.step
  dsimp only
  congr 1
  · conv => lhs; arg 2; rw [grp_take']
    rw [← List.take_add]
  · rw [List.drop_drop]
  · conv => lhs; arg 2; rw [grp_take']
    rw [← List.take_add]
  · rw [List.drop_drop]
  · rw [List.map_append, he]
theorem work_none {f : List Tm} {fuel : Int} {s : MS} (h : nextM s.ra s.rb = none) : ∀ n, workM f fuel n s = s
  | 0 => rfl
  | n + 1 => by
    unfold workM
    rw [h]
    split <;> rfl
theorem work_full {f : List Tm} {fuel : Int} {s : MS} (h : ¬ (s.cost : Int) < fuel) : ∀ n, workM f fuel n s = s
  | 0 => rfl
  | n + 1 => by unfold workM; rw [if_neg h]
theorem work_more {f : List Tm} {fuel : Int} {s : MS} {u : Up} {n : Nat} (h : (s.cost : Int) < fuel) (hu : nextM s.ra s.rb = some u) (hE : consE [advL f (grp u s.ra ++ grp u s.rb)] = 0) : workM f fuel (n + 1) s = workM f fuel n (s.step f u) := by
  rw [workM, if_pos h, hu]
  exact if_pos hE
theorem work_err {f : List Tm} {fuel : Int} {s : MS} {u : Up} {n : Nat} (h : (s.cost : Int) < fuel) (hu : nextM s.ra s.rb = some u) (hE : consE [advL f (grp u s.ra ++ grp u s.rb)] ≠ 0) : workM f fuel (n + 1) s = { s with E := consE [advL f (grp u s.ra ++ grp u s.rb)] } := by
  rw [workM, if_pos h, hu]
  exact if_neg hE
theorem grp_lens (u : Up) (l : List Up) (i : Nat) : (grp u (l.drop i)).length ≤ l.length - i := by have := grp_le u (l.drop i); rwa [List.length_drop] at this
structure WorkOk (m m' : Mg) (fuel c E : Int) : Prop where
  a : m'.a.map Up.p = m.a.map Up.p
  b : m'.b.map Up.p = m.b.map Up.p
  f : m'.f = m.f
  s : ∃ n s, (m.a.length - m.i.toNat) + (m.b.length - m.j.toNat) = n ∧ s = workM m.f fuel n (startM m'.a m.i.toNat m'.b m.j.toNat (m.o.map Up.p)) ∧ c = (s.cost : Int) ∧ E = s.E ∧ m'.i = (s.ta.length : Int) ∧ m'.j = (s.tb.length : Int) ∧ m'.o.map Up.p = s.out
def Worked (m : Mg) (fuel : Int) (w : World) (x : Ending) (w' : World) : Prop :=
  ∃ (m' : Mg) (c E : Int), x = .returned (.tuple #[m'.val, .int .i64 c, .int .i64 E]) ∧ (¬ MOk m ∧ m' = Mg.nil ∧ c = 0 ∧ E = 8 ∨ MOk m ∧ WorkOk m m' fuel c E) ∧ MgIn w' w'.heap.size m' ∧ MgOk m' ∧ MgLo w.heap.size m' ∧ Below w.heap.size w w'
theorem wst_start {base : Nat} {w V : World} {m : Mg} {i j : Nat} (hm : MgIn w w.heap.size m) (hok : MgOk m) (ha : MgApart w base m) (hi : m.i = (i : Int)) (hj : m.j = (j : Int)) (hb : base ≤ w.heap.size) (hlo : MgLo base m) (hV : V = w.alloc (.cells (mcells m i j (.slice m.oA m.o.length m.oc) 0).toArray 218)) :
    WSt base w.heap.size m i j 0 (.slice m.oA m.o.length m.oc) m.o V := by
  have hbV : Below w.heap.size w V := by rw [hV]; exact (Below.refl _ _).alloc (Nat.le_refl _) _
  have hP : Own V w.heap.size 218 (mcells m i j (.slice m.oA m.o.length m.oc) 0) := by rw [hV]; exact Own.made w _ _
  exact ⟨hP, own_below ha.row hbV, fun h => by have := (ha.row.lt _ h).2; omega, hm.a.keep hbV, hm.b.keep hbV, (hm.f.past hbV (Nat.le_refl _)).wide hbV.size, fun u hu => (hm.o.each_ u hu).keep hbV, ha.a, ha.b, ha.f, ha.o, hok.o.ok, hb, hlo.o.2⟩
structure OnWay (m : Mg) (i j : Nat) : Prop where
  front : FrontOk m.f
  a : EvenP m.a
  b : EvenP m.b
  fine : FineM m.f m.a i m.b j (m.o.map Up.p)
  i_ : m.i = (i : Int)
  j_ : m.j = (j : Int)
theorem OnWay.ok {m : Mg} {i j : Nat} (h : OnWay m i j) : MOk m := by
  unfold MOk
  rw [h.i_, h.j_]
  exact finem_ok h.fine h.front h.a h.b rfl
theorem start_way {m : Mg} (hf : FrontOk m.f) (ha : EvenP m.a) (hb : EvenP m.b) (hi : m.i = 0) (hj : m.j = 0) (ho : m.o = []) : OnWay m 0 0 := ⟨hf, ha, hb, by rw [ho]; exact finem_start _ _ _, hi, hj⟩
def leftN (m : Mg) (i j : Nat) : Nat := (m.a.length - i) + (m.b.length - j)
def outM (m : Mg) (i j : Nat) (oA : Option Addr) (oc : Nat) (o : List Up) : Mg := ⟨m.aA, m.ac, m.a, m.bA, m.bc, m.b, (i : Int), (j : Int), m.sA, m.sc, m.f, oA, oc, o⟩
theorem work_fin {m m1 : Mg} {i1 j1 i j k n N oc : Nat} {o : List Up} {oA : Option Addr} {fuel E : Int} (hs : MgSame m m1) (hw : workM m1.f fuel N (curM m1 i1 j1 0 m1.o) = workM m1.f fuel n (curM m1 i j k o)) (hi : i ≤ m1.a.length) (hj : j ≤ m1.b.length)
    (hN : (m.a.length - m.i.toNat) + (m.b.length - m.j.toNat) = N ∧ m.i.toNat = i1 ∧ m.j.toNat = j1) (hend : workM m1.f fuel n (curM m1 i j k o) = { curM m1 i j k o with E := E }) :
    ∃ n s, (m.a.length - m.i.toNat) + (m.b.length - m.j.toNat) = n ∧ s = workM m.f fuel n (startM (outM m1 i j oA oc o).a m.i.toNat (outM m1 i j oA oc o).b m.j.toNat (m.o.map Up.p)) ∧ ((k : Nat) : Int) = (s.cost : Int) ∧ E = s.E ∧ (outM m1 i j oA oc o).i = (s.ta.length : Int) ∧ (outM m1 i j oA oc o).j = (s.tb.length : Int) ∧ (outM m1 i j oA oc o).o.map Up.p = s.out := by
  refine ⟨N, { curM m1 i j k o with E := E }, hN.1, ?_, rfl, rfl, ?_, ?_, rfl⟩
  · rw [hN.2.1, hN.2.2, ← hs.f, ← hs.o]
    exact (hw.trans hend).symm
  · show (i : Int) = ((m1.a.take i).length : Int)
    rw [List.length_take, Nat.min_eq_left hi]
  · show (j : Int) = ((m1.b.take j).length : Int)
    rw [List.length_take, Nat.min_eq_left hj]
theorem cur_none {m : Mg} {i j k : Nat} {o : List Up} (hi : m.a.length ≤ i) (hj : m.b.length ≤ j) : nextM (curM m i j k o).ra (curM m i j k o).rb = none := by
  show nextM (m.a.drop i) (m.b.drop j) = none
  rw [List.drop_eq_nil_of_le hi, List.drop_eq_nil_of_le hj]; rfl
def partsM (m : Mg) : List Up := m.a.drop m.i.toNat ++ (m.b.drop m.j.toNat ++ m.o)
def leftM (m : Mg) : Nat := (m.a.length - m.i.toNat) + (m.b.length - m.j.toNat)
theorem work_shift (f : List Tm) (fuel : Int) (X Y : List Up) : ∀ (n : Nat) (s : MS), workM f fuel n { s with ta := X ++ s.ta, tb := Y ++ s.tb } = { workM f fuel n s with ta := X ++ (workM f fuel n s).ta, tb := Y ++ (workM f fuel n s).tb }
  | 0, _ => rfl
  | n + 1, s => by
    by_cases hlt : (s.cost : Int) < fuel
    · cases hu : nextM s.ra s.rb with
      | none =>
        have e1 : workM f fuel (n + 1) s = s := by unfold workM; rw [if_pos hlt, hu]
        have e2 : workM f fuel (n + 1) { s with ta := X ++ s.ta, tb := Y ++ s.tb } = { s with ta := X ++ s.ta, tb := Y ++ s.tb } := by unfold workM; rw [if_pos hlt]; dsimp only; rw [hu]
        rw [e1, e2]
      | some u =>
        by_cases hE : consE [advL f (grp u s.ra ++ grp u s.rb)] = 0
        · have e1 : workM f fuel (n + 1) s = workM f fuel n (s.step f u) := by rw [workM, if_pos hlt, hu]; exact if_pos hE
          have e2 : workM f fuel (n + 1) { s with ta := X ++ s.ta, tb := Y ++ s.tb } = workM f fuel n ({ s with ta := X ++ s.ta, tb := Y ++ s.tb }.step f u) := by rw [workM, if_pos hlt]; dsimp only; rw [hu]; exact if_pos hE
          have e3 : ({ s with ta := X ++ s.ta, tb := Y ++ s.tb } : MS).step f u = { s.step f u with ta := X ++ (s.step f u).ta, tb := Y ++ (s.step f u).tb } := by
            unfold MS.step
            dsimp only
            rw [List.append_assoc, List.append_assoc]
          rw [e1, e2, e3]
          exact work_shift f fuel X Y n (s.step f u)
        · have e1 : workM f fuel (n + 1) s = { s with E := consE [advL f (grp u s.ra ++ grp u s.rb)] } := by rw [workM, if_pos hlt, hu]; exact if_neg hE
          have e2 : workM f fuel (n + 1) { s with ta := X ++ s.ta, tb := Y ++ s.tb } = { s with ta := X ++ s.ta, tb := Y ++ s.tb, E := consE [advL f (grp u s.ra ++ grp u s.rb)] } := by rw [workM, if_pos hlt]; dsimp only; rw [hu]; exact if_neg hE
          rw [e1, e2]
    · have e1 : workM f fuel (n + 1) s = s := by unfold workM; rw [if_neg hlt]
      have e2 : workM f fuel (n + 1) { s with ta := X ++ s.ta, tb := Y ++ s.tb } = { s with ta := X ++ s.ta, tb := Y ++ s.tb } := by unfold workM; rw [if_neg hlt]
      rw [e1, e2]
theorem plup_last {l : List Up} (h : PlUp l) {z : Up} (hz : l[l.length - 1]? = some z) : ∀ x ∈ l, plc x z ≤ 0 := fun x hx => by
  obtain ⟨i, hi⟩ := List.getElem?_of_mem hx
  have h1 := (List.getElem?_eq_some_iff.1 hi).1
  by_cases e : i = l.length - 1
  · subst e
    rw [hi] at hz
    injection hz with hz
    rw [hz]
    exact Int.le_of_eq (plc_self _)
  · have h2 := (List.getElem?_eq_some_iff.1 hz)
    have h3 := (List.getElem?_eq_some_iff.1 hi)
    rw [← h2.2, ← h3.2]
    exact List.pairwise_iff_getElem.1 h i (l.length - 1) _ h2.1 (by omega)
theorem plup_head {l : List Up} (h : PlUp l) {z : Up} (hz : l[0]? = some z) : ∀ x ∈ l, plc z x ≤ 0 := by
  cases l with
  | nil => intro x hx; cases hx
  | cons y l =>
    obtain rfl : y = z := by simpa using hz
    exact head_le h
theorem drop_head {l : List Up} {i : Nat} : (l.drop i)[0]? = l[i]? := by rw [List.getElem?_drop, Nat.add_zero]
theorem div_sep {l o : List Up} {i : Int} (h : DivB l i o) (hl : PlUp l) (ho : PlUp o) : ∀ x ∈ o, ∀ y ∈ l.drop i.toNat, plc x y < 0 := fun x hx y hy => by
  have hn : 0 < o.length := List.length_pos_of_mem hx
  obtain ⟨z, hz⟩ : ∃ z, o[o.length - 1]? = some z := ⟨_, List.getElem?_eq_getElem (by omega)⟩
  have hp : 0 < (l.drop i.toNat).length := List.length_pos_of_mem hy
  obtain ⟨v, hv⟩ : ∃ v, (l.drop i.toNat)[0]? = some v := ⟨_, List.getElem?_eq_getElem hp⟩
  have h1 := h.past z v hz (drop_head.symm.trans hv)
  exact plc_lin.le_lt (plup_last ho hz x hx) (plc_lin.lt_le h1 (plup_head (plup_drop hl _) hv y hy))
theorem div_pp {l l' o : List Up} {i : Int} (h : l.map Up.p = l'.map Up.p) (k : DivB l i o) : DivB l' i o := by
  refine ⟨k.lo, by rw [← len_p h]; exact k.hi, fun x y h0 hx hy => ?_, fun z y hz hy => ?_⟩
  · have g : ∀ (n : Nat) (v : Up), l'[n]? = some v → ∃ v', l[n]? = some v' ∧ v'.p = v.p := fun n v hv => by
      have h1 : (l.map Up.p)[n]? = some v.p := by rw [h, List.getElem?_map, hv]; rfl
      rw [List.getElem?_map] at h1
      cases hl : l[n]? with
      | none => rw [hl] at h1; cases h1
      | some v' => rw [hl] at h1; exact ⟨v', rfl, by injection h1⟩
    obtain ⟨x', hx1, ex⟩ := g _ _ hx
    obtain ⟨y', hy1, ey⟩ := g _ _ hy
    rw [← plc_p ex ey]
    exact k.side x' y' h0 hx1 hy1
  · have h1 : (l.map Up.p)[i.toNat]? = some y.p := by rw [h, List.getElem?_map, hy]; rfl
    rw [List.getElem?_map] at h1
    cases hl : l[i.toNat]? with
    | none => rw [hl] at h1; cases h1
    | some v => rw [hl] at h1; injection h1 with h1; rw [← plc_p (rfl : z.p = z.p) h1]; exact k.past z v hz hl
theorem div_po {l l' o o' : List Up} {i : Int} (h : l.map Up.p = l'.map Up.p) (g : o.map Up.p = o'.map Up.p) (k : DivB l i o) : DivB l' i o' := by
  have k2 := div_pp h k
  refine ⟨k2.lo, k2.hi, k2.side, fun z y hz hy => ?_⟩
  have h1 : (o.map Up.p)[o'.length - 1]? = some z.p := by rw [g, List.getElem?_map, hz]; rfl
  rw [List.getElem?_map] at h1
  cases hl : o[o'.length - 1]? with
  | none => rw [hl] at h1; cases h1
  | some v =>
    rw [hl] at h1
    injection h1 with h1
    rw [← plc_p h1 (rfl : y.p = y.p)]
    exact k2.past v y (by rw [len_p g]; exact hl) hy
theorem gen_fine {m : Mg} (h : MOk m) (ok : ∀ u ∈ m.o, UOk u) : MS.Fine m.f (m.o ++ m.a.drop m.i.toNat) (m.b.drop m.j.toNat) ⟨m.o, m.a.drop m.i.toNat, [], m.b.drop m.j.toNat, m.o.map Up.p, 0, 0⟩ := by
  have ho := even_nz h.even.2.2 ok
  have hid : advL m.f (m.o ++ []) = m.o := by rw [List.append_nil]; exact advL_id h.advd
  refine ⟨⟨fun x hx y hy => ?_, ?_, ?_⟩, rfl, rfl⟩
  · rw [List.append_nil] at hx
    rcases List.mem_append.1 hy with hy | hy
    · exact div_sep h.da (even_plc h.even.1) (even_plc h.even.2.2) x hx y hy
    · exact div_sep h.db (even_plc h.even.2.1) (even_plc h.even.2.2) x hx y hy
  · rw [hid]; exact ho.2
  · rw [hid]; exact ho.1.symm
theorem gen_plup {m : Mg} (h : MOk m) : PlUp (m.o ++ m.a.drop m.i.toNat) := by
  refine List.pairwise_append.2 ⟨even_plc h.even.2.2, plup_drop (even_plc h.even.1) _, fun x hx y hy => ?_⟩
  exact Int.le_of_lt (div_sep h.da (even_plc h.even.1) (even_plc h.even.2.2) x hx y hy)
theorem chk_drop {l : List Up} (h : chkUs l = 0) (n : Nat) : chkUs (l.drop n) = 0 := chkUs_all.2 fun u hu => chkUs_all.1 h u (List.mem_of_mem_drop hu)
theorem gen_chk {m : Mg} (h : MOk m) : chkUs (m.o ++ m.a.drop m.i.toNat ++ m.b.drop m.j.toNat) = 0 :=
  chkUs_join (chkUs_join h.even.2.2.2.2 (chk_drop h.even.1.2.2 _)) (chk_drop h.even.2.1.2.2 _)
theorem parts_chk {m : Mg} (h : MOk m) : chkUs (partsM m) = 0 := chkUs_join (chk_drop h.even.1.2.2 _) (chkUs_join (chk_drop h.even.2.1.2.2 _) h.even.2.2.2.2)
theorem div_next {l r o o' : List Up} {i : Int} {t : List Up} (h : DivB l i o) (e : l.drop i.toNat = t ++ r) (h1 : ∀ x ∈ t, ∀ y ∈ r, plc x y < 0) (h2 : ∀ z ∈ o', ∀ y ∈ r, plc z y < 0) : DivB l ((i.toNat + t.length : Nat) : Int) o' := by
  have hlo := h.lo
  have hhi := h.hi
  have hlen := congrArg List.length e
  rw [List.length_drop, List.length_append] at hlen
  have hr : l.drop (i.toNat + t.length) = r := by
    rw [← List.drop_drop, e, List.drop_left]
  have hm : ∀ y, l[(((i.toNat + t.length : Nat) : Int)).toNat]? = some y → y ∈ r := fun y hy => by
    rw [Int.toNat_natCast, ← drop_head (l := l), hr] at hy
    exact List.mem_of_getElem? hy
  refine ⟨by omega, by omega, fun x y hi hx hy => ?_, fun z y hz hy => h2 z (List.mem_of_getElem? hz) y (hm y hy)⟩
  rw [Int.toNat_natCast] at hx
  by_cases h0 : t.length = 0
  · rw [h0, Nat.add_zero] at hx hi hy
    exact h.side x y (by omega) hx (by rwa [Int.toNat_natCast] at hy)
  · have hx' : (l.drop i.toNat)[t.length - 1]? = some x := by
      rw [List.getElem?_drop, ← hx]
      congr 1
      omega
    rw [e, List.getElem?_append_left (by omega)] at hx'
    exact h1 x (List.mem_of_getElem? hx') y (hm y hy)
theorem work_gen {m m' : Mg} {fuel c E : Int} (h : WorkOk m m' fuel c E) (hm : MOk m) (ok : ∀ u ∈ m.o, UOk u) :
    ∃ k : Nat, c = (k : Int) ∧ MOk m' ∧ k + leftM m' = leftM m ∧ (E = 0 ∧ (leftM m' = 0 ∨ fuel ≤ k) ∧ (0 < fuel → 0 < leftM m → 0 < k) ∨ E = 10 ∧ consE [advL m.f (partsM m)] = 10) ∧ EqS m.f (partsM m') (partsM m) ∧ (partsM m').length ≤ (partsM m).length := by
  obtain ⟨n, s, hn, hs, hc, hE, hi, hj, ho⟩ := h.s
  have hpa : (m'.a.drop m.i.toNat).map Up.p = (m.a.drop m.i.toNat).map Up.p := drop_p h.a _
  have hpb : (m'.b.drop m.j.toNat).map Up.p = (m.b.drop m.j.toNat).map Up.p := drop_p h.b _
  -- the merger with the lists of the other one
  obtain ⟨q, hq⟩ : ∃ q : Mg, q = { m' with i := m.i, j := m.j, o := m.o } := ⟨_, rfl⟩
  have qa : q.a = m'.a := by rw [hq]
  have qb : q.b = m'.b := by rw [hq]
  have qi : q.i = m.i := by rw [hq]
  have qj : q.j = m.j := by rw [hq]
  have qo : q.o = m.o := by rw [hq]
  have qf : q.f = m.f := by rw [hq]; exact h.f
  have mq : MOk q := by
    unfold MOk at hm ⊢
    rw [qa, qb, qi, qj, qo, qf]
    exact ⟨⟨even_p h.a.symm hm.even.1, even_p h.b.symm hm.even.2.1, hm.even.2.2⟩, hm.front, hm.advd, div_pp h.a.symm hm.da, div_pp h.b.symm hm.db⟩
  have hfr := hm.front.right
  have gf := gen_fine mq (by rw [qo]; exact ok)
  have gp := gen_plup mq
  have gc := gen_chk mq
  rw [qf, qo, qa, qi, qb, qj] at gf
  rw [qo, qa, qi] at gp
  rw [qo, qa, qi, qb, qj] at gc
  obtain ⟨C, hC⟩ : ∃ C : MS, C = ⟨[], m'.a.drop m.i.toNat, [], m'.b.drop m.j.toNat, m.o.map Up.p, 0, 0⟩ := ⟨_, rfl⟩
  have e1 : startM m'.a m.i.toNat m'.b m.j.toNat (m.o.map Up.p) = { C with ta := m'.a.take m.i.toNat ++ C.ta, tb := m'.b.take m.j.toNat ++ C.tb } := by
    rw [hC]; unfold startM; simp only [List.append_nil]
  have e2 : (⟨m.o, m'.a.drop m.i.toNat, [], m'.b.drop m.j.toNat, m.o.map Up.p, 0, 0⟩ : MS) = { C with ta := m.o ++ C.ta, tb := [] ++ C.tb } := by
    rw [hC]; simp only [List.append_nil]
  have hla := len_p h.a
  have hlb := len_p h.b
  rw [e2] at gf
  have hC0 : C.cost = 0 := by rw [hC]
  have hCE : C.E = 0 := by rw [hC]
  have hCl : C.left = n := by rw [hC, ← hn]; unfold MS.left; dsimp only; rw [List.length_drop, List.length_drop, hla, hlb]
  obtain ⟨w1, w2, w3, w4, _⟩ := work_fine hfr gc gp (plup_drop (even_plc (even_p h.b.symm hm.even.2.1)) _) fuel n { C with ta := m.o ++ C.ta, tb := [] ++ C.tb } hCE (Nat.le_of_eq hCl) gf
  rw [work_shift] at w1 w2 w3 w4
  rw [e1, work_shift] at hs
  obtain ⟨D, hD⟩ : ∃ D, D = workM m.f fuel n C := ⟨_, rfl⟩
  rw [← hD] at w1 w2 w3 w4 hs
  have sta : s.ta = m'.a.take m.i.toNat ++ D.ta := by rw [hs]
  have stb : s.tb = m'.b.take m.j.toNat ++ D.tb := by rw [hs]
  have sout : s.out = D.out := by rw [hs]
  have scost : s.cost = D.cost := by rw [hs]
  have sE : s.E = D.E := by rw [hs]
  have wl : (({ D with ta := m.o ++ D.ta, tb := [] ++ D.tb } : MS)).left = D.left := rfl
  have wl0 : (({ C with ta := m.o ++ C.ta, tb := [] ++ C.tb } : MS)).left = C.left := rfl
  rw [wl, wl0] at w2
  rw [wl, wl0] at w4
  dsimp only at w2 w3 w4
  rw [hC0] at w2 w3 w4
  have va := w1.a_
  have vb := w1.b_
  dsimp only at va vb
  rw [List.append_assoc] at va
  have va := List.append_cancel_left va
  rw [List.nil_append] at vb
  have hlo := hm.da.lo
  have hhi := hm.da.hi
  have hlo2 := hm.db.lo
  have hhi2 := hm.db.hi
  have lsta : s.ta.length = m.i.toNat + D.ta.length := by rw [sta, List.length_append, List.length_take]; omega
  have lstb : s.tb.length = m.j.toNat + D.tb.length := by rw [stb, List.length_append, List.length_take]; omega
  have ei : m'.i.toNat = m.i.toNat + D.ta.length := by rw [hi, Int.toNat_natCast, lsta]
  have ej : m'.j.toNat = m.j.toNat + D.tb.length := by rw [hj, Int.toNat_natCast, lstb]
  have dra : m'.a.drop m'.i.toNat = D.ra := by rw [ei, ← List.drop_drop, ← va, List.drop_left]
  have drb : m'.b.drop m'.j.toNat = D.rb := by rw [ej, ← List.drop_drop, ← vb, List.drop_left]
  have hleft : leftM m' = D.left := by
    unfold leftM MS.left
    rw [← dra, ← drb, List.length_drop, List.length_drop]
  have hleft0 : leftM m = C.left := by unfold leftM; rw [hCl, ← hn]
  have inv := w1.inv
  dsimp only at inv
  have hoD : m'.o.map Up.p = D.out := ho.trans sout
  have hcT : chkUs (m.o ++ D.ta ++ ([] ++ D.tb)) = 0 := chkUs_all.2 fun u hu => chkUs_all.1 gc u (by
    rw [← va, ← vb]
    simp only [List.mem_append, List.not_mem_nil, false_or] at hu ⊢
    rcases hu with (hu | hu) | hu
    · exact .inl (.inl hu)
    · exact .inl (.inr (.inl hu))
    · exact .inr (.inl hu))
  have hev := minv_even inv hfr hcT hoD
  have had := minv_advd inv hoD
  have hah := minv_ahead inv hoD
  have hmok : MOk m' := by
    unfold MOk
    rw [h.f]
    refine ⟨⟨even_p h.a.symm hm.even.1, even_p h.b.symm hm.even.2.1, hev⟩, hm.front, had, ?_, ?_⟩
    · rw [hi, lsta]
      exact div_next (div_pp h.a.symm hm.da) va.symm (fun x hx y hy => inv.sep x (List.mem_append_left _ (List.mem_append_right _ hx)) y (List.mem_append_left _ hy)) fun z hz y hy => hah z hz y (List.mem_append_left _ hy)
    · rw [hj, lstb]
      exact div_next (div_pp h.b.symm hm.db) vb.symm (fun x hx y hy => inv.sep x (List.mem_append_right _ (List.mem_append_right _ hx)) y (List.mem_append_right _ hy)) fun z hz y hy => hah z hz y (List.mem_append_right _ hy)
  have hpc := parts_chk hm
  have hpm : EqS m.f (partsM m') (partsM m) := by
    refine ⟨parts_chk hmok, hpc, fun k => ?_⟩
    have q1 : sumOf Uk.cmp ((advL m.f (partsM m)).map Up.p) k = sumOf Uk.cmp ((advL m.f (m.o ++ m'.a.drop m.i.toNat ++ m'.b.drop m.j.toNat)).map Up.p) k := by
      have r1 := advL_p m.f hpa
      have r2 := advL_p m.f hpb
      unfold partsM
      simp only [advL_append, List.map_append, sumOf_append]
      rw [r1, r2]
      omega
    have q2 : sumOf Uk.cmp ((advL m.f (m.o ++ m'.a.drop m.i.toNat ++ m'.b.drop m.j.toNat)).map Up.p) k = sumOf Uk.cmp ((advL m.f (m.o ++ D.ta ++ ([] ++ D.tb))).map Up.p) k + (sumOf Uk.cmp ((advL m.f D.ra).map Up.p) k + sumOf Uk.cmp ((advL m.f D.rb).map Up.p) k) := by
      rw [← va, ← vb]
      simp only [advL_append, List.map_append, sumOf_append, List.nil_append]
      omega
    have q3 : sumOf Uk.cmp ((advL m.f m'.o).map Up.p) k = sumOf Uk.cmp ((advL m.f (m.o ++ D.ta ++ ([] ++ D.tb))).map Up.p) k := by
      rw [advL_id (f := m.f) (l := m'.o) (fun u hu => had u hu), hoD, inv.out_, nz_sum uk_lin]
    rw [q1, q2, ← q3]
    unfold partsM
    rw [dra, drb]
    simp only [advL_append, List.map_append, sumOf_append]
    omega
  have hlen : (partsM m').length ≤ (partsM m).length := by
    have g1 : m'.o.length ≤ m.o.length + D.ta.length + D.tb.length := by
      have g0 : m'.o.length = D.out.length := by rw [← hoD, List.length_map]
      have g2 := nz_len (cmp := Uk.cmp) ((advL m.f (m.o ++ D.ta ++ ([] ++ D.tb))).map Up.p)
      rw [← inv.out_, List.length_map] at g2
      unfold advL at g2
      rw [List.length_map, List.length_append, List.length_append, List.length_append] at g2
      simp only [List.length_nil] at g2
      omega
    have g3 := congrArg List.length va
    have g4 := congrArg List.length vb
    rw [List.length_append, List.length_drop] at g3 g4
    unfold partsM
    rw [dra, drb]
    simp only [List.length_append, List.length_drop]
    omega
  refine ⟨D.cost, by rw [hc, scost], hmok, by rw [hleft, hleft0]; omega, ?_, hpm, hlen⟩
  rw [hleft, hleft0]
  rcases w4 with ⟨a1, a2, a3⟩ | ⟨a1, a2⟩
  · exact .inl ⟨by rw [hE, sE]; exact a1, a2, fun h1 h2 => by have := a3 h1 h2; omega⟩
  · refine .inr ⟨by rw [hE, sE]; exact a1, ?_⟩
    have hp : EqS m.f (m.o ++ m'.a.drop m.i.toNat ++ m'.b.drop m.j.toNat) (partsM m) := ⟨gc, hpc, fun k => by
      have r1 := advL_p m.f hpa
      have r2 := advL_p m.f hpb
      unfold partsM
      simp only [advL_append, List.map_append, sumOf_append]
      rw [r1, r2]
      omega⟩
    rw [← (hp.cons hfr).2]
    exact a2
structure Lv where
  cls : Int
  busy : Bool
  b : Bt
  m : Mg
instance : Inhabited Lv := ⟨⟨0, false, Bt.nil, Mg.nil⟩⟩
namespace Lv
def cells (l : Lv) : List Value := [.int .i64 l.cls, .bool l.busy, .slice l.b.sA l.b.f.length l.b.sc, .slice l.b.uA l.b.l.length l.b.uc, .slice l.m.aA l.m.a.length l.m.ac, .slice l.m.bA l.m.b.length l.m.bc, .int .i64 l.m.i, .int .i64 l.m.j, .slice l.m.sA l.m.f.length l.m.sc, .slice l.m.oA l.m.o.length l.m.oc]
def val (l : Lv) : Value := .agg #[.int .i64 l.cls, .bool l.busy, .slice l.b.sA l.b.f.length l.b.sc, .slice l.b.uA l.b.l.length l.b.uc, .slice l.m.aA l.m.a.length l.m.ac, .slice l.m.bA l.m.b.length l.m.bc, .int .i64 l.m.i, .int .i64 l.m.j, .slice l.m.sA l.m.f.length l.m.sc, .slice l.m.oA l.m.o.length l.m.oc]
end Lv
theorem lcells_one (l : Lv) : ∀ v ∈ l.cells, v.oneCell' = true := by
  intro v hv
  simp [Lv.cells] at hv
  rcases hv with rfl | rfl | rfl | rfl | rfl | rfl | rfl | rfl | rfl | rfl <;> rfl
def clsN (n : Nat) : Nat := if n = 0 then 0 else Nat.log2 n + 1
theorem cls_zero {n : Nat} : clsN n = 0 ↔ n = 0 := by
  unfold clsN
  split <;> simp_all
def partsL (l : Lv) : List Up := if l.busy = true then partsM l.m else l.b.l
def partsS (L : List Lv) : List Up := L.flatMap partsL
def cntL (l : Lv) : Nat := if l.busy = true then 2 else 1
def cntS (L : List Lv) : Nat := (L.map cntL).sum
def busyN (L : List Lv) : Nat := (L.filter fun l => l.busy).length
def wtL (l : Lv) : Nat := if l.busy = true then max (l.m.a.length + l.m.b.length) (partsM l.m).length else l.b.l.length
def wtS (L : List Lv) : Nat := (L.map wtL).sum
structure LvGood (f : List Tm) (l : Lv) : Prop where
  busy : l.busy = true → l.b.f = [] ∧ l.b.l = [] ∧ MOk l.m ∧ (clsN l.m.a.length : Int) = l.cls ∧ (clsN l.m.b.length : Int) = l.cls ∧ LaterF f l.m.f ∧ 0 < leftM l.m
  idle : l.busy = false → (l.m.a = [] ∧ l.m.b = [] ∧ l.m.i = 0 ∧ l.m.j = 0 ∧ l.m.f = [] ∧ l.m.o = []) ∧ BatchOk l.b.f l.b.l ∧ (clsN l.b.l.length : Int) = l.cls ∧ LaterF f l.b.f
structure SpGood (f : List Tm) (L : List Lv) : Prop where
  front : FrontOk f
  pos : ∀ l ∈ L, 1 ≤ l.cls
  fall : L.Pairwise fun x y => y.cls < x.cls
  each : ∀ l ∈ L, LvGood f l
theorem partsS_app (L M : List Lv) : partsS (L ++ M) = partsS L ++ partsS M := List.flatMap_append ..
theorem partsS_cons (l : Lv) (L : List Lv) : partsS (l :: L) = partsL l ++ partsS L := List.flatMap_cons ..
theorem cntS_app (L M : List Lv) : cntS (L ++ M) = cntS L + cntS M := by unfold cntS; rw [List.map_append, List.sum_append]
theorem cntS_cons (l : Lv) (L : List Lv) : cntS (l :: L) = cntL l + cntS L := by unfold cntS; rw [List.map_cons, List.sum_cons]
theorem wtS_app (L M : List Lv) : wtS (L ++ M) = wtS L + wtS M := by unfold wtS; rw [List.map_append, List.sum_append]
theorem wtS_cons (l : Lv) (L : List Lv) : wtS (l :: L) = wtL l + wtS L := by unfold wtS; rw [List.map_cons, List.sum_cons]
theorem busyN_app (L M : List Lv) : busyN (L ++ M) = busyN L + busyN M := by unfold busyN; rw [List.filter_append, List.length_append]
theorem busyN_cons (l : Lv) (L : List Lv) : busyN (l :: L) = (if l.busy = true then 1 else 0) + busyN L := by
  unfold busyN
  rw [List.filter_cons]
  split
  · rw [List.length_cons]; omega
  · omega
theorem LvGood.chk {f : List Tm} {l : Lv} (h : LvGood f l) : chkUs (partsL l) = 0 := by
  unfold partsL
  cases hb : l.busy
  · exact (h.idle hb).2.1.2.1.2.2
  · exact parts_chk (h.busy hb).2.2.1
theorem SpGood.chk {f : List Tm} {L : List Lv} (h : SpGood f L) : chkUs (partsS L) = 0 := chkUs_all.2 fun u hu => by
  obtain ⟨l, hl, hu⟩ := List.mem_flatMap.1 hu
  exact chkUs_all.1 (h.each l hl).chk u hu
theorem SpGood.sub {f : List Tm} {L M : List Lv} (h : SpGood f L) (hs : List.Sublist M L) : SpGood f M := ⟨h.front, fun l hl => h.pos l (hs.subset hl), h.fall.sublist hs, fun l hl => h.each l (hs.subset hl)⟩
theorem split_at' {L : List Lv} {i : Nat} {l : Lv} (h : L[i]? = some l) : L = L.take i ++ l :: L.drop (i + 1) := by
  have := (List.getElem?_eq_some_iff.1 h)
  rw [← this.2, ← List.drop_eq_getElem_cons this.1, List.take_append_drop]
structure PutTo (f : List Tm) (L L' : List Lv) (X : List Up) (n w : Nat) : Prop where
  good : SpGood f L'
  eq : EqS f (partsS L') (partsS L ++ X)
  cnt : cntS L' ≤ cntS L + n
  wt : wtS L' ≤ wtS L + w
theorem PutTo.refl {f : List Tm} {L : List Lv} (h : SpGood f L) (n w : Nat) : PutTo f L L [] n w := ⟨h, by rw [List.append_nil]; exact EqS.refl h.chk, by omega, by omega⟩
theorem put_new {f : List Tm} {L : List Lv} {i : Nat} {b : Bt} {c : Int} (h : SpGood f L) (hb : BatchOk b.f b.l) (hl : LaterF f b.f) (hc : (clsN b.l.length : Int) = c) (h1 : 1 ≤ c) (hi : ∀ l ∈ L.take i, c < l.cls) (hd : ∀ l ∈ L.drop i, l.cls < c) :
    PutTo f L (L.take i ++ ⟨c, false, b, Mg.nil⟩ :: L.drop i) b.l 1 b.l.length := by
  have hs := List.take_append_drop i L
  have hf := h.fall
  rw [← hs] at hf
  have hf := List.pairwise_append.1 hf
  have hnew : LvGood f ⟨c, false, b, Mg.nil⟩ := ⟨fun h => (by cases h), fun _ => ⟨⟨rfl, rfl, rfl, rfl, rfl, rfl⟩, hb, hc, hl⟩⟩
  have hmem : ∀ l ∈ L.take i ++ (⟨c, false, b, Mg.nil⟩ : Lv) :: L.drop i, l = ⟨c, false, b, Mg.nil⟩ ∨ l ∈ L := fun l hl => by
    rcases List.mem_append.1 hl with hl | hl
    · exact .inr (List.mem_of_mem_take hl)
    · rcases List.mem_cons.1 hl with hl | hl
      · exact .inl hl
      · exact .inr (List.mem_of_mem_drop hl)
  have hg : SpGood f (L.take i ++ ⟨c, false, b, Mg.nil⟩ :: L.drop i) := by
    refine ⟨h.front, fun l hl => ?_, ?_, fun l hl => ?_⟩
    · rcases hmem l hl with rfl | hl
      · exact h1
      · exact h.pos l hl
    · refine List.pairwise_append.2 ⟨hf.1, List.pairwise_cons.2 ⟨hd, hf.2.1⟩, fun x hx y hy => ?_⟩
      rcases List.mem_cons.1 hy with rfl | hy
      · exact hi x hx
      · exact hf.2.2 x hx y hy
    · rcases hmem l hl with rfl | hl
      · exact hnew
      · exact h.each l hl
  refine ⟨hg, EqS.perm hg.chk ?_, ?_, ?_⟩
  · have e : partsS L = partsS (L.take i) ++ partsS (L.drop i) := by rw [← partsS_app, hs]
    rw [partsS_app, partsS_cons, e, List.append_assoc]
    refine List.Perm.append_left _ ?_
    show (b.l ++ partsS (L.drop i)).Perm _
    exact List.perm_append_comm
  · have e : cntS L = cntS (L.take i) + cntS (L.drop i) := by rw [← cntS_app, hs]
    rw [cntS_app, cntS_cons, e]
    show _ + (1 + _) ≤ _
    omega
  · have e : wtS L = wtS (L.take i) + wtS (L.drop i) := by rw [← wtS_app, hs]
    rw [wtS_app, wtS_cons, e]
    show _ + (b.l.length + _) ≤ _
    omega
theorem put_start {f : List Tm} {L : List Lv} {i : Nat} {l : Lv} {b : Bt} {m : Mg} (h : SpGood f L) (hi : L[i]? = some l) (hidle : l.busy = false) (hb : BatchOk b.f b.l) (hl : LaterF f b.f) (hc : (clsN b.l.length : Int) = l.cls)
    (ha : m.a.map Up.p = l.b.l.map Up.p) (hbb : m.b.map Up.p = b.l.map Up.p) (h0 : m.i = 0) (h00 : m.j = 0) (hf : m.f = f) (ho : m.o = []) :
    PutTo f L (L.set i ⟨l.cls, true, Bt.nil, m⟩) b.l 1 b.l.length := by
  have hlt := (List.getElem?_eq_some_iff.1 hi).1
  have hL := split_at' hi
  have hset : L.set i ⟨l.cls, true, Bt.nil, m⟩ = L.take i ++ ⟨l.cls, true, Bt.nil, m⟩ :: L.drop (i + 1) := List.set_eq_take_append_cons_drop .. |>.trans (if_pos hlt)
  have hm := List.mem_of_getElem? hi
  have gi := (h.each l hm).idle hidle
  have hla := len_p ha
  have hlb := len_p hbb
  have hmok : MOk m := (start_way (m := m) (by rw [hf]; exact h.front) (even_p ha.symm gi.2.1.2.1) (even_p hbb.symm hb.2.1) h0 h00 ho).ok
  have hpm : partsM m = m.a ++ m.b := by unfold partsM; rw [h0, h00, ho]; simp
  have hp1 := h.pos l hm
  have hgl : LvGood f ⟨l.cls, true, Bt.nil, m⟩ := ⟨fun _ => ⟨rfl, rfl, hmok, by rw [hla]; exact gi.2.2.1, by rw [hlb]; exact hc, by rw [hf]; exact later_refl f, by
    have := gi.2.2.1
    have h5 : clsN l.b.l.length ≠ 0 := by omega
    have h6 : l.b.l.length ≠ 0 := fun e => h5 (cls_zero.2 e)
    show 0 < leftM m
    unfold leftM
    rw [h0, h00, hla]
    simp only [Int.toNat_zero]
    omega⟩, fun h => (by cases h)⟩
  have hmem : ∀ x ∈ L.take i ++ (⟨l.cls, true, Bt.nil, m⟩ : Lv) :: L.drop (i + 1), x = ⟨l.cls, true, Bt.nil, m⟩ ∨ x ∈ L := fun x hx => by
    rcases List.mem_append.1 hx with hx | hx
    · exact .inr (List.mem_of_mem_take hx)
    · rcases List.mem_cons.1 hx with hx | hx
      · exact .inl hx
      · exact .inr (List.mem_of_mem_drop hx)
  have hfl := h.fall
  rw [hL] at hfl
  have hfl := List.pairwise_append.1 hfl
  have hfc := List.pairwise_cons.1 hfl.2.1
  have hg : SpGood f (L.take i ++ ⟨l.cls, true, Bt.nil, m⟩ :: L.drop (i + 1)) := by
    refine ⟨h.front, fun x hx => ?_, ?_, fun x hx => ?_⟩
    · rcases hmem x hx with rfl | hx
      · exact hp1
      · exact h.pos x hx
    · refine List.pairwise_append.2 ⟨hfl.1, List.pairwise_cons.2 ⟨hfc.1, hfc.2⟩, fun x hx y hy => ?_⟩
      rcases List.mem_cons.1 hy with rfl | hy
      · exact hfl.2.2 x hx l List.mem_cons_self
      · exact hfl.2.2 x hx y (List.mem_cons_of_mem _ hy)
    · rcases hmem x hx with rfl | hx
      · exact hgl
      · exact h.each x hx
  rw [hset]
  have eL : partsS L = partsS (L.take i) ++ (l.b.l ++ partsS (L.drop (i + 1))) := by
    conv => lhs; rw [hL]
    rw [partsS_app, partsS_cons]
    unfold partsL
    rw [if_neg (by rw [hidle]; decide)]
  have eM : partsS (L.take i ++ ⟨l.cls, true, Bt.nil, m⟩ :: L.drop (i + 1)) = partsS (L.take i) ++ ((m.a ++ m.b) ++ partsS (L.drop (i + 1))) := by
    rw [partsS_app, partsS_cons, ← hpm]
    rfl
  refine ⟨hg, ?_, ?_, ?_⟩
  · have hk : chkUs (partsS L ++ b.l) = 0 := chkUs_join h.chk hb.2.1.2.2
    rw [eL] at hk
    rw [eL, eM]
    refine EqS.symm (EqS.trans (Y := partsS (L.take i) ++ ((l.b.l ++ b.l) ++ partsS (L.drop (i + 1)))) (EqS.perm hk ?_) (EqS.of_p ?_ ?_))
    · rw [List.append_assoc, List.append_assoc, List.append_assoc]
      exact List.Perm.append_left _ (List.Perm.append_left _ List.perm_append_comm)
    · refine chkUs_all.2 fun u hu => chkUs_all.1 hk u ?_
      simp only [List.mem_append] at hu ⊢
      rcases hu with hu | (hu | hu) | hu
      · exact .inl (.inl hu)
      · exact .inl (.inr (.inl hu))
      · exact .inr hu
      · exact .inl (.inr (.inr hu))
    · simp only [List.map_append]
      rw [ha, hbb]
  · have e : cntS L = cntS (L.take i) + (1 + cntS (L.drop (i + 1))) := by
      conv => lhs; rw [hL]
      rw [cntS_app, cntS_cons]
      unfold cntL
      rw [if_neg (by rw [hidle]; decide)]
    rw [cntS_app, cntS_cons, e]
    show _ + (2 + _) ≤ _
    omega
  · have e : wtS L = wtS (L.take i) + (l.b.l.length + wtS (L.drop (i + 1))) := by
      conv => lhs; rw [hL]
      rw [wtS_app, wtS_cons]
      unfold wtL
      rw [if_neg (by rw [hidle]; decide)]
    rw [wtS_app, wtS_cons, e]
    have e2 : wtL ⟨l.cls, true, Bt.nil, m⟩ = l.b.l.length + b.l.length := by
      show max (m.a.length + m.b.length) (partsM m).length = _
      rw [hpm, List.length_append, hla, hlb]
      omega
    rw [e2]
    omega
structure TookOut (f : List Tm) (L : List Lv) (i : Nat) (e : Bt) : Prop where
  good : SpGood f (L.eraseIdx i)
  ok : BatchOk e.f e.l
  later : LaterF f e.f
  eq : EqS f (partsS (L.eraseIdx i) ++ e.l) (partsS L)
  cnt : cntS (L.eraseIdx i) + 2 = cntS L
  wt : wtS (L.eraseIdx i) + e.l.length ≤ wtS L
  busy : busyN (L.eraseIdx i) + 1 = busyN L
theorem take_out {f : List Tm} {L : List Lv} {i : Nat} {l : Lv} {m' : Mg} {e : Bt} {fuel c E : Int} (h : SpGood f L) (hi : L[i]? = some l) (hb : l.busy = true) (ok : ∀ u ∈ l.m.o, UOk u) (hw : WorkOk l.m m' fuel c E) (hE : E = 0) (hl : leftM m' = 0) (he : e.f = m'.f) (hel : e.l.map Up.p = m'.o.map Up.p) :
    TookOut f L i e := by
  have hL := split_at' hi
  have hm := List.mem_of_getElem? hi
  have gi := (h.each l hm).busy hb
  obtain ⟨k, _, mok, _, _, heq, hlen⟩ := work_gen hw gi.2.2.1 ok
  have her : L.eraseIdx i = L.take i ++ L.drop (i + 1) := List.eraseIdx_eq_take_drop_succ ..
  have hpo : partsM m' = m'.o := by
    unfold partsM
    unfold leftM at hl
    rw [List.drop_eq_nil_of_le (by omega), List.drop_eq_nil_of_le (by omega)]
    rfl
  have hg : SpGood f (L.eraseIdx i) := h.sub (List.eraseIdx_sublist ..)
  have hff : m'.f = l.m.f := hw.f
  have lat : LaterF f e.f := by rw [he, hff]; exact gi.2.2.2.2.2.1
  have fr := mok.front
  have hlen2 := len_p hel
  have hpl : partsL l = partsM l.m := if_pos hb
  have hwl : wtL l = max (l.m.a.length + l.m.b.length) (partsM l.m).length := if_pos hb
  refine ⟨hg, ⟨by rw [he]; exact fr, even_p hel.symm mok.even.2.2, ?_⟩, lat, ?_, ?_, ?_, ?_⟩
  · rw [he]; exact advd_p hel.symm mok.advd
  · have e1 : EqS f e.l (partsM l.m) := by
      refine EqS.later (f := l.m.f) ?_ (hff ▸ fr).right gi.2.2.2.2.2.1
      rw [hpo] at heq
      exact EqS.trans (EqS.of_p (even_p hel.symm mok.even.2.2).2.2 hel) heq
    have e2 : EqS f (partsS (L.eraseIdx i) ++ e.l) (partsS (L.eraseIdx i) ++ partsM l.m) := EqS.app (EqS.refl hg.chk) e1
    refine e2.trans (EqS.perm e2.r ?_)
    conv => rhs; rw [hL]
    rw [her, partsS_app, partsS_app, partsS_cons, hpl, List.append_assoc]
    exact List.Perm.append_left _ List.perm_append_comm
  · have h1 : cntS L = cntS (L.take i) + (2 + cntS (L.drop (i + 1))) := by
      conv => lhs; rw [hL]
      rw [cntS_app, cntS_cons]
      unfold cntL
      rw [if_pos hb]
    rw [her, cntS_app, h1]
    omega
  · have h1 : wtS L = wtS (L.take i) + (wtL l + wtS (L.drop (i + 1))) := by
      conv => lhs; rw [hL]
      rw [wtS_app, wtS_cons]
    rw [hpo] at hlen
    rw [her, wtS_app, h1, hwl]
    omega
  · have h1 : busyN L = busyN (L.take i) + (1 + busyN (L.drop (i + 1))) := by
      conv => lhs; rw [hL]
      rw [busyN_app, busyN_cons, if_pos hb]
    rw [her, busyN_app, h1]
    omega
end Go.Proofs.YtjffohpdjicfpaaGreat
namespace Go.Proofs.YtjffohpdjicfpaaGreat
open Go Go.RowKit
theorem lvs_one (l : List Lv) : ∀ u ∈ l.flatMap Lv.cells, u.oneCell' = true := by
  intro u hu
  obtain ⟨f, _, hf⟩ := List.mem_flatMap.1 hu
  exact lcells_one f u hf
def zeroLv : Value := .agg #[.int .i64 0, .bool false, .slice none 0 0, .slice none 0 0, .slice none 0 0, .slice none 0 0, .int .i64 0, .int .i64 0, .slice none 0 0, .slice none 0 0]
theorem zeroLv_one : ∀ u ∈ zeroLv.cells.toList, u.oneCell' = true := fun u hu => List.all_eq_true.1 (by kernel_rfl : (zeroLv.cells.toList.all fun u => u.oneCell') = true) u hu
theorem infoLv : (Tryz.prog.info? 129).map (fun i => (i.zero, i.size, i.bytes)) = some (some zeroLv, 10, 176) := by kernel_rfl
theorem zeroOfLv (w : World) : (zeroValue 129).run Tryz.prog w = .ok zeroLv w := by
  obtain ⟨i0, hi, hz0, _⟩ := info_parts infoLv
  simp [zeroValue, typeInfo, hi, hz0]

theorem splice_takeS {l : List Value} {o : Nat} {vs : List Value} (h : o ≤ l.length) : (splice l o vs).take o = l.take o := by
  unfold splice
  rw [List.append_assoc, List.take_append_of_le_length (by simp; omega), List.take_take]
  simp
set_option maxRecDepth 100000 in
set_option maxHeartbeats 1600000 in
theorem delete_ownS (g n c i j : Nat) (cur : List Value) (w : World) (ho : Own w g 129 cur) (hn : n ≤ c) (hm : c ≤ maxLen) (hl : cur.length = c * 10) (hij : j = i + 1) (hj : j ≤ n) (h1 : ∀ u ∈ cur.take (n * 10), u.oneCell' = true) :
    Calls Tryz.prog 156 #[.slice (some ⟨g, 0, none⟩) n c, .int .i64 (i : Int), .int .i64 (j : Int)] w fun e w' => e = .returned (.slice (some ⟨g, 0, none⟩) (n - 1) c) ∧
      ∃ cur', Own w' g 129 cur' ∧ cur'.length = c * 10 ∧ cur'.take ((n - 1) * 10) = (cur.take (n * 10)).take (i * 10) ++ (cur.take (n * 10)).drop (j * 10) ∧ w.grownBy w' (some g) := by
  obtain ⟨i0, hi0, hz0, hz1, hz2⟩ := info_parts infoLv
  have hU := Tryz.underlying34
  unfold maxLen at hm
  obtain ⟨news, hnews⟩ : ∃ news, news = (cur.take (n * 10)).drop (j * 10) := ⟨_, rfl⟩
  have hlen : news.length = (n - j) * 10 := by rw [hnews]; simp; omega
  have ho1 : ∀ j, w.cell? ⟨g, j, none⟩ = cur[j]? := ho.at_
  obtain ⟨A, hA, hsrc⟩ : ∃ A : Addr, (if c = j then some (⟨g, 0, none⟩ : Addr) else some ⟨g, j * 10, none⟩) = some A ∧ Hid (∀ t u, news[t]? = some u → w.drew.cell? (A.add t) = some u) := by
    by_cases h : c = j
    · refine ⟨⟨g, 0, none⟩, by simp [h], Lib.hid (fun t u hu => ?_)⟩
      have h0 : news.length = 0 := by rw [hlen]; omega
      rw [List.length_eq_zero_iff.1 h0] at hu
      simp at hu
    · refine ⟨⟨g, j * 10, none⟩, by simp [h], Lib.hid (fun t u hu => ?_)⟩
      have ht : t < (n - j) * 10 := by
        have := (List.getElem?_eq_some_iff.1 hu).1
        rwa [hlen] at this
      have ea : (⟨g, j * 10, none⟩ : Addr).add t = ⟨g, j * 10 + t, none⟩ := by unfold Addr.add; split <;> simp_all
      rw [ea]
      show w.cell? _ = _
      rw [ho1]
      rw [hnews, List.getElem?_drop, List.getElem?_take] at hu
      split at hu
      · exact hu
      · cases hu
  have hone : ∀ u ∈ news, u.oneCell' = true := fun u hu => h1 u (by rw [hnews] at hu; exact List.mem_of_mem_drop hu)
  have happ : ∀ ty sc, Hid ((Builtin.append_ #[34, 34] ty #[.slice (some ⟨g, 0, none⟩) i c, .slice (some A) (n - j) sc]).run Tryz.prog w.drew = .ok (.slice (some ⟨g, 0, none⟩) (i + (n - j)) c) (w.drew.setRow g (splice cur (i * 10) news).toArray)) := fun ty sc => by
    have hl2 : news.length = (n - j) * i0.size := by rw [hlen, hz1]
    have hfit : i * i0.size + news.length ≤ cur.toArray.size := by rw [hz1, hlen]; simp; omega
    have hroom : i + (n - j) ≤ c := by omega
    have := run_append_room (P := Tryz.prog) w.drew 34 ty 129 i0 hU hi0 g i c cur.toArray ho A (n - j) sc news hl2 hsrc.out hone hroom hfit
    rw [hz1] at this
    exact Lib.hid (by simpa [splice] using this)
  obtain ⟨W1, hW1⟩ : ∃ W1, W1 = w.drew.setRow g (splice cur (i * 10) news).toArray := ⟨_, rfl⟩
  rw [← hW1] at happ
  have oW1 : Own W1 g 129 (splice cur (i * 10) news) := by rw [hW1]; exact own_rowK (w := w.drew) ho
  have hs1 : (splice cur (i * 10) news).length = cur.length := splice_len (by rw [hlen, hl]; omega)
  have hclr := fun ty cc => Lib.hid (run_clear_one (P := Tryz.prog) W1 34 129 ty 129 zeroLv hU zeroOfLv (zeroLv_one) g ((i + (n - j)) * 10) cc _ oW1 (by rw [hs1, hl]; simp [zeroLv, Value.cells]; omega))
  have HW := Lib.hid hW1
  have HO := Lib.hid oW1
  have hA2 := Lib.hid hA
  have q1 : n - (i + (n - j)) = 1 := by omega
  have q2 : i + (n - j) = n - 1 := by omega
  rw [q2] at hclr
  have hic : i ≤ c := by omega
  have hin : i ≤ n := by omega
  have hjc : j ≤ c := by omega
  have hlt : i < j := by omega
  have HJ := Lib.hid hij
  clear hW1 oW1 hsrc ho1 hij
  go_enter Tryz.func156, Tryz.ntmps156
  go_wp2_with fail
  go_region_law (refine step_append_known rfl (.tmp 22) (.tmp 25) 34 34 rfl (.slice (some ⟨g, 0, none⟩) i c) (.slice (some A) (n - j) (c - j)) (by simp [Act.eval, Act.put]) (by simp [Act.eval, Act.put]) (happ _ _).out ?_)
  have hn1 : (i : Int) + ((n - j : Nat) : Int) = ((n - 1 : Nat) : Int) := by have := HJ.out; omega
  have hq1 : n - (n - 1) = 1 := by omega
  obtain ⟨W2, hW2⟩ : ∃ W2, W2 = W1.setRow g (splice (splice cur (i * 10) news) ((n - 1) * 10) zeroLv.cells.toList).toArray := ⟨_, rfl⟩
  have hcl2 : ∀ ty, (Builtin.clear_ #[34] ty #[.slice (some ⟨g, (n - 1) * 10, none⟩) (n - (n - 1)) (c - (n - 1))]).run Tryz.prog W1 = .ok (.tuple #[]) W2 := fun ty => by rw [hq1, hW2]; exact (hclr ty _).out
  have HW2 := Lib.hid hW2
  clear hW2 hq1
  go_wp2_with fail
  go_ret
  have hsp := HO.out
  rw [HW2.out]
  refine ⟨rfl, _, own_rowK HO.out, ?_, ?_, ?_⟩
  · rw [splice_len (by rw [hs1, hl]; simp [zeroLv, Value.cells]; omega), hs1, hl]
  · have e1 : (splice (splice cur (i * 10) news) ((n - 1) * 10) zeroLv.cells.toList).take ((n - 1) * 10) = (splice cur (i * 10) news).take ((n - 1) * 10) := splice_takeS (by rw [hs1, hl]; omega)
    have e2 : (splice cur (i * 10) news).take ((n - 1) * 10) = cur.take (i * 10) ++ news := by
      have h3 : (cur.take (i * 10) ++ news).length = (n - 1) * 10 := by rw [List.length_append, List.length_take, hlen]; have := HJ.out; omega
      unfold splice
      rw [← h3, List.take_left']
      rfl
    rw [e1, e2, hnews, List.take_take]
    congr 2
    omega
  · rw [HW.out]
    exact ⟨rfl, rfl, rfl, by simp, fun k _ hk => (row_other (fun e => hk (by rw [e]))).trans (row_other (w := w.drew) (fun e => hk (by rw [e])))⟩
theorem delete_anyS (base n c i : Nat) (A : Option Addr) (xs : List Value) (w : World) (ho : w.ownsRow base 129 10 (.slice A n c) n xs) (hi : i < n) (h1 : ∀ u ∈ xs, u.oneCell' = true) :
    Calls Tryz.prog 156 #[.slice A n c, .int .i64 (i : Int), .int .i64 ((i : Int) + 1)] w fun e w' => e = .returned (.slice A (n - 1) c) ∧
      w'.ownsRow base 129 10 (.slice A (n - 1) c) (n - 1) (xs.take (i * 10) ++ xs.drop ((i + 1) * 10)) ∧ w.grownBy w' (Value.slice A n c).ownBlock := by
  rcases row_ownK ho with ⟨_, h0, _⟩ | ⟨g, cur, rfl, hb, hg, hn, hm, hl, rfl⟩
  · omega
  · have := delete_ownS g n c i (i + 1) cur w hg hn hm hl rfl (by omega) h1
    rw [show ((i + 1 : Nat) : Int) = (i : Int) + 1 by omega] at this
    refine this.mono ?_
    rintro e w' ⟨rfl, cur', o', l', t', g'⟩
    exact ⟨rfl, by rw [← t']; exact own_to_row o' hb (by omega) hm l', g'⟩
theorem growslice_okS {n c : Nat} (h : c < n) (hb : n * 176 ≤ 140737488355328) : Builtin.nextslicecap n c * 176 ≤ 281474976710656 := growslice_fits h hb
set_option maxRecDepth 100000 in
set_option maxHeartbeats 1600000 in
theorem insert_endS (base n c vb : Nat) (A : Option Addr) (xs : List Value) (f : Lv) (w : World) (ho : w.ownsRow base 129 10 (.slice A n c) n xs) (hv : Own w vb 129 f.cells) (hn : (n + 1) * 176 ≤ 140737488355328) (hbase : base ≤ w.heap.size) :
    Calls Tryz.prog 110 #[.slice A n c, .int .i64 (n : Int), .slice (some ⟨vb, 0, none⟩) 1 1] w fun e w' => ∃ v', e = .returned v' ∧
      w'.ownsRow base 129 10 v' (n + 1) (xs ++ f.cells) ∧ w.grownBy w' (Value.slice A n c).ownBlock ∧ (v'.ownBlock = (Value.slice A n c).ownBlock ∨ v'.ownBlock = some w.heap.size) := by
  obtain ⟨i0, hi, hz0, hz1, hz2⟩ := info_parts infoLv
  have hU := Tryz.underlying34
  have hl : Lies 10 Lv.cells w w.heap.size (some ⟨vb, 0, none⟩) [f] := fun _ => by
    refine ⟨vb, 0, rfl, hv.inside, fun i x hx j u hu => ?_⟩
    match i, hx with
    | 0, hx =>
      obtain rfl : f = x := by simpa using hx
      rw [show 0 + 0 * 10 + j = j by omega, hv.at_ j]
      exact hu
  have hnews : ∀ j u, (Lv.cells f)[j]? = some u → w.cell? ((⟨vb, 0, none⟩ : Addr).add j) = some u := fun j u hu => by
    have ea : (⟨vb, 0, none⟩ : Addr).add j = ⟨vb, j, none⟩ := by unfold Addr.add; split <;> simp_all
    rw [ea, hv.at_ j]; exact hu
  obtain ⟨v', w', hrun, h2, h3, _, h5⟩ := run_append_own_at (P := Tryz.prog) w base 34 34 129 i0 _ 10 176 hU hi hz0 hz1 hz2 rfl (by decide) (.slice A n c) n xs ho ⟨vb, 0, none⟩ 1 1 f.cells rfl hnews (lcells_one f) (by unfold maxLen; omega) hn hbase
  have hr2 : ∀ ty, Hid ((Builtin.append_ #[34, 34] ty #[.slice A n c, .slice (some ⟨vb, 0, none⟩) 1 1]).run Tryz.prog w = .ok v' w') := fun _ => Lib.hid hrun
  have HX := Lib.hid (And.intro h2 (And.intro h3 h5))
  clear hrun h2 h3 h5 hnews hl
  have hnc : n ≤ c := by
    rcases row_ownK ho with ⟨_, h0, _⟩ | ⟨g, cur, _, _, _, h0, _⟩ <;> omega
  clear ho hv
  rcases A with _ | ⟨ab, ao, asp⟩
  all_goals
    go_enter Tryz.func110, Tryz.ntmps110
    go_wp2_with (at_builtin; refine list_append_known _ rfl (.tmp 23) (.tmp 24) 34 34 rfl _ _ rfl rfl (hr2 _).out ?_)
    all_goals
      go_ret
      exact ⟨_, rfl, HX.out.1, HX.out.2.1, HX.out.2.2⟩
theorem own_drewKS {w : World} {g : Nat} {t : TypeId} {l : List Value} (h : Own w g t l) : Own w.drew g t l := h
theorem splice_partsS {A B C vs : List Value} {o : Nat} (ho : A.length = o) (hb : B.length = vs.length) : splice (A ++ (B ++ C)) o vs = A ++ (vs ++ C) := by
  subst ho
  unfold splice
  rw [List.take_left' rfl, List.append_assoc, List.append_cancel_left_eq, List.append_cancel_left_eq, ← hb, ← List.append_assoc, ← List.length_append, List.drop_left' rfl]
theorem splice3S {l news rest z : List Value} {i n : Nat} (hl : l.length = n * 10) (hi : i < n) (hn : news.length = 10) (hz : z.length = (n + 1 - i) * 10) :
    (splice (splice (l.take (i * 10) ++ z ++ rest) (i * 10) news) ((i + 1) * 10) (l.drop (i * 10))).take ((n + 1) * 10) = l.take (i * 10) ++ news ++ l.drop (i * 10) := by
  have h1 : (l.take (i * 10)).length = i * 10 := by rw [List.length_take]; omega
  have hz2 : z = z.take 10 ++ z.drop 10 := (List.take_append_drop 10 z).symm
  have e1 : splice (l.take (i * 10) ++ z ++ rest) (i * 10) news = l.take (i * 10) ++ (news ++ (z.drop 10 ++ rest)) := by
    have e0 : l.take (i * 10) ++ z ++ rest = l.take (i * 10) ++ (z.take 10 ++ (z.drop 10 ++ rest)) := by
      rw [List.append_assoc, ← List.append_assoc (z.take 10), List.take_append_drop]
    rw [e0]
    exact splice_partsS h1 (by rw [List.length_take]; omega)
  have h2 : (l.take (i * 10) ++ news).length = (i + 1) * 10 := by rw [List.length_append, h1, hn]; omega
  have h3 : ((l.take (i * 10) ++ news) ++ l.drop (i * 10)).length = (n + 1) * 10 := by rw [List.length_append, h2, List.length_drop, hl]; omega
  rw [e1, ← List.append_assoc, splice_partsS h2 (by rw [List.length_drop, List.length_drop, hl]; omega), ← List.append_assoc, ← h3, List.take_left' rfl]
set_option maxRecDepth 100000 in
set_option maxHeartbeats 3200000 in
theorem insert_growS (g n i vb : Nat) (cur : List Value) (f : Lv) (w : World) (ho : Own w g 129 cur) (hl : cur.length = n * 10) (hv : Own w vb 129 f.cells) (hi : i < n) (hn : (n + 1) * 176 ≤ 140737488355328) (h1 : ∀ u ∈ cur, u.oneCell' = true) :
    Calls Tryz.prog 110 #[.slice (some ⟨g, 0, none⟩) n n, .int .i64 (i : Int), .slice (some ⟨vb, 0, none⟩) 1 1] w fun e w' => ∃ G cur', e = .returned (.slice (some ⟨w.heap.size, 0, none⟩) (n + 1) G) ∧
      Own w' w.heap.size 129 cur' ∧ n + 1 ≤ G ∧ G ≤ maxLen ∧ cur'.length = G * 10 ∧ cur'.take ((n + 1) * 10) = cur.take (i * 10) ++ f.cells ++ cur.drop (i * 10) ∧ Below w.heap.size w w' := by
  obtain ⟨i0, hi0, hz0, hzs, hzb⟩ := info_parts infoLv
  have hU := Tryz.underlying34
  have hUi := Tryz.underlying3
  have hsz : (Tryz.prog.info? 129).map (·.size) = some 10 := by rw [hi0]; simp [hzs]
  have hbw := ho.inside
  have hvw := hv.inside
  have hkk : (n : Int) + 1 - (i : Int) = ((n + 1 - i : Nat) : Int) := by omega
  have hik : i + (n + 1 - i) = n + 1 := by omega
  have hold : (Builtin.firstCells i0.size i (.slice (some ⟨g, 0, none⟩) i n)).run Tryz.prog w.drew = .ok (cur.take (i * 10)).toArray w.drew := by
    rw [hzs]
    refine run_firstCells_some w.drew 10 i ⟨g, 0, none⟩ i n (cur.take (i * 10)) (by rw [List.length_take]; omega) (fun j v hj => ?_)
    have ea : (⟨g, 0, none⟩ : Addr).add j = ⟨g, j, none⟩ := by unfold Addr.add; split <;> simp_all
    rw [ea, (own_drewKS ho).at_ j]
    rw [List.getElem?_take] at hj
    split at hj
    · exact hj
    · cases hj
  obtain ⟨G, hG⟩ : ∃ G, G = grownCap w (n + 1) n 129 := ⟨_, rfl⟩
  have hGn : n + 1 ≤ G := by rw [hG]; exact grownCap_ge w _ _ _
  have hG63 : G ≤ maxLen := by rw [hG]; exact grownCap_le_maxLen w (n + 1) n 129 (by unfold maxLen; omega)
  obtain ⟨ROW, hROW⟩ : ∃ ROW : Array Value, ROW = (cur.take (i * 10)).toArray ++ Builtin.zeroCells zeroLv.cells (n + 1 - i) ++ Builtin.zeroCells zeroLv.cells (G - (n + 1)) := ⟨_, rfl⟩
  have hz2 : zeroLv.cells.size = 10 := rfl
  have hRl : ROW.size = G * 10 := by
    rw [hROW, Array.size_append, Array.size_append, size_zeroCells, size_zeroCells, hz2, List.size_toArray, List.length_take]
    omega
  obtain ⟨W1, hW1⟩ : ∃ W1, W1 = w.drew.alloc (.cells ROW 129) := ⟨_, rfl⟩
  have hrz : ∀ ty, (Builtin.append_ #[34, 3] ty #[.slice (some ⟨g, 0, none⟩) i n, .int .i64 ((n : Int) + 1 - (i : Int))]).run Tryz.prog w = .ok (.slice (some ⟨w.heap.size, 0, none⟩) (n + 1) G) W1 := fun ty => by
    have h := Lib.run_append_grow_zeros w 34 3 ty 129 i0 _ .i64 .i64 hU hUi hi0 hz0 (some ⟨g, 0, none⟩) i n (cur.take (i * 10)) hold (n + 1 - i) (by omega) (by omega) (by omega) (by omega) (by rw [hzb]; omega) (by rw [hzb, hik]; exact growslice_okS (by omega) hn)
    rw [hik] at h
    rw [hkk, hW1, hROW, hG]
    exact h
  have oR : Own W1 w.heap.size 129 ROW.toList := by
    rw [hW1]
    have := Own.made w.drew 129 ROW.toList
    simpa using this
  have oG : Own W1 g 129 cur := by rw [hW1]; exact (own_drewKS ho).more _
  have oV : Own W1 vb 129 f.cells := by rw [hW1]; exact (own_drewKS hv).more _
  have bW : Below w.heap.size w W1 := by rw [hW1]; exact (Below.drew (Below.refl _ _)).alloc (Nat.le_refl _) _
  have hRlen : ROW.toList.length = G * 10 := by simpa using hRl
  obtain ⟨W2, hW2⟩ : ∃ W2, W2 = W1.setRow w.heap.size (splice ROW.toList (i * 10) f.cells).toArray := ⟨_, rfl⟩
  have hcA : ∀ ty dc, (Builtin.copy_ #[34, 34] ty #[.slice (some ⟨w.heap.size, i * 10, none⟩) (n + 1 - i) dc, .slice (some ⟨vb, 0, none⟩) 1 1]).run Tryz.prog W1 = .ok (goInt (Nat.min 1 (n + 1 - i))) W2 := fun ty dc => by
    rw [hW2]
    refine run_copy_into W1 _ _ ty 129 w.heap.size (i * 10) (n + 1 - i) dc ⟨vb, 0, none⟩ 1 1 10 ROW.toList f.cells 129 hU hsz oR ?_ (fun j v hj => ?_) (by rw [hRlen]; simp [Lv.cells]; omega) (lcells_one f)
    · have : Nat.min 1 (n + 1 - i) = 1 := Nat.min_eq_left (by omega)
      rw [this]; rfl
    · have ea : (⟨vb, 0, none⟩ : Addr).add j = ⟨vb, j, none⟩ := by unfold Addr.add; split <;> simp_all
      rw [ea, oV.at_ j]; exact hj
  have oR2 : Own W2 w.heap.size 129 (splice ROW.toList (i * 10) f.cells) := by rw [hW2]; exact own_rowK oR
  have oG2 : Own W2 g 129 cur := by
    rw [hW2]; unfold Own; rw [row_other (by omega)]; exact oG
  have hl2 : (splice ROW.toList (i * 10) f.cells).length = G * 10 := by rw [splice_len (by rw [hRlen]; simp [Lv.cells]; omega), hRlen]
  have hcl : (cur.drop (i * 10)).length = (n - i) * 10 := by rw [List.length_drop, hl]; omega
  obtain ⟨W3, hW3⟩ : ∃ W3, W3 = W2.drew.setRow w.heap.size (splice (splice ROW.toList (i * 10) f.cells) ((i + 1) * 10) (cur.drop (i * 10))).toArray := ⟨_, rfl⟩
  have hcB : ∀ ty dc sc, (Builtin.copy_ #[34, 34] ty #[.slice (some ⟨w.heap.size, (i + 1) * 10, none⟩) (n + 1 - (i + 1)) dc, .slice (some ⟨g, i * 10, none⟩) (n - i) sc]).run Tryz.prog W2.drew = .ok (goInt (Nat.min (n - i) (n + 1 - (i + 1)))) W3 := fun ty dc sc => by
    rw [hW3]
    refine run_copy_into W2.drew _ _ ty 129 w.heap.size ((i + 1) * 10) (n + 1 - (i + 1)) dc ⟨g, i * 10, none⟩ (n - i) sc 10 _ (cur.drop (i * 10)) 129 hU hsz oR2 ?_ (fun j v hj => ?_) (by rw [hl2, hcl]; omega) (fun u hu => h1 u (List.mem_of_mem_drop hu))
    · have : Nat.min (n - i) (n + 1 - (i + 1)) = n - i := Nat.min_eq_left (by omega)
      rw [this, hcl]
    · have ea : (⟨g, i * 10, none⟩ : Addr).add j = ⟨g, i * 10 + j, none⟩ := by unfold Addr.add; split <;> simp_all
      rw [ea, (own_drewKS oG2).at_ (i * 10 + j)]
      rw [List.getElem?_drop] at hj; exact hj
  have oR3 : Own W3 w.heap.size 129 (splice (splice ROW.toList (i * 10) f.cells) ((i + 1) * 10) (cur.drop (i * 10))) := by rw [hW3]; exact own_rowK (w := W2.drew) oR2
  have b3 : Below w.heap.size w W3 := by
    rw [hW3, hW2]
    exact ⟨bW.os, bW.tape, bW.output, by simpa using bW.size, fun k hk => (row_other (by omega)).trans ((row_other (w := W1) (by omega)).trans (bW.block k hk))⟩
  have hfin : (splice (splice ROW.toList (i * 10) f.cells) ((i + 1) * 10) (cur.drop (i * 10))).take ((n + 1) * 10) = cur.take (i * 10) ++ f.cells ++ cur.drop (i * 10) := by
    have : ROW.toList = cur.take (i * 10) ++ (Builtin.zeroCells zeroLv.cells (n + 1 - i)).toList ++ (Builtin.zeroCells zeroLv.cells (G - (n + 1))).toList := by rw [hROW]; simp
    rw [this]
    exact splice3S hl hi rfl (by rw [Array.length_toList, size_zeroCells, hz2])
  have hlen3 : (splice (splice ROW.toList (i * 10) f.cells) ((i + 1) * 10) (cur.drop (i * 10))).length = G * 10 := by rw [splice_len (by rw [hl2, hcl]; omega), hl2]
  have HX := Lib.hid (And.intro oR3 (And.intro hGn (And.intro hG63 (And.intro hlen3 (And.intro hfin b3)))))
  have hB3 := fun ty dc sc => Lib.hid (hcB ty dc sc)
  unfold maxLen at hG63
  clear oR3 hlen3 hfin b3 hcB hl2 hcl oG2 oR2 hRlen bW oV oG oR hRl hROW hG hold hik hkk hz0 hzs hzb hsz hi0 hW1 hW2 hW3 h1 hl
  have hGi : ¬ (G = i) := by omega
  have hGim : ¬ (G = i + 1) := by omega
  have hci : ¬ (n = i) := by omega
  have hni : ¬ ((i : Int) = (n : Int)) := by omega
  have htn : ((i : Int) + 1).toNat = i + 1 := by omega
  have hb1 : (0 : Int) ≤ (i : Int) + 1 := by omega
  have hw1 : IntKind.i64.wrap ((i : Int) + 1) = (i : Int) + 1 := by rw [IntKind.wrap_i64]; omega
  have hb4 : (i : Int) + 1 ≤ (n : Int) + 1 := by omega
  have hb3 : (i : Int) ≤ (n : Int) := by omega
  have hin : i ≤ n := by omega
  have hgr : (n : Int) < (n : Int) + 1 := by omega
  go_enter Tryz.func110, Tryz.ntmps110
  go_wp2_with (first
    | (at_builtin; refine list_append_known _ rfl (.tmp 34) (.tmp 39) 34 3 rfl _ _ rfl rfl (hrz _) ?_)
    | (at_builtin; refine list_copy_known _ rfl (.tmp 43) (.tmp 44) 34 34 rfl _ _ rfl rfl (hcA _ _) ?_))
  go_region_law (refine step_copy_known rfl (.tmp 50) (.tmp 53) 34 34 rfl (.slice (some ⟨w.heap.size, (i + 1) * 10, none⟩) (n + 1 - (i + 1)) (G - (i + 1))) (.slice (some ⟨g, i * 10, none⟩) (n - i) (n - i)) (by simp [Act.eval, Act.put]) (by simp [Act.eval, Act.put]) (hB3 _ _ _).out ?_)
  go_wp2_with fail
  go_ret
  exact ⟨G, _, rfl, HX.out.1, HX.out.2.1, HX.out.2.2.1, HX.out.2.2.2.1, HX.out.2.2.2.2.1, HX.out.2.2.2.2.2⟩
set_option maxRecDepth 100000 in
theorem overlaps_noS (w : World) (g vb o1 lb cb la ca : Nat) (cur vs : List Value) (hg : Own w g 129 cur) (hv : Own w vb 129 vs) (hne : vb ≠ g) (hc : cur.length ≠ 0) :
    (callFunc 152 #[.slice (some ⟨vb, 0, none⟩) la ca, .slice (some ⟨g, o1, none⟩) lb cb]).run Tryz.prog w = .ok (.value (.bool false)) w := by
  have hs1 : w.shape? vb = some (129, vs.length) := by
    unfold World.shape?; have := hv; unfold Own at this; rw [this]; simp
  have hs2 : w.shape? g = some (129, cur.length) := by
    unfold World.shape?; have := hg; unfold Own at this; rw [this]; simp
  rw [run_callFunc_extern Tryz.func152 (by kernel_rfl) (by kernel_rfl) (by kernel_rfl) (e := Extern.SlicesOverlaps.overlaps #[34, 34] #[4]) (by kernel_rfl),
    Lib.run_overlaps_apart w 34 4 129 Tryz.underlying34 10 Tryz.sizeOf129 ⟨vb, 0, none⟩ ⟨g, o1, none⟩ la ca lb cb hne _ _ _ _ hs1 hs2 hc (hv.open_ 0) (hv.open_ _)]
  rfl
theorem splice4S {cur news : List Value} {i n c : Nat} (hl : cur.length = c * 10) (hc : n + 1 ≤ c) (hi : i < n) (hn : news.length = 10) :
    (splice (splice cur ((i + 1) * 10) ((cur.take (n * 10)).drop (i * 10))) (i * 10) news).take ((n + 1) * 10) = (cur.take (n * 10)).take (i * 10) ++ news ++ (cur.take (n * 10)).drop (i * 10) := by
  have h0 : (cur.take (n * 10)).length = n * 10 := by rw [List.length_take]; omega
  have hd : ((cur.take (n * 10)).drop (i * 10)).length = (n - i) * 10 := by rw [List.length_drop, h0]; omega
  have e1 : splice cur ((i + 1) * 10) ((cur.take (n * 10)).drop (i * 10)) = cur.take (i * 10) ++ ((cur.drop (i * 10)).take 10 ++ ((cur.take (n * 10)).drop (i * 10) ++ cur.drop ((n + 1) * 10))) := by
    unfold splice
    rw [hd, show (i + 1) * 10 + (n - i) * 10 = (n + 1) * 10 by omega, show (i + 1) * 10 = i * 10 + 10 by omega, List.take_add, List.append_assoc, List.append_assoc]
  rw [e1, splice_partsS (by rw [List.length_take]; omega) (by rw [List.length_take, List.length_drop, hn]; omega)]
  have e2 : (cur.take (n * 10)).take (i * 10) = cur.take (i * 10) := by rw [List.take_take]; congr 1; omega
  rw [e2, ← List.append_assoc, ← List.append_assoc]
  have h3 : (cur.take (i * 10) ++ news ++ (cur.take (n * 10)).drop (i * 10)).length = (n + 1) * 10 := by rw [List.length_append, List.length_append, hd, hn, List.length_take]; omega
  rw [← h3, List.take_left' rfl]
set_option maxRecDepth 100000 in
set_option maxHeartbeats 3200000 in
theorem insert_shiftS (g n c i vb : Nat) (cur : List Value) (f : Lv) (w : World) (ho : Own w g 129 cur) (hl : cur.length = c * 10) (hm : c ≤ maxLen) (hc : n + 1 ≤ c) (hv : Own w vb 129 f.cells) (hne : vb ≠ g) (hi : i < n) (h1 : ∀ u ∈ cur.take (n * 10), u.oneCell' = true) :
    Calls Tryz.prog 110 #[.slice (some ⟨g, 0, none⟩) n c, .int .i64 (i : Int), .slice (some ⟨vb, 0, none⟩) 1 1] w fun e w' => e = .returned (.slice (some ⟨g, 0, none⟩) (n + 1) c) ∧ ∃ cur',
      Own w' g 129 cur' ∧ cur'.length = c * 10 ∧ cur'.take ((n + 1) * 10) = (cur.take (n * 10)).take (i * 10) ++ f.cells ++ (cur.take (n * 10)).drop (i * 10) ∧ w.grownBy w' (some g) := by
  obtain ⟨i0, hi0, hz0, hzs, hzb⟩ := info_parts infoLv
  have hU := Tryz.underlying34
  have hsz : (Tryz.prog.info? 129).map (·.size) = some 10 := by rw [hi0]; simp [hzs]
  have h0 : (cur.take (n * 10)).length = n * 10 := by rw [List.length_take]; omega
  have hd : ((cur.take (n * 10)).drop (i * 10)).length = (n - i) * 10 := by rw [List.length_drop, h0]; omega
  have hov : ∀ lb cb, (callFunc 152 #[.slice (some ⟨vb, 0, none⟩) 1 1, .slice (some ⟨g, (i + 1) * 10, none⟩) lb cb]).run Tryz.prog w = .ok (.value (.bool false)) w := fun lb cb => by
    exact overlaps_noS w g vb _ lb cb 1 1 cur f.cells ho hv hne (by omega)
  obtain ⟨W1, hW1⟩ : ∃ W1, W1 = w.drew.setRow g (splice cur ((i + 1) * 10) ((cur.take (n * 10)).drop (i * 10))).toArray := ⟨_, rfl⟩
  have hcA : ∀ ty dc sc, (Builtin.copy_ #[34, 34] ty #[.slice (some ⟨g, (i + 1) * 10, none⟩) (n + 1 - (i + 1)) dc, .slice (some ⟨g, i * 10, none⟩) (n + 1 - i) sc]).run Tryz.prog w.drew = .ok (goInt (Nat.min (n + 1 - i) (n + 1 - (i + 1)))) W1 := fun ty dc sc => by
    rw [hW1]
    refine run_copy_into w.drew _ _ ty 129 g ((i + 1) * 10) (n + 1 - (i + 1)) dc ⟨g, i * 10, none⟩ (n + 1 - i) sc 10 cur _ 129 hU hsz ho ?_ (fun j v hj => ?_) (by rw [hd, hl]; omega) (fun u hu => h1 u (List.mem_of_mem_drop hu))
    · have : Nat.min (n + 1 - i) (n + 1 - (i + 1)) = n - i := by show min _ _ = _; omega
      rw [this, hd]
    · have ea : (⟨g, i * 10, none⟩ : Addr).add j = ⟨g, i * 10 + j, none⟩ := by unfold Addr.add; split <;> simp_all
      rw [ea, (own_drewKS ho).at_ (i * 10 + j)]
      rw [List.getElem?_drop, List.getElem?_take] at hj
      split at hj
      · exact hj
      · cases hj
  have o1 : Own W1 g 129 (splice cur ((i + 1) * 10) ((cur.take (n * 10)).drop (i * 10))) := by rw [hW1]; exact own_rowK (w := w.drew) ho
  have v1 : Own W1 vb 129 f.cells := by rw [hW1]; unfold Own; rw [row_other hne]; exact hv
  have l1 : (splice cur ((i + 1) * 10) ((cur.take (n * 10)).drop (i * 10))).length = c * 10 := by rw [splice_len (by rw [hd, hl]; omega), hl]
  obtain ⟨W2, hW2⟩ : ∃ W2, W2 = W1.setRow g (splice (splice cur ((i + 1) * 10) ((cur.take (n * 10)).drop (i * 10))) (i * 10) f.cells).toArray := ⟨_, rfl⟩
  have hcB : ∀ ty dc, (Builtin.copy_ #[34, 34] ty #[.slice (some ⟨g, i * 10, none⟩) (n + 1 - i) dc, .slice (some ⟨vb, 0, none⟩) 1 1]).run Tryz.prog W1 = .ok (goInt (Nat.min 1 (n + 1 - i))) W2 := fun ty dc => by
    rw [hW2]
    refine run_copy_into W1 _ _ ty 129 g (i * 10) (n + 1 - i) dc ⟨vb, 0, none⟩ 1 1 10 _ f.cells 129 hU hsz o1 ?_ (fun j v hj => ?_) (by rw [l1]; simp [Lv.cells]; omega) (lcells_one f)
    · have : Nat.min 1 (n + 1 - i) = 1 := Nat.min_eq_left (by omega)
      rw [this]; rfl
    · have ea : (⟨vb, 0, none⟩ : Addr).add j = ⟨vb, j, none⟩ := by unfold Addr.add; split <;> simp_all
      rw [ea, v1.at_ j]; exact hj
  have o2 : Own W2 g 129 (splice (splice cur ((i + 1) * 10) ((cur.take (n * 10)).drop (i * 10))) (i * 10) f.cells) := by rw [hW2]; exact own_rowK o1
  have l2 : (splice (splice cur ((i + 1) * 10) ((cur.take (n * 10)).drop (i * 10))) (i * 10) f.cells).length = c * 10 := by rw [splice_len (by rw [l1]; simp [Lv.cells]; omega), l1]
  have gr : w.grownBy W2 (some g) := by
    rw [hW2, hW1]
    exact ⟨rfl, rfl, rfl, by simp, fun k _ hk => (row_other (fun e => hk (by rw [e]))).trans (row_other (w := w.drew) (fun e => hk (by rw [e])))⟩
  have HX := Lib.hid (And.intro o2 (And.intro l2 (And.intro (splice4S hl hc hi (rfl : f.cells.length = 10)) gr)))
  have hB1 := fun ty dc sc => Lib.hid (hcA ty dc sc)
  unfold maxLen at hm
  clear o2 l2 gr hcA o1 v1 l1 hW1 hW2 hd h0 hsz hi0 hz0 hzs hzb h1 hl ho hv
  have hci : ¬ (c = i) := by omega
  have hci1 : ¬ (c = i + 1) := by omega
  have hni : ¬ ((i : Int) = (n : Int)) := by omega
  have htn : ((i : Int) + 1).toNat = i + 1 := by omega
  have htn2 : ((n : Int) + 1).toNat = n + 1 := by omega
  have hb1 : (0 : Int) ≤ (i : Int) + 1 := by omega
  have hb5 : (0 : Int) ≤ (n : Int) + 1 := by omega
  have hw1 : IntKind.i64.wrap ((i : Int) + 1) = (i : Int) + 1 := by rw [IntKind.wrap_i64]; omega
  have hw2 : IntKind.i64.wrap ((n : Int) + 1) = (n : Int) + 1 := by rw [IntKind.wrap_i64]; omega
  have hb4 : (i : Int) + 1 ≤ (n : Int) + 1 := by omega
  have hb3 : (i : Int) ≤ (n : Int) := by omega
  have hb6 : (i : Int) ≤ (n : Int) + 1 := by omega
  have hin : i ≤ n := by omega
  have hgr : ¬ ((c : Int) < (n : Int) + 1) := by omega
  have hgr2 : (n : Int) + 1 ≤ (c : Int) := by omega
  go_enter Tryz.func110, Tryz.ntmps110
  go_wp2_with (simp only [hov])
  go_region_law (refine step_copy_known rfl (.tmp 73) (.tmp 76) 34 34 rfl (.slice (some ⟨g, (i + 1) * 10, none⟩) (n + 1 - (i + 1)) (c - (i + 1))) (.slice (some ⟨g, i * 10, none⟩) (n + 1 - i) (c - i)) (by simp [Act.eval, Act.put]) (by simp [Act.eval, Act.put]) (hB1 _ _ _).out ?_)
  go_wp2_with (at_builtin; refine list_copy_known _ rfl (.tmp 80) (.tmp 81) 34 34 rfl _ _ rfl rfl (hcB _ _) ?_)
  go_ret
  exact ⟨rfl, _, HX.out.1, HX.out.2.1, HX.out.2.2.1, HX.out.2.2.2⟩
theorem insert_anyS (base n c i vb : Nat) (A : Option Addr) (xs : List Value) (f : Lv) (w : World) (ho : w.ownsRow base 129 10 (.slice A n c) n xs) (hv : Own w vb 129 f.cells) (hne : (Value.slice A n c).ownBlock ≠ some vb) (hi : i ≤ n) (hn : (n + 1) * 176 ≤ 140737488355328) (hbase : base ≤ w.heap.size) (h1 : ∀ u ∈ xs, u.oneCell' = true) :
    Calls Tryz.prog 110 #[.slice A n c, .int .i64 (i : Int), .slice (some ⟨vb, 0, none⟩) 1 1] w fun e w' => ∃ A' c', e = .returned (.slice A' (n + 1) c') ∧
      w'.ownsRow base 129 10 (.slice A' (n + 1) c') (n + 1) (xs.take (i * 10) ++ f.cells ++ xs.drop (i * 10)) ∧ w.grownBy w' (Value.slice A n c).ownBlock ∧ ((Value.slice A' (n + 1) c').ownBlock = (Value.slice A n c).ownBlock ∨ (Value.slice A' (n + 1) c').ownBlock = some w.heap.size) := by
  by_cases hin : i = n
  · subst hin
    refine (insert_endS base i c vb A xs f w ho hv hn hbase).mono ?_
    rintro e w' ⟨v', rfl, h2, h3, h4⟩
    have hx : xs.take (i * 10) = xs ∧ xs.drop (i * 10) = [] := ⟨List.take_of_length_le (by rw [ho.1]; omega), List.drop_of_length_le (by rw [ho.1]; omega)⟩
    rw [hx.1, hx.2, List.append_nil]
    rcases h2.2 with ⟨rfl, h0⟩ | ⟨g, cap, cur, rfl, hb, rest⟩
    · omega
    · exact ⟨_, _, rfl, h2, h3, h4⟩
  · rcases row_ownK ho with ⟨_, h0, _⟩ | ⟨g, cur, rfl, hb, hg, hnc, hm, hl, rfl⟩
    · omega
    · by_cases hr : n + 1 ≤ c
      · refine (insert_shiftS g n c i vb cur f w hg hl hm hr hv (fun e => hne (by rw [← e]; rfl)) (by omega) h1).mono ?_
        rintro e w' ⟨rfl, cur', o', l', t', g'⟩
        exact ⟨_, _, rfl, by rw [← t']; exact own_to_row o' hb hr hm l', g', .inl rfl⟩
      · obtain rfl : c = n := by omega
        have ht : cur.take (c * 10) = cur := List.take_of_length_le (by omega)
        rw [ht] at h1 ⊢
        refine (insert_growS g c i vb cur f w hg hl hv (by omega) hn h1).mono ?_
        rintro e w' ⟨G, cur', rfl, o', g1, g2, l', t', b'⟩
        exact ⟨_, _, rfl, by rw [← t']; exact own_to_row o' hbase g1 g2 l', ⟨b'.os, b'.tape, b'.output, b'.size, fun k hk _ => b'.block k hk⟩, .inr rfl⟩
end Go.Proofs.YtjffohpdjicfpaaGreat
