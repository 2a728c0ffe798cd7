/- Part 17 of the texts on which JoinCompacted rests: facts and contracts. -/
import Derived.Test.YtjffohpdjicfpaaGreatJoinCompactedM16
import Derived.WalkKit
import Derived.ProofKit
import Derived.OpenShut
import Derived.JoinedCond
import Derived.Carry
import Derived.ChangeArms
import Derived.Deep.Slices
import Derived.SizedLaws
import Derived.Test.YtjffohpdjicfpaaGreatRows
namespace Go.Proofs.YtjffohpdjicfpaaGreat
open Go Go.RowKit
theorem times_keepS {w w' : World} {A : Option Addr} {l : List Tm} (h : Times w w.heap.size A l) (hb : Below w.heap.size w w') : Times w' w'.heap.size A l := (h.past hb (Nat.le_refl _)).wide hb.size
def CompS (s : Sp) (g : List Tm) (w : World) (x : Ending) (w' : World) : Prop :=
  ∃ (s' : Sp) (E : Int), x = .returned (.tuple #[s'.val, .int .i64 E]) ∧ ((¬ SpGood s.f s.L ∧ E = 8 ∧ s' = Sp.nil) ∨ (SpGood s.f s.L ∧ s'.L.map Lv.pl = s.L.map Lv.pl ∧ ((¬ FrontOk g ∧ E = 4 ∧ s'.f = s.f) ∨ (FrontOk g ∧ ¬ LaterF g s.f ∧ E = 1 ∧ s'.f = s.f) ∨ (FrontOk g ∧ LaterF g s.f ∧ E = 0 ∧ s'.f = g)))) ∧ SpIn w' w'.heap.size s' ∧ SpOk s' ∧ SpLo w.heap.size s' ∧ Below w.heap.size w w'
set_option maxRecDepth 100000 in
set_option maxHeartbeats 12800000 in
theorem compact_any (s : Sp) (A : Option Addr) (c : Nat) (g : List Tm) (w : World) (hs : SpIn w w.heap.size s) (ok : SpOk s) (hgt : Times w w.heap.size A g) (hgo : TsOk g c) (hw : wtS s.L ≤ 274877906944) :
    Calls Tryz.prog 14 #[s.val, .slice A g.length c] w (CompS s g w) := by
  obtain ⟨V, hV, hvb, hvs, hvo, hvz⟩ := sp_box2 w s
  have hin := hs.keep hvb
  have y1 := Lib.hid (scheck_any s V hin ok)
  have H := Lib.hid (And.intro hs (And.intro ok (And.intro hgt (And.intro hgo (And.intro hw (And.intro hvb (And.intro hvo hvz)))))))
  obtain ⟨d0, d1⟩ := own2 hvo
  have HP := Lib.hid (show ∀ x w' (s' : Sp) (E : Int), x = .returned (.tuple #[s'.val, .int .i64 E]) → ((¬ SpGood s.f s.L ∧ E = 8 ∧ s' = Sp.nil) ∨ (SpGood s.f s.L ∧ s'.L.map Lv.pl = s.L.map Lv.pl ∧ ((¬ FrontOk g ∧ E = 4 ∧ s'.f = s.f) ∨ (FrontOk g ∧ ¬ LaterF g s.f ∧ E = 1 ∧ s'.f = s.f) ∨ (FrontOk g ∧ LaterF g s.f ∧ E = 0 ∧ s'.f = g)))) → SpIn w' w'.heap.size s' → SpOk s' → SpLo w.heap.size s' → Below w.heap.size w w' → CompS s g w x w' from fun x w' s' E h1 h2 h3 h4 h5 h6 => ⟨s', E, h1, h2, h3, h4, h5, h6⟩)
  have hsv : s.val = .agg #[.slice s.sA s.f.length s.sc, .slice s.lA s.L.length s.lc] := rfl
  rw [hsv] at y1 ⊢
  clear hs ok hgt hgo hw hvb hvs hvo hvz hin
  go_enter Tryz.func14, Tryz.ntmps14
  go_upto_region 1 with fail
  rw [← hV]
  clear hV
  go_wp2_with fail
  refine y1.out.mono ?_
  rintro _ w1 ⟨n, rfl, hn, b1⟩
  have hv1 := H.out.2.2.2.2.2.2.1.past b1 H.out.2.2.2.2.2.2.1.inside
  have hz1 := H.out.2.2.2.2.2.2.2.past b1 H.out.2.2.2.2.2.2.2.inside
  have H1 := Lib.hid (And.intro hn (And.intro (H.out.2.2.2.2.2.1.trans (b1.mono H.out.2.2.2.2.2.1.size)) (And.intro hv1 (And.intro hz1 hz1.inside))))
  clear hn b1 d0 d1 y1
  by_cases h0 : n = 0
  case neg =>
    have t1 : (n != 0) = true := bne_iff_ne.2 h0
    have HN := Lib.hid (show ¬ SpGood s.f s.L ∧ n = 8 from by
      rcases H1.out.1 with ⟨_, h⟩ | h
      · exact absurd h h0
      · exact h)
    obtain ⟨z0, z1⟩ := own2 hz1
    have f0 := hz1.open_ 0
    have f1 := hz1.open_ 1
    have hX := (hz1.set_ 0 (.slice none 0 0)).set_ 1 (.slice none 0 0)
    obtain ⟨x0, x1⟩ := own2 hX
    have HB := Lib.hid (below_two H1.out.2.1 (Nat.le_succ _) (P := w.heap.size + 1) (.slice none 0 0) (.slice none 0 0))
    clear hv1 hz1 hX h0
    go_wp2_with fail
    exact bodyPost_ret (v := .tuple #[.agg #[.slice none 0 0, .slice none 0 0], .int .i64 n]) (by simp [results, Tryz.results14, go_sem, x0, x1]) rfl (HP.out _ _ Sp.nil n rfl (.inl ⟨HN.out.1, HN.out.2, rfl⟩) (sp_nil_in _ _) sp_nil_ok (sp_nil_lo _) HB.out)
  subst h0
  have hgood : SpGood s.f s.L := by
    rcases H1.out.1 with ⟨h, _⟩ | ⟨_, h⟩
    · exact h
    · exact absurd h (by decide)
  have hin1 := H.out.1.keep H1.out.2.1
  have y2 := Lib.hid (copyS_any s w1 hin1 H.out.2.1 hgood H.out.2.2.2.2.1)
  have HG := Lib.hid hgood
  obtain ⟨d0, d1⟩ := own2 hv1
  rw [hsv] at y2
  clear hv1 hz1 hgood hin1
  go_wp2_with fail
  refine y2.out.mono ?_
  rintro _ w2 ⟨s1, rfl, hc, b2⟩
  rw [show s1.val = .agg #[.slice s1.sA s1.f.length s1.sc, .slice s1.lA s1.L.length s1.lc] from rfl]
  obtain ⟨V3, hV3, b3, hs3, o3⟩ := spbox w2 s1
  have b23 := belows b2 b3
  have b03 := belows H1.out.2.1 b23
  have HC := Lib.hid (And.intro hc.f hc.L)
  have HL := Lib.hid (And.intro hc.in_ (And.intro hc.ok (And.intro hc.lo (And.intro b2.size b3))))
  have H3 := Lib.hid (And.intro b03 (And.intro (H1.out.2.2.1.past b23 H1.out.2.2.1.inside) (And.intro (H1.out.2.2.2.1.past b23 H1.out.2.2.2.1.inside) o3)))
  have hgt3 := times_keepS H.out.2.2.1 b03
  have y3 := Lib.hid (frontier_anyS A c g V3 hgt3 H.out.2.2.2.1)
  clear hc b2 b3 b23 b03 d0 d1 y2 hs3 o3 hgt3
  go_upto_region 5 with fail
  rw [← hV3]
  clear hV3
  go_wp2_with fail
  refine y3.out.mono ?_
  rintro _ w4 ⟨fb, rfl, hfb, b4⟩
  have H4 := Lib.hid (And.intro (belows H3.out.1 b4) (And.intro (H3.out.2.1.past b4 H3.out.2.1.inside) (And.intro (H3.out.2.2.1.past b4 H3.out.2.2.1.inside) (And.intro (H3.out.2.2.2.past b4 H3.out.2.2.2.inside) (belows HL.out.2.2.2.2 b4)))))
  have HFB := Lib.hid hfb
  clear b4 hfb y3
  cases fb with
  | false =>
    have oz := H4.out.2.2.1
    obtain ⟨z0, z1⟩ := own2 oz
    have f0 := oz.open_ 0
    have f1 := oz.open_ 1
    obtain ⟨g0, g1⟩ := own2 H4.out.2.2.2.1
    have hX := (oz.set_ 0 (.slice s1.sA s1.f.length s1.sc)).set_ 1 (.slice s1.lA s1.L.length s1.lc)
    obtain ⟨x0, x1⟩ := own2 hX
    have hP1 : w.heap.size + 1 < w1.heap.size := H1.out.2.2.2.2
    have HX := Lib.hid (And.intro (sp_kept ((HL.out.1.past H4.out.2.2.2.2 (Nat.le_refl _)).wide H4.out.2.2.2.2.size) (HL.out.2.2.1.mono hP1) (kept_two (P := w.heap.size + 1) (.slice s1.sA s1.f.length s1.sc) (.slice s1.lA s1.L.length s1.lc))) (And.intro (HL.out.2.2.1.mono H1.out.2.1.size) (below_two H4.out.1 (Nat.le_succ w.heap.size) (.slice s1.sA s1.f.length s1.sc) (.slice s1.lA s1.L.length s1.lc))))
    clear oz hX
    go_wp2_with fail
    exact bodyPost_ret (v := .tuple #[.agg #[.slice s1.sA s1.f.length s1.sc, .slice s1.lA s1.L.length s1.lc], .int .i64 4]) (by simp [results, Tryz.results14, go_sem, x0, x1]) rfl (HP.out _ _ s1 4 rfl (.inr ⟨HG.out, HC.out.2, .inl ⟨fun h => absurd (HFB.out.2 h) (by decide), rfl, HC.out.1⟩⟩) HX.out.1 HL.out.2.1 HX.out.2.1 HX.out.2.2)
  | true =>
    have hgt4 := times_keepS H.out.2.2.1 H4.out.1
    have y4 := Lib.hid (later_any A c g s.sA s.sc s.f w4 hgt4 (Nat.le_trans H.out.2.2.2.1.le H.out.2.2.2.1.c_) (H.out.1.keep H4.out.1).since (Nat.le_trans H.out.2.1.f.le H.out.2.1.f.c_))
    obtain ⟨d0, d1⟩ := own2 H4.out.2.1
    clear hgt4
    go_wp2_with fail
    refine y4.out.mono ?_
    rintro _ w5 ⟨lb, rfl, hlb, b5⟩
    have H5 := Lib.hid (And.intro (belows H4.out.1 b5) (And.intro (H4.out.2.2.1.past b5 H4.out.2.2.1.inside) (And.intro (H4.out.2.2.2.1.past b5 H4.out.2.2.2.1.inside) (belows H4.out.2.2.2.2 b5))))
    have HLB := Lib.hid hlb
    clear b5 hlb y4 d0 d1
    cases lb with
    | false =>
      have oz := H5.out.2.1
      obtain ⟨z0, z1⟩ := own2 oz
      have f0 := oz.open_ 0
      have f1 := oz.open_ 1
      obtain ⟨g0, g1⟩ := own2 H5.out.2.2.1
      have hX := (oz.set_ 0 (.slice s1.sA s1.f.length s1.sc)).set_ 1 (.slice s1.lA s1.L.length s1.lc)
      obtain ⟨x0, x1⟩ := own2 hX
      have hP1 : w.heap.size + 1 < w1.heap.size := H1.out.2.2.2.2
      have HX := Lib.hid (And.intro (sp_kept ((HL.out.1.past H5.out.2.2.2 (Nat.le_refl _)).wide H5.out.2.2.2.size) (HL.out.2.2.1.mono hP1) (kept_two (P := w.heap.size + 1) (.slice s1.sA s1.f.length s1.sc) (.slice s1.lA s1.L.length s1.lc))) (And.intro (HL.out.2.2.1.mono H1.out.2.1.size) (below_two H5.out.1 (Nat.le_succ w.heap.size) (.slice s1.sA s1.f.length s1.sc) (.slice s1.lA s1.L.length s1.lc))))
      clear oz hX
      go_wp2_with fail
      exact bodyPost_ret (v := .tuple #[.agg #[.slice s1.sA s1.f.length s1.sc, .slice s1.lA s1.L.length s1.lc], .int .i64 1]) (by simp [results, Tryz.results14, go_sem, x0, x1]) rfl (HP.out _ _ s1 1 rfl (.inr ⟨HG.out, HC.out.2, .inr (.inl ⟨HFB.out.1 (by first | trivial | rfl), fun h => absurd (HLB.out.2 h) (by decide), rfl, HC.out.1⟩)⟩) HX.out.1 HL.out.2.1 HX.out.2.1 HX.out.2.2)
    | true =>
      have hgn := H.out.2.2.2.1.n
      have y5 := Lib.hid (listT_times A c g w5 (times_keepS H.out.2.2.1 H5.out.1) (by omega))
      go_wp2_with fail
      refine y5.out.mono ?_
      rintro _ w6 ⟨A', rfl, ht6, hlo6, b6⟩
      have oz := H5.out.2.1.past b6 H5.out.2.1.inside
      have oq := H5.out.2.2.1.past b6 H5.out.2.2.1.inside
      have b26 := belows H5.out.2.2.2 b6
      have b06 := belows H5.out.1 b6
      have hq : w2.heap.size < w5.heap.size := H5.out.2.2.1.inside
      have hPQ : w.heap.size + 1 ≠ w2.heap.size := by have := H1.out.2.2.2.2; have := HL.out.2.2.2.1; omega
      have hP1 : w.heap.size + 1 < w1.heap.size := H1.out.2.2.2.2
      have hP2 := HL.out.2.2.2.1
      have hin7 : SpIn (w6.setCell ⟨w2.heap.size, 0, none⟩ (.slice A' g.length g.length)) w2.heap.size s1 := HL.out.1.past (b26.setCell (p := ⟨w2.heap.size, 0, none⟩) (Nat.le_refl _) _) (Nat.le_refl _)
      have hlo6' : LoT w5.heap.size A' := fun b o e => (hlo6 b o e).1
      have ht7 := times_kept ht6 (hlo6'.of (S := fun b => b = w2.heap.size) (fun b e => by omega)) (KeptK.set_ (S := fun b => b = w2.heap.size) (o := 0) (KeptK.refl w6 _) (.inl rfl) (.slice A' g.length g.length))
      have hsz : (w6.setCell ⟨w2.heap.size, 0, none⟩ (.slice A' g.length g.length)).heap.size = w6.heap.size := by simp
      have hspi : SpIn (w6.setCell ⟨w2.heap.size, 0, none⟩ (.slice A' g.length g.length)) (w6.setCell ⟨w2.heap.size, 0, none⟩ (.slice A' g.length g.length)).heap.size ⟨A', g.length, g, s1.lA, s1.lc, s1.L⟩ := ⟨ht7, (hin7.wide (by rw [hsz]; exact b26.size)).lev⟩
      have hlo7 : SpLo w1.heap.size ⟨A', g.length, g, s1.lA, s1.lc, s1.L⟩ := ⟨hlo6'.mono (by omega), HL.out.2.2.1.l, HL.out.2.2.1.each_⟩
      have hok7 : SpOk ⟨A', g.length, g, s1.lA, s1.lc, s1.L⟩ := ⟨⟨hgn, Nat.le_refl _, by show g.length ≤ maxLen; unfold maxLen; omega⟩, HL.out.2.1.n, HL.out.2.1.le, HL.out.2.1.c_, HL.out.2.1.each_⟩
      have oq7 := oq.set_ 0 (.slice A' g.length g.length)
      have oz7 := (KeptK.set_ (S := fun b => b = w2.heap.size) (o := 0) (KeptK.refl w6 _) (.inl rfl) (.slice A' g.length g.length)).own oz hPQ
      have fq := oq.open_ 0
      obtain ⟨k0, k1⟩ := own2 oq
      obtain ⟨g0, g1⟩ := own2 oq7
      obtain ⟨z0, z1⟩ := own2 oz7
      have f0 := oz7.open_ 0
      have f1 := oz7.open_ 1
      have hX := (oz7.set_ 0 (.slice A' g.length g.length)).set_ 1 (.slice s1.lA s1.L.length s1.lc)
      obtain ⟨x0, x1⟩ := own2 hX
      have HX := Lib.hid (And.intro (sp_kept hspi (hlo7.mono hP1) (kept_two (P := w.heap.size + 1) (.slice A' g.length g.length) (.slice s1.lA s1.L.length s1.lc))) (And.intro (hlo7.mono H1.out.2.1.size) (And.intro (below_two (b06.setCell (p := ⟨w2.heap.size, 0, none⟩) (by show w.heap.size ≤ w2.heap.size; omega) (.slice A' g.length g.length)) (Nat.le_succ w.heap.size) (.slice A' g.length g.length) (.slice s1.lA s1.L.length s1.lc)) hok7)))
      clear oz oq b26 b06 hq hPQ hin7 hlo6' ht7 hspi hlo7 hok7 oq7 oz7 hX ht6 hlo6 b6 hP2 hP1 y5
      go_wp2_with fail
      exact bodyPost_ret (v := .tuple #[.agg #[.slice A' g.length g.length, .slice s1.lA s1.L.length s1.lc], .int .i64 0]) (by simp [results, Tryz.results14, go_sem, x0, x1]) rfl (HP.out _ _ ⟨A', g.length, g, s1.lA, s1.lc, s1.L⟩ 0 rfl (.inr ⟨HG.out, HC.out.2, .inr (.inr ⟨HFB.out.1 (by first | trivial | rfl), HLB.out.1 (by first | trivial | rfl), rfl, rfl⟩)⟩) HX.out.1 HX.out.2.2.2 HX.out.2.1 HX.out.2.2.1)
end Go.Proofs.YtjffohpdjicfpaaGreat
namespace Go.Proofs.YtjffohpdjicfpaaGreat
open Go Go.RowKit Go.ChangeShapes Go.WideShapes Go.ChangeAt Go.Deep
section
variable {H : Type} {enc : TypeId × Value → H} {P : Program} {w : World} {base : Nat} {spare : Nat → Bool} {held : Bool}
end
end Go.Proofs.YtjffohpdjicfpaaGreat
namespace Go.Proofs.YtjffohpdjicfpaaGreat
open Go
variable {H : Type}
theorem bulk_pos (d : DataW H) : 1 ≤ Rows.uptoBulk d := by
  cases d with
  | lit l => cases l <;> simp [Rows.uptoBulk]
  | nil => simp [Rows.uptoBulk]
  | ptr d => simp [Rows.uptoBulk]
  | slice es sp => simp [Rows.uptoBulk]
  | agg ps => simp [Rows.uptoBulk]
  | iface t d => simp [Rows.uptoBulk]
  | map es => simp [Rows.uptoBulk]
  | held h => simp [Rows.uptoBulk]
theorem bulk_all : ∀ es : List (DataW H), es.length ≤ Rows.uptoBulkAll es
  | [] => by simp
  | d :: r => by
    have := bulk_all r
    have := bulk_pos d
    simp only [List.length_cons, Rows.uptoBulkAll]
    omega
theorem bulk_slice (es sp : List (DataW H)) : es.length ≤ Rows.uptoBulk (.slice es sp) := by
  have := bulk_all es
  simp only [Rows.uptoBulk]
  omega
end Go.Proofs.YtjffohpdjicfpaaGreat
namespace Go.Proofs.YtjffohpdjicfpaaGreat
open Go Go.RowKit Go.ChangeShapes Go.WideShapes Go.ChangeAt Go.Deep
section
variable {H : Type} {enc : TypeId × Value → H} {P : Program} {w : World} {base : Nat} {spare : Nat → Bool} {held : Bool}
theorem lies_gen {α : Type} {size : Nat} {cells : α → List Value} (hcl : ∀ x, 0 < (cells x).length) {len : Nat} {a : Addr} {f : Nat → α} (hp : 0 < len) (hf : ∀ i, i < len → ∀ (j : Nat) (u : Value), (cells (f i))[j]? = some u → w.cell? ((a.add (i * size)).add j) = some u) :
    Lies size cells w w.heap.size (some a) ((List.range len).map f) := fun _ => by
  have hz : ((a.add (0 * size)).add 0) = a := by unfold Addr.add; simp
  obtain ⟨v0, h0⟩ : ∃ v0, w.cell? a = some v0 := by
    have := hf 0 hp 0 _ (List.getElem?_eq_getElem (hcl (f 0)))
    rw [hz] at this
    exact ⟨_, this⟩
  have hspot : a.spot = none := by
    cases hs : a.spot with
    | none => rfl
    | some s =>
      unfold World.cell? at h0
      rw [hs] at h0
      split at h0 <;> simp at h0
  obtain ⟨b, o, sp⟩ := a
  simp only at hspot
  subst hspot
  have hadd : ∀ k j, ((⟨b, o, none⟩ : Addr).add k).add j = ⟨b, o + k + j, none⟩ := fun k j => by unfold Addr.add; split <;> split <;> simp_all
  refine ⟨b, o, rfl, World.block_lt_of_cell? w _ h0, fun i x hit j u hj => ?_⟩
  have hil : i < len := by have := (List.getElem?_eq_some_iff.1 hit).1; simpa using this
  have hti : f i = x := by simpa [hil] using hit
  subst hti
  have := hf i hil j u hj
  rwa [hadd] at this
theorem bulk_sum : ∀ es : List (DataW H × List MemPlace), (es.map (fun z => Rows.uptoBulk z.1)).sum = Rows.uptoBulkAll (es.map (·.1))
  | [] => by simp [Rows.uptoBulkAll]
  | x :: es => by simp only [List.map_cons, List.sum_cons, Rows.uptoBulkAll]; rw [bulk_sum es]
theorem mem_le_sum : ∀ {bs : List Nat} {b : Nat}, b ∈ bs → b ≤ bs.sum
  | [], _, h => by cases h
  | x :: bs, b, h => by
    rw [List.sum_cons]
    rcases List.mem_cons.1 h with rfl | h
    · omega
    · have := mem_le_sum h; omega
theorem len_le_sum : ∀ {bs : List Nat}, (∀ b ∈ bs, 1 ≤ b) → bs.length ≤ bs.sum
  | [], _ => Nat.le_refl _
  | x :: bs, h => by
    have h1 := h x (by simp)
    have h2 := len_le_sum (bs := bs) fun b hb => h b (by simp [hb])
    rw [List.sum_cons, List.length_cons]
    omega
theorem open_list_bulk {α : Type} [Inhabited α] {size : Nat} {cells : α → List Value} {OK : α → Nat → Prop} {t e : TypeId} {fuel : Nat} (ht : P.underlying t = some (.slice e)) (hc : P.cellsOf e = size) (hcl : ∀ x, 0 < (cells x).length)
    (dec : ∀ {n : Nat} {cs : List Value} {x : DataW H × List MemPlace}, n < fuel → DataW.trod enc P w base spare held n e cs = some x → ∃ a, cs = cells a ∧ OK a (Rows.uptoBulk x.1))
    {cs : List Value} {x : DataW H × List MemPlace} (hf : DataW.trod enc P w base spare held fuel t cs = some x) :
    ∃ (A : Option Addr) (c : Nat) (l : List α) (bs : List Nat), cs = [.slice A l.length c] ∧ l.length ≤ c ∧ c ≤ maxLen ∧ Lies size cells w w.heap.size A l ∧ bs.length = l.length ∧ bs.sum + 1 ≤ Rows.uptoBulk x.1 ∧ (∀ b ∈ bs, 1 ≤ b) ∧
      ∀ (i : Nat) (a : α), l[i]? = some a → ∃ b, bs[i]? = some b ∧ OK a b := by
  rcases DataW.trod_slice ht hf with ⟨h1, h2⟩ | ⟨a, len, cap, elems, rest, n, hfu, h1, h2, hb, hl, hm, hlen, hel, hsp, hns⟩
  · subst h1 h2
    exact ⟨none, 0, [], [], rfl, Nat.le_refl _, Nat.zero_le _, Lies.nil_, rfl, by simp [Rows.uptoBulk], fun b h => (by cases h), fun i a h => (by simp at h)⟩
  · rw [hc] at hel
    have hT : ∀ i, i < len → ∃ y : α, (∃ b, (elems.map (fun z => Rows.uptoBulk z.1))[i]? = some b ∧ OK y b) ∧ ∀ (j : Nat) (u : Value), (cells y)[j]? = some u → w.cell? ((a.add (i * size)).add j) = some u := fun i hi => by
      have h1 := hel i hi
      rw [List.getElem?_eq_getElem (by omega)] at h1
      obtain ⟨cs', h2, h3⟩ := Option.bind_eq_some_iff.1 h1
      obtain ⟨y, rfl, hy⟩ := dec (by omega) h3
      obtain ⟨_, hle2, hat⟩ := World.cells?_some h2
      refine ⟨y, ⟨_, by rw [List.getElem?_map, List.getElem?_eq_getElem (by omega)]; rfl, hy⟩, fun j u hj => ?_⟩
      rw [hat j (by have := (List.getElem?_eq_some_iff.1 hj).1; omega)]
      exact hj
    obtain ⟨f, hf'⟩ := choose_lt hT
    have hle : ((List.range len).map f).length = len := by simp
    refine ⟨some a, cap, (List.range len).map f, elems.map (fun z => Rows.uptoBulk z.1), by rw [hle]; exact h1, by rw [hle]; exact hl, hm, ?_, by rw [hle, List.length_map, hlen], ?_, ?_, ?_⟩
    · by_cases hp : 0 < len
      · exact lies_gen hcl hp fun i hi => (hf' i hi).2
      · exact fun h => by rw [hle] at h; omega
    · rw [h2]
      simp only [Rows.uptoBulk]
      rw [bulk_sum]
      omega
    · intro b hb
      obtain ⟨z, _, rfl⟩ := List.mem_map.1 hb
      exact bulk_pos _
    · intro i y hi
      have hil : i < len := by have := (List.getElem?_eq_some_iff.1 hi).1; simpa using this
      have hti : f i = y := by simpa [hil] using hi
      subst hti
      exact (hf' i hil).1
end
set_option maxRecDepth 100000
section
variable {H : Type} {enc : TypeId × Value → H} {w : World} {base : Nat} {spare : Nat → Bool} {held : Bool}
set_option maxRecDepth 100000 in
theorem trod_val {fuel : Nat} {cs : List Value} {x : DataW H × List MemPlace} (h : DataW.trod enc Tryz.prog w base spare held fuel 122 cs = some x) : ∃ v : Vl, cs = v.cells ∧ VOk v := by
  obtain ⟨xs, n, _, _, hlen, hxs, hf⟩ := DataW.trod_struct Tryz.underlying122 h
  have hc : Tryz.prog.cellsOf 122 = 3 := by kernel_rfl
  have hcb : Tryz.prog.cellsOf 4 = 1 := by kernel_rfl
  have hci : Tryz.prog.cellsOf 2 = 1 := by kernel_rfl
  have hcs : Tryz.prog.cellsOf 9 = 1 := by kernel_rfl
  rw [hc] at hlen
  match cs, hlen with
  | [c0, c1, c2], _ =>
    have h0 := hf 0 _ rfl
    have h1 := hf 1 _ rfl
    have h2 := hf 2 _ rfl
    match xs, hxs with
    | [y0, y1, y2], _ =>
      simp only [hcb, hci, hcs, List.drop_zero, List.take_succ_cons, List.take_zero, List.drop_succ_cons, List.getElem?_cons_zero, List.getElem?_cons_succ] at h0 h1 h2
      obtain ⟨n0, e0, _⟩ := DataW.trod_bool Tryz.underlying4 h0
      obtain ⟨n1, e1, _, w1⟩ := DataW.trod_int Tryz.underlying2 h1
      obtain ⟨n2, e2, _, w2⟩ := DataW.trod_string Tryz.underlying9 h2
      obtain rfl := (List.cons.inj e0).1
      obtain rfl := (List.cons.inj e1).1
      obtain rfl := (List.cons.inj e2).1
      exact ⟨⟨n0, n1, n2⟩, rfl, w2, wf_i64 w1⟩
theorem open_rowC {fuel : Nat} {cs : List Value} {x : DataW H × List MemPlace} (h : DataW.trod enc Tryz.prog w base spare held fuel 47 cs = some x) :
    ∃ (A : Option Addr) (c : Nat) (l : List Vl), cs = [.slice A l.length c] ∧ Vals w w.heap.size A l ∧ (∀ v ∈ l, VOk v) ∧ l.length ≤ Rows.uptoBulk x.1 := by
  obtain ⟨A, c, l, bs, e, h1, h2, h3, h4, h5, h6, h7⟩ := open_list_bulk (size := 3) (cells := Vl.cells) (OK := fun v _ => VOk v) Tryz.underlying47 (by kernel_rfl) (fun _ => by simp [Vl.cells]) (fun {n cs x} _ ht => trod_val ht) h
  have := len_le_sum h6
  refine ⟨A, c, l, e, vals_of_lies h3, fun v hv => ?_, by omega⟩
  obtain ⟨i, hi⟩ := List.getElem?_of_mem hv
  exact (h7 i v hi).elim fun _ h => h.2
def UIs (w : World) (u : Up) (b : Nat) : Prop := UIn w w.heap.size u ∧ (b ≤ 1048576 → UOk u)
set_option maxRecDepth 100000 in
theorem trod_up {fuel : Nat} {cs : List Value} {x : DataW H × List MemPlace} (h : DataW.trod enc Tryz.prog w base spare held fuel 49 cs = some x) : ∃ u : Up, cs = u.cells ∧ UIs w u (Rows.uptoBulk x.1) := by
  obtain ⟨xs, n, hfu, hx, hlen, hxs, hf⟩ := DataW.trod_struct Tryz.underlying49 h
  have hc : Tryz.prog.cellsOf 49 = 6 := by kernel_rfl
  have hc0 : Tryz.prog.cellsOf 47 = 1 := by kernel_rfl
  have hc1 : Tryz.prog.cellsOf 26 = 3 := by kernel_rfl
  have hc2 : Tryz.prog.cellsOf 2 = 1 := by kernel_rfl
  rw [hc] at hlen
  match cs, hlen with
  | [c0, c1, c2, c3, c4, c5], _ =>
    have h0 := hf 0 _ rfl
    have h1 := hf 1 _ rfl
    have h2 := hf 2 _ rfl
    have h3 := hf 3 _ rfl
    match xs, hxs with
    | [y0, y1, y2, y3], _ =>
      simp only [hc0, hc1, hc2, List.drop_zero, List.take_succ_cons, List.take_zero, List.drop_succ_cons, List.getElem?_cons_zero, List.getElem?_cons_succ] at h0 h1 h2 h3
      obtain ⟨A0, k0, l0, e0, i0, o0, m0⟩ := open_rowC h0
      obtain ⟨A1, k1, l1, e1, i1, o1, m1⟩ := open_rowC h1
      obtain ⟨t, e2⟩ := trod_time h2
      obtain ⟨d, e3, _, w3⟩ := DataW.trod_int Tryz.underlying2 h3
      have hM : Rows.uptoBulk x.1 = Rows.uptoBulk y0.1 + (Rows.uptoBulk y1.1 + (Rows.uptoBulk y2.1 + (Rows.uptoBulk y3.1 + 0))) + 1 := by
        rw [hx]
        simp only [List.map_cons, List.map_nil, Rows.uptoBulk, Rows.uptoBulkAll]
      obtain rfl := (List.cons.inj e0).1
      obtain rfl := (List.cons.inj e1).1
      obtain rfl := (List.cons.inj e3).1
      simp only [Tm.cells, List.cons.injEq, and_true] at e2
      obtain ⟨rfl, rfl, rfl⟩ := e2
      refine ⟨⟨A0, k0, l0, A1, k1, l1, t, d⟩, rfl, ⟨i0, i1⟩, fun hb => ⟨?_, ?_, o0, o1, wf_i64 w3⟩⟩
      · show l0.length ≤ _; omega
      · show l1.length ≤ _; omega
theorem open_upsC {fuel : Nat} {cs : List Value} {x : DataW H × List MemPlace} (h : DataW.trod enc Tryz.prog w base spare held fuel 22 cs = some x) :
    ∃ s : Rw Up, cs = s.cells ∧ s.l.length ≤ s.c ∧ s.c ≤ maxLen ∧ Ups w w.heap.size s.A s.l ∧ (Rows.uptoBulk x.1 ≤ 1048576 → ∀ u ∈ s.l, UOk u) ∧ s.l.length + 1 ≤ Rows.uptoBulk x.1 := by
  obtain ⟨A, c, l, bs, e, h1, h2, h3, h4, h5, h6, h7⟩ := open_list_bulk (size := 6) (cells := Up.cells) (OK := UIs w) Tryz.underlying22 (by kernel_rfl) (fun _ => by simp [Up.cells]) (fun {n cs x} _ ht => trod_up ht) h
  have := len_le_sum h6
  refine ⟨⟨A, c, l⟩, e, h1, h2, ⟨h3, fun u hu => ?_⟩, fun hb u hu => ?_, by show l.length + 1 ≤ _; omega⟩
  · obtain ⟨i, hi⟩ := List.getElem?_of_mem hu
    exact (h7 i u hi).elim fun _ h => h.2.1
  · obtain ⟨i, hi⟩ := List.getElem?_of_mem hu
    obtain ⟨b, hb1, hb2⟩ := h7 i u hi
    have := mem_le_sum (List.mem_of_getElem? hb1)
    exact hb2.2 (by omega)
theorem open_ups {v : Value} {d : DataW H} {p : List MemPlace} {r : Reach} {b0 : Nat} (hv : Value.okWide Tryz.prog w r b0 22 v) (h : DataW.Trod enc Tryz.prog w base spare held 22 v d p) :
    ∃ (A : Option Addr) (c : Nat) (l : List Up), v = .slice A l.length c ∧ l.length ≤ c ∧ c ≤ maxLen ∧ Ups w w.heap.size A l ∧ (Rows.uptoBulk d ≤ 1048576 → ∀ u ∈ l, UOk u) ∧ l.length ≤ Rows.uptoBulk d := by
  obtain ⟨a0, n0, c0, rfl⟩ := okWide_slice Tryz.underlying22 hv
  obtain ⟨fuel, hf⟩ := h
  simp only [Value.cells] at hf
  obtain ⟨⟨A, c, l⟩, e, h1, h2, h3, h4, h5⟩ := open_upsC hf
  exact ⟨A, c, l, by simpa [Rw.cells] using e, h1, h2, h3, h4, Nat.le_of_succ_le h5⟩
end
set_option maxRecDepth 100000
section
variable {H : Type} {enc : TypeId × Value → H} {w : World} {base : Nat} {spare : Nat → Bool} {held : Bool}
theorem open_timesC {fuel : Nat} {cs : List Value} {x : DataW H × List MemPlace} (h : DataW.trod enc Tryz.prog w base spare held fuel 33 cs = some x) :
    ∃ (A : Option Addr) (c : Nat) (l : List Tm), cs = [.slice A l.length c] ∧ l.length ≤ c ∧ c ≤ maxLen ∧ Times w w.heap.size A l ∧ l.length ≤ Rows.uptoBulk x.1 := by
  obtain ⟨A, c, l, bs, e, h1, h2, h3, h4, h5, h6, h7⟩ := open_list_bulk (size := 3) (cells := Tm.cells) (OK := fun _ _ => True) Tryz.underlying33 (by kernel_rfl) (fun _ => by simp [Tm.cells]) (fun {n cs x} _ ht => (trod_time ht).elim fun t e => ⟨t, e, trivial⟩) h
  have := len_le_sum h6
  exact ⟨A, c, l, e, h1, h2, times_lies h3, by omega⟩
end
def UOkK (u : Up) : Prop := UOk u ∧ u.key.length ≤ 1099511627776 ∧ u.row.length ≤ 1099511627776
set_option maxRecDepth 100000
section
variable {H : Type} {enc : TypeId × Value → H} {w : World} {base : Nat} {spare : Nat → Bool} {held : Bool}
def UIsK (w : World) (u : Up) (b : Nat) : Prop := UIn w w.heap.size u ∧ (b ≤ 1048576 → UOkK u)
set_option maxRecDepth 100000 in
theorem trod_upK {fuel : Nat} {cs : List Value} {x : DataW H × List MemPlace} (h : DataW.trod enc Tryz.prog w base spare held fuel 49 cs = some x) : ∃ u : Up, cs = u.cells ∧ UIsK w u (Rows.uptoBulk x.1) := by
  obtain ⟨xs, n, hfu, hx, hlen, hxs, hf⟩ := DataW.trod_struct Tryz.underlying49 h
  have hc : Tryz.prog.cellsOf 49 = 6 := by kernel_rfl
  have hc0 : Tryz.prog.cellsOf 47 = 1 := by kernel_rfl
  have hc1 : Tryz.prog.cellsOf 26 = 3 := by kernel_rfl
  have hc2 : Tryz.prog.cellsOf 2 = 1 := by kernel_rfl
  rw [hc] at hlen
  match cs, hlen with
  | [c0, c1, c2, c3, c4, c5], _ =>
    have h0 := hf 0 _ rfl
    have h1 := hf 1 _ rfl
    have h2 := hf 2 _ rfl
    have h3 := hf 3 _ rfl
    match xs, hxs with
    | [y0, y1, y2, y3], _ =>
      simp only [hc0, hc1, hc2, List.drop_zero, List.take_succ_cons, List.take_zero, List.drop_succ_cons, List.getElem?_cons_zero, List.getElem?_cons_succ] at h0 h1 h2 h3
      obtain ⟨A0, k0, l0, e0, i0, o0, m0⟩ := open_rowC h0
      obtain ⟨A1, k1, l1, e1, i1, o1, m1⟩ := open_rowC h1
      obtain ⟨t, e2⟩ := trod_time h2
      obtain ⟨d, e3, _, w3⟩ := DataW.trod_int Tryz.underlying2 h3
      have hM : Rows.uptoBulk x.1 = Rows.uptoBulk y0.1 + (Rows.uptoBulk y1.1 + (Rows.uptoBulk y2.1 + (Rows.uptoBulk y3.1 + 0))) + 1 := by
        rw [hx]
        simp only [List.map_cons, List.map_nil, Rows.uptoBulk, Rows.uptoBulkAll]
      obtain rfl := (List.cons.inj e0).1
      obtain rfl := (List.cons.inj e1).1
      obtain rfl := (List.cons.inj e3).1
      simp only [Tm.cells, List.cons.injEq, and_true] at e2
      obtain ⟨rfl, rfl, rfl⟩ := e2
      refine ⟨⟨A0, k0, l0, A1, k1, l1, t, d⟩, rfl, ⟨i0, i1⟩, fun hb => ⟨⟨?_, ?_, o0, o1, wf_i64 w3⟩, ?_, ?_⟩⟩
      · show l0.length ≤ _; omega
      · show l1.length ≤ _; omega
      · show l0.length ≤ _; omega
      · show l1.length ≤ _; omega
theorem open_upsK {fuel : Nat} {cs : List Value} {x : DataW H × List MemPlace} (h : DataW.trod enc Tryz.prog w base spare held fuel 22 cs = some x) :
    ∃ s : Rw Up, cs = s.cells ∧ s.l.length ≤ s.c ∧ s.c ≤ maxLen ∧ Ups w w.heap.size s.A s.l ∧ (Rows.uptoBulk x.1 ≤ 1048576 → ∀ u ∈ s.l, UOkK u) ∧ s.l.length + 1 ≤ Rows.uptoBulk x.1 := by
  obtain ⟨A, c, l, bs, e, h1, h2, h3, h4, h5, h6, h7⟩ := open_list_bulk (size := 6) (cells := Up.cells) (OK := UIsK w) Tryz.underlying22 (by kernel_rfl) (fun _ => by simp [Up.cells]) (fun {n cs x} _ ht => trod_upK ht) h
  have := len_le_sum h6
  refine ⟨⟨A, c, l⟩, e, h1, h2, ⟨h3, fun u hu => ?_⟩, fun hb u hu => ?_, by show l.length + 1 ≤ _; omega⟩
  · obtain ⟨i, hi⟩ := List.getElem?_of_mem hu
    exact (h7 i u hi).elim fun _ h => h.2.1
  · obtain ⟨i, hi⟩ := List.getElem?_of_mem hu
    obtain ⟨b, hb1, hb2⟩ := h7 i u hi
    have := mem_le_sum (List.mem_of_getElem? hb1)
    exact hb2.2 (by omega)
end
set_option maxRecDepth 100000
section
variable {H : Type} {enc : TypeId × Value → H} {w : World} {base : Nat} {spare : Nat → Bool} {held : Bool}
set_option maxRecDepth 100000 in
theorem trod_batchS {fuel : Nat} {cs : List Value} {x : DataW H × List MemPlace} (h : DataW.trod enc Tryz.prog w base spare held fuel 125 cs = some x) : ∃ b : Bt, cs = b.cells ∧ BtIn w w.heap.size b ∧ (Rows.uptoBulk x.1 ≤ 1048576 → BtOk b ∧ ∀ u ∈ b.l, u.key.length ≤ 1099511627776 ∧ u.row.length ≤ 1099511627776) ∧ b.l.length ≤ Rows.uptoBulk x.1 ∧ b.l.length ≤ b.uc ∧ b.uc ≤ maxLen := by
  obtain ⟨xs, n, _, hx, hlen, hxs, hf⟩ := DataW.trod_struct Tryz.underlying125 h
  have hc : Tryz.prog.cellsOf 125 = 2 := by kernel_rfl
  have hc0 : Tryz.prog.cellsOf 33 = 1 := by kernel_rfl
  have hc1 : Tryz.prog.cellsOf 22 = 1 := by kernel_rfl
  rw [hc] at hlen
  match cs, hlen with
  | [c0, c1], _ =>
    have h0 := hf 0 _ rfl
    have h1 := hf 1 _ rfl
    match xs, hxs with
    | [y0, y1], _ =>
      simp only [hc0, hc1, List.drop_zero, List.take_succ_cons, List.take_zero, List.drop_succ_cons, List.getElem?_cons_zero, List.getElem?_cons_succ] at h0 h1
      obtain ⟨A0, k0, l0, e0, g0, m0, i0, n0⟩ := open_timesC h0
      obtain ⟨⟨A1, k1, l1⟩, e1, g1, m1, i1, o1, n1⟩ := open_upsK h1
      obtain rfl := (List.cons.inj e0).1
      obtain rfl := (List.cons.inj e1).1
      have hM : Rows.uptoBulk x.1 = Rows.uptoBulk y0.1 + (Rows.uptoBulk y1.1 + 0) + 1 := by
        rw [hx]
        simp only [List.map_cons, List.map_nil, Rows.uptoBulk, Rows.uptoBulkAll]
      have n1 : l1.length + 1 ≤ Rows.uptoBulk y1.1 := n1
      exact ⟨⟨A0, k0, l0, A1, k1, l1⟩, rfl, ⟨i0, i1⟩, fun hb => ⟨⟨⟨by show l0.length ≤ _; omega, g0, m0⟩, ⟨by show l1.length ≤ _; omega, fun u hu => (o1 (by omega) u hu).1⟩⟩, fun u hu => (o1 (by omega) u hu).2⟩, by show l1.length ≤ _; omega, g1, m1⟩
theorem trod_mergerS {fuel : Nat} {cs : List Value} {x : DataW H × List MemPlace} (h : DataW.trod enc Tryz.prog w base spare held fuel 127 cs = some x) : ∃ m : Mg, cs = m.cells ∧ MgIn w w.heap.size m ∧ (Rows.uptoBulk x.1 ≤ 1048576 → MgOk m ∧ ∀ u, u ∈ m.a ∨ u ∈ m.b ∨ u ∈ m.o → u.key.length ≤ 1099511627776 ∧ u.row.length ≤ 1099511627776) ∧ m.a.length + m.b.length + m.o.length ≤ Rows.uptoBulk x.1 ∧ McOk m ∧ m.o.length ≤ m.oc ∧ m.oc ≤ maxLen := by
  obtain ⟨xs, n, _, hx, hlen, hxs, hf⟩ := DataW.trod_struct Tryz.underlying127 h
  have hc : Tryz.prog.cellsOf 127 = 6 := by kernel_rfl
  have hc0 : Tryz.prog.cellsOf 33 = 1 := by kernel_rfl
  have hc1 : Tryz.prog.cellsOf 22 = 1 := by kernel_rfl
  have hc2 : Tryz.prog.cellsOf 3 = 1 := by kernel_rfl
  rw [hc] at hlen
  match cs, hlen with
  | [c0, c1, c2, c3, c4, c5], _ =>
    have h0 := hf 0 _ rfl
    have h1 := hf 1 _ rfl
    have h2 := hf 2 _ rfl
    have h3 := hf 3 _ rfl
    have h4 := hf 4 _ rfl
    have h5 := hf 5 _ rfl
    match xs, hxs with
    | [y0, y1, y2, y3, y4, y5], _ =>
      simp only [hc0, hc1, hc2, List.drop_zero, List.take_succ_cons, List.take_zero, List.drop_succ_cons, List.getElem?_cons_zero, List.getElem?_cons_succ] at h0 h1 h2 h3 h4 h5
      obtain ⟨⟨A0, k0, l0⟩, e0, g0, m0, i0, o0, n0⟩ := open_upsK h0
      obtain ⟨⟨A1, k1, l1⟩, e1, g1, m1, i1, o1, n1⟩ := open_upsK h1
      obtain ⟨n2, e2, _, w2⟩ := DataW.trod_int Tryz.underlying3 h2
      obtain ⟨n3, e3, _, w3⟩ := DataW.trod_int Tryz.underlying3 h3
      obtain ⟨A4, k4, l4, e4, g4, m4, i4, n4⟩ := open_timesC h4
      obtain ⟨⟨A5, k5, l5⟩, e5, g5, m5, i5, o5, n5⟩ := open_upsK h5
      obtain rfl := (List.cons.inj e0).1
      obtain rfl := (List.cons.inj e1).1
      obtain rfl := (List.cons.inj e2).1
      obtain rfl := (List.cons.inj e3).1
      obtain rfl := (List.cons.inj e4).1
      obtain rfl := (List.cons.inj e5).1
      have hM : Rows.uptoBulk x.1 = Rows.uptoBulk y0.1 + (Rows.uptoBulk y1.1 + (Rows.uptoBulk y2.1 + (Rows.uptoBulk y3.1 + (Rows.uptoBulk y4.1 + (Rows.uptoBulk y5.1 + 0))))) + 1 := by
        rw [hx]
        simp only [List.map_cons, List.map_nil, Rows.uptoBulk, Rows.uptoBulkAll]
      have n0 : l0.length + 1 ≤ Rows.uptoBulk y0.1 := n0
      have n1 : l1.length + 1 ≤ Rows.uptoBulk y1.1 := n1
      have n5 : l5.length + 1 ≤ Rows.uptoBulk y5.1 := n5
      refine ⟨⟨A0, k0, l0, A1, k1, l1, n2, n3, A4, k4, l4, A5, k5, l5⟩, rfl, ⟨i0, i1, i4, i5⟩, fun hb => ⟨⟨⟨?_, fun u hu => (o0 (by omega) u hu).1⟩, ⟨?_, fun u hu => (o1 (by omega) u hu).1⟩, ⟨?_, g4, m4⟩, ⟨?_, fun u hu => (o5 (by omega) u hu).1⟩, wf_i64 w2, wf_i64 w3⟩, fun u hu => ?_⟩, ?_, ⟨g0, m0, g1, m1⟩, g5, m5⟩
      · show l0.length ≤ _; omega
      · show l1.length ≤ _; omega
      · show l4.length ≤ _; omega
      · show l5.length ≤ _; omega
      · rcases hu with hu | hu | hu
        · exact (o0 (by omega) u hu).2
        · exact (o1 (by omega) u hu).2
        · exact (o5 (by omega) u hu).2
      · show l0.length + l1.length + l5.length ≤ _; omega
structure LvSh (l : Lv) : Prop where
  b : ∀ u ∈ l.b.l, u.key.length ≤ 1099511627776 ∧ u.row.length ≤ 1099511627776
  m : ∀ u, u ∈ l.m.a ∨ u ∈ l.m.b ∨ u ∈ l.m.o → u.key.length ≤ 1099511627776 ∧ u.row.length ≤ 1099511627776
  le : l.b.l.length ≤ l.b.uc
  uc : l.b.uc ≤ maxLen
  ole : l.m.o.length ≤ l.m.oc
  oc : l.m.oc ≤ maxLen
def LvIs (w : World) (l : Lv) (b : Nat) : Prop := LvIn w w.heap.size l ∧ (b ≤ 1048576 → LvOk l ∧ LvSh l) ∧ wtL l ≤ b
set_option maxRecDepth 100000 in
theorem trod_lvS {fuel : Nat} {cs : List Value} {x : DataW H × List MemPlace} (h : DataW.trod enc Tryz.prog w base spare held fuel 129 cs = some x) : ∃ l : Lv, cs = l.cells ∧ LvIs w l (Rows.uptoBulk x.1) := by
  obtain ⟨xs, n, _, hx, hlen, hxs, hf⟩ := DataW.trod_struct Tryz.underlying129 h
  have hc : Tryz.prog.cellsOf 129 = 10 := by kernel_rfl
  have hc0 : Tryz.prog.cellsOf 3 = 1 := by kernel_rfl
  have hc1 : Tryz.prog.cellsOf 4 = 1 := by kernel_rfl
  have hc2 : Tryz.prog.cellsOf 125 = 2 := by kernel_rfl
  have hc3 : Tryz.prog.cellsOf 127 = 6 := by kernel_rfl
  rw [hc] at hlen
  match cs, hlen with
  | [c0, c1, c2, c3, c4, c5, c6, c7, c8, c9], _ =>
    have h0 := hf 0 _ rfl
    have h1 := hf 1 _ rfl
    have h2 := hf 2 _ rfl
    have h3 := hf 3 _ rfl
    match xs, hxs with
    | [y0, y1, y2, y3], _ =>
      simp only [hc0, hc1, hc2, hc3, List.drop_zero, List.take_succ_cons, List.take_zero, List.drop_succ_cons, List.getElem?_cons_zero, List.getElem?_cons_succ] at h0 h1 h2 h3
      obtain ⟨n0, e0, _, w0⟩ := DataW.trod_int Tryz.underlying3 h0
      obtain ⟨n1, e1, _⟩ := DataW.trod_bool Tryz.underlying4 h1
      obtain ⟨b, e2, i2, o2, l2, r2, m2⟩ := trod_batchS h2
      obtain ⟨m, e3, i3, o3, l3, r3, r4, r5⟩ := trod_mergerS h3
      obtain rfl := (List.cons.inj e0).1
      obtain rfl := (List.cons.inj e1).1
      have hM : Rows.uptoBulk x.1 = Rows.uptoBulk y0.1 + (Rows.uptoBulk y1.1 + (Rows.uptoBulk y2.1 + (Rows.uptoBulk y3.1 + 0))) + 1 := by
        rw [hx]
        simp only [List.map_cons, List.map_nil, Rows.uptoBulk, Rows.uptoBulkAll]
      refine ⟨⟨n0, n1, b, m⟩, ?_, ⟨i2, i3⟩, fun hb => ⟨⟨wf_i64 w0, (o2 (by omega)).1, (o3 (by omega)).1, r3⟩, ⟨(o2 (by omega)).2, (o3 (by omega)).2, r2, m2, r4, r5⟩⟩, ?_⟩
      · have e2 : [c2, c3] = b.cells := e2
        have e3 : [c4, c5, c6, c7, c8, c9] = m.cells := e3
        show _ = _ :: _ :: (b.cells ++ m.cells)
        rw [← e2, ← e3]
        rfl
      · have h4 : wtL ⟨n0, n1, b, m⟩ ≤ b.l.length + (m.a.length + m.b.length + m.o.length) := by
          unfold wtL partsM
          simp only [List.length_append, List.length_drop]
          split <;> omega
        omega
theorem wt_sum : ∀ (L : List Lv) (bs : List Nat), bs.length = L.length → (∀ (i : Nat) (l : Lv), L[i]? = some l → ∃ b, bs[i]? = some b ∧ wtL l ≤ b) → wtS L ≤ bs.sum
  | [], _, _, _ => Nat.zero_le _
  | l :: L, [], h, _ => by cases h
  | l :: L, b :: bs, h, hs => by
    rw [wt_cons', List.sum_cons]
    obtain ⟨b', e, hb⟩ := hs 0 l rfl
    obtain rfl : b = b' := Option.some.inj e
    have := wt_sum L bs (by simpa using h) (fun i x hx => hs (i + 1) x hx)
    omega
set_option maxRecDepth 100000 in
theorem trod_spS {fuel : Nat} {cs : List Value} {x : DataW H × List MemPlace} (h : DataW.trod enc Tryz.prog w base spare held fuel 36 cs = some x) : ∃ s : Sp, cs = s.cells ∧ SpIn w w.heap.size s ∧ (Rows.uptoBulk x.1 ≤ 1048576 → SpOk s ∧ ∀ l ∈ s.L, LvSh l) ∧ wtS s.L ≤ Rows.uptoBulk x.1 ∧ s.L.length ≤ Rows.uptoBulk x.1 := by
  obtain ⟨xs, n, _, hx, hlen, hxs, hf⟩ := DataW.trod_struct Tryz.underlying36 h
  have hc : Tryz.prog.cellsOf 36 = 2 := by kernel_rfl
  have hc0 : Tryz.prog.cellsOf 33 = 1 := by kernel_rfl
  have hc1 : Tryz.prog.cellsOf 34 = 1 := by kernel_rfl
  rw [hc] at hlen
  match cs, hlen with
  | [c0, c1], _ =>
    have h0 := hf 0 _ rfl
    have h1 := hf 1 _ rfl
    match xs, hxs with
    | [y0, y1], _ =>
      simp only [hc0, hc1, List.drop_zero, List.take_succ_cons, List.take_zero, List.drop_succ_cons, List.getElem?_cons_zero, List.getElem?_cons_succ] at h0 h1
      obtain ⟨A0, k0, l0, e0, g0, m0, i0, n0⟩ := open_timesC h0
      obtain ⟨A, c, l, bs, e, g1, m1, g3, g4, g5, g6, g7⟩ := open_list_bulk (size := 10) (cells := Lv.cells) (OK := LvIs w) Tryz.underlying34 (by kernel_rfl) (fun _ => by simp [Lv.cells]) (fun {n cs x} _ ht => trod_lvS ht) h1
      obtain rfl := (List.cons.inj e0).1
      obtain rfl := (List.cons.inj e).1
      have hM : Rows.uptoBulk x.1 = Rows.uptoBulk y0.1 + (Rows.uptoBulk y1.1 + 0) + 1 := by
        rw [hx]
        simp only [List.map_cons, List.map_nil, Rows.uptoBulk, Rows.uptoBulkAll]
      have hlb := len_le_sum g6
      have hws := wt_sum l bs g4 (fun i a ha => (g7 i a ha).imp fun b h => ⟨h.1, h.2.2.2⟩)
      have hel : ∀ a ∈ l, ∃ b, b ≤ bs.sum ∧ LvIs w a b := fun a ha => by
        obtain ⟨i, hi⟩ := List.getElem?_of_mem ha
        obtain ⟨b, hb1, hb2⟩ := g7 i a hi
        exact ⟨b, mem_le_sum (List.mem_of_getElem? hb1), hb2⟩
      refine ⟨⟨A0, k0, l0, A, c, l⟩, rfl, ⟨i0, ⟨g3, fun a ha => ?_⟩⟩, fun hb => ⟨⟨⟨?_, g0, m0⟩, ?_, g1, m1, fun a ha => ?_⟩, fun a ha => ?_⟩, ?_, ?_⟩
      · obtain ⟨_, _, h⟩ := hel a ha
        exact h.1
      · show l0.length ≤ _; omega
      · show l.length ≤ _; omega
      · obtain ⟨b, hb1, h⟩ := hel a ha
        exact (h.2.1 (by omega)).1
      · obtain ⟨b, hb1, h⟩ := hel a ha
        exact (h.2.1 (by omega)).2
      · show wtS l ≤ _; omega
      · show l.length ≤ _; omega
theorem open_spine {v : Value} {d : DataW H} {p : List MemPlace} {r : Reach} {b0 : Nat} (hv : Value.okWide Tryz.prog w r b0 36 v) (h : DataW.Trod enc Tryz.prog w base spare held 36 v d p) : ∃ s : Sp, v = s.val ∧ SpIn w w.heap.size s ∧ (Rows.uptoBulk d ≤ 1048576 → SpOk s ∧ ∀ l ∈ s.L, LvSh l) ∧ wtS s.L ≤ Rows.uptoBulk d ∧ s.L.length ≤ Rows.uptoBulk d := by
  obtain ⟨cs, rfl, hsz⟩ := okWide_struct Tryz.underlying36 hv
  obtain ⟨fuel, hf⟩ := h
  obtain ⟨e, he, hok⟩ := trod_spS hf
  refine ⟨e, ?_, hok⟩
  obtain ⟨l⟩ := cs
  simp only [Value.cells] at he
  unfold Sp.val
  rw [show l = e.cells from by simpa using he]
  rfl
end
end Go.Proofs.YtjffohpdjicfpaaGreat
namespace Go.Proofs.YtjffohpdjicfpaaGreat
open Go Go.RowKit
theorem beyond_isJ (A : Option Addr) (c : Nat) (l : List Tm) (t : Tm) (w : World) (hl : Times w w.heap.size A l) (hn : l.length ≤ maxLen) {b : Bool} (h : beyond l t = b) :
    Calls Tryz.prog 15 #[.slice A l.length c, .agg #[.int .u64 (t.e : Int), .int .u64 (t.a : Int), .int .u64 (t.b : Int)]] w fun e w' => e = .returned (.bool b) ∧ Below w.heap.size w w' := by
  have := beyond_any A c l t w hl hn
  rw [h] at this
  exact this
theorem cmpd_of {s a : Sp} {g : List Tm} {E : Int} (h : (¬ SpGood s.f s.L ∧ E = 8 ∧ a = Sp.nil) ∨ (SpGood s.f s.L ∧ a.L.map Lv.pl = s.L.map Lv.pl ∧ ((¬ FrontOk g ∧ E = 4 ∧ a.f = s.f) ∨ (FrontOk g ∧ ¬ LaterF g s.f ∧ E = 1 ∧ a.f = s.f) ∨ (FrontOk g ∧ LaterF g s.f ∧ E = 0 ∧ a.f = g)))) (hE : E = 0) : Cmpd s a g := by
  rcases h with ⟨_, h, _⟩ | ⟨hg, hp, ⟨_, h, _⟩ | ⟨_, _, h, _⟩ | ⟨h1, h2, _, h4⟩⟩
  · omega
  · omega
  · omega
  · exact ⟨hg, hp, h1, h2, h4⟩
theorem comp_wt {s a : Sp} {g : List Tm} {E : Int} (h : (¬ SpGood s.f s.L ∧ E = 8 ∧ a = Sp.nil) ∨ (SpGood s.f s.L ∧ a.L.map Lv.pl = s.L.map Lv.pl ∧ ((¬ FrontOk g ∧ E = 4 ∧ a.f = s.f) ∨ (FrontOk g ∧ ¬ LaterF g s.f ∧ E = 1 ∧ a.f = s.f) ∨ (FrontOk g ∧ LaterF g s.f ∧ E = 0 ∧ a.f = g)))) : wtS a.L ≤ wtS s.L := by
  rcases h with ⟨_, _, h⟩ | ⟨_, hp, _⟩
  · rw [h]; exact Nat.zero_le _
  · rw [(pl_parts hp).2.2.1]; exact Nat.le_refl _
theorem spt_boxT (w : World) (a b : Sp) (t : Tm) : ∃ V, V = ((w.alloc (.cells #[.slice a.sA a.f.length a.sc, .slice a.lA a.L.length a.lc] 36)).alloc (.cells #[.slice b.sA b.f.length b.sc, .slice b.lA b.L.length b.lc] 36)).alloc (.cells #[.int .u64 (t.e : Int), .int .u64 (t.a : Int), .int .u64 (t.b : Int)] 26) ∧ Below w.heap.size w V ∧ Own V (w.heap.size + 1 + 1) 26 [.int .u64 (t.e : Int), .int .u64 (t.a : Int), .int .u64 (t.b : Int)] := by
  obtain ⟨V1, e1, b1, s1, o1⟩ := spbox w a
  obtain ⟨V2, e2, b2, s2, o2⟩ := spbox V1 b
  obtain ⟨V3, e3, b3, s3, o3⟩ := tbox3 V2 t
  have h1 : V1.heap.size = w.heap.size + 1 := s1
  have h2 : V2.heap.size = w.heap.size + 1 + 1 := by omega
  rw [h2] at o3
  exact ⟨V3, by rw [e3, e2, e1], belows (belows b1 b2) b3, o3⟩
set_option maxRecDepth 100000 in
set_option maxHeartbeats 25600000 in
theorem jcomp_walk (left right : Sp) (port : Int) (A : Option Addr) (c : Nat) (l : List Up) (A' : Option Addr) (c' : Nat) (f : List Tm) (w : World) (hL : SpIn w w.heap.size left) (oL : SpOk left) (wL : wtS left.L ≤ 1048576) (hR : SpIn w w.heap.size right) (oR : SpOk right) (wR : wtS right.L ≤ 1048576) (hl : Ups w w.heap.size A l) (ol : ∀ u ∈ l, UOk u) (hn : l.length ≤ 1048576) (hf : Times w w.heap.size A' f) (of : TsOk f c') :
    Calls Tryz.prog 5 #[left.val, right.val, .int .i64 port, .slice A l.length c, .slice A' f.length c'] w fun e w' => e = .returned (.bool true) ∧ Below w.heap.size w w' := by
  obtain ⟨V, hV, hvb, hv1, hv2⟩ := two_spJ w left right
  have y0 := fun W => Lib.hid (jlives_true W)
  have H := Lib.hid (And.intro (And.intro hL (And.intro oL wL)) (And.intro (And.intro hR (And.intro oR wR)) (And.intro (And.intro hl (And.intro ol hn)) (And.intro hf of))))
  have HV := Lib.hid (And.intro hvb (And.intro hv1 hv2))
  have hlv : left.val = .agg #[.slice left.sA left.f.length left.sc, .slice left.lA left.L.length left.lc] := rfl
  have hrv : right.val = .agg #[.slice right.sA right.f.length right.sc, .slice right.lA right.L.length right.lc] := rfl
  rw [hlv, hrv]
  have hnf : f.length ≤ maxLen := by have := of.n; unfold maxLen; omega
  have HNF := Lib.hid hnf
  clear hL oL wL hR oR wR hl ol hf of hvb hv1 hv2 hlv hrv hnf
  go_enter Tryz.func5, Tryz.ntmps5
  go_upto_region 1 with fail
  rw [← hV]
  clear hV
  go_wp2_with fail
  refine (y0 _).out.mono ?_
  rintro _ w1 ⟨rfl, b1⟩
  have hbw1 := belows HV.out.1 b1
  have o1 := HV.out.2.1.past b1 HV.out.2.1.inside
  have o2 := HV.out.2.2.past b1 HV.out.2.2.inside
  have yc := Lib.hid (compact_any left A' c' f w1 (H.out.1.1.keep hbw1) H.out.1.2.1 (times_keepS H.out.2.2.2.1 hbw1) H.out.2.2.2.2 (by have := H.out.1.2.2; omega))
  rw [show left.val = .agg #[.slice left.sA left.f.length left.sc, .slice left.lA left.L.length left.lc] from rfl] at yc
  have H1 := Lib.hid (And.intro hbw1 (And.intro o1 o2))
  obtain ⟨d0, d1⟩ := own2 o1
  clear b1 hbw1 o1 o2 y0
  go_wp2_with fail
  refine yc.out.mono ?_
  rintro _ w2 ⟨a, E1, rfl, hc1, ia, oka, _, b2⟩
  rw [show a.val = .agg #[.slice a.sA a.f.length a.sc, .slice a.lA a.L.length a.lc] from rfl]
  obtain ⟨W2, hW2, hb2, hs2, ho2⟩ := spbox w2 a
  have hbb := belows b2 hb2
  have hbw2 := belows H1.out.1 hbb
  have yc2 := Lib.hid (compact_any right A' c' f W2 (H.out.2.1.1.keep hbw2) H.out.2.1.2.1 (times_keepS H.out.2.2.2.1 hbw2) H.out.2.2.2.2 (by have := H.out.2.1.2.2; omega))
  rw [show right.val = .agg #[.slice right.sA right.f.length right.sc, .slice right.lA right.L.length right.lc] from rfl] at yc2
  have H2 := Lib.hid (And.intro hbw2 (And.intro (H1.out.2.1.past hbb H1.out.2.1.inside) (And.intro (H1.out.2.2.past hbb H1.out.2.2.inside) (And.intro ho2 (And.intro (ia.keep hb2) (And.intro oka hc1))))))
  obtain ⟨e0, e1⟩ := own2 (H1.out.2.2.past hbb H1.out.2.2.inside)
  clear b2 hb2 hs2 ho2 hbb hbw2 ia oka hc1 yc d0 d1
  go_upto_region 4 with fail
  rw [← hW2]
  clear hW2
  go_wp2_with fail
  refine yc2.out.mono ?_
  rintro _ w3 ⟨b, E2, rfl, hc2, ib, okb, _, b3⟩
  rw [show b.val = .agg #[.slice b.sA b.f.length b.sc, .slice b.lA b.L.length b.lc] from rfl]
  obtain ⟨W3, hW3, hb3, hs3, ho3⟩ := spbox w3 b
  have hbb := belows b3 hb3
  have hbw3 := belows H2.out.1 hbb
  have H3 := Lib.hid (And.intro hbw3 (And.intro (H2.out.2.1.past hbb H2.out.2.1.inside) (And.intro (H2.out.2.2.1.past hbb H2.out.2.2.1.inside) (And.intro (H2.out.2.2.2.1.past hbb H2.out.2.2.2.1.inside) (And.intro (H2.out.2.2.2.2.1.keep hbb) (And.intro H2.out.2.2.2.2.2.1 (And.intro ho3 (And.intro (ib.keep hb3) okb))))))))
  have HC := Lib.hid (And.intro H2.out.2.2.2.2.2.2 hc2)
  clear b3 hb3 hs3 ho3 hbb hbw3 ib okb hc2 yc2 e0 e1
  go_upto_region 5 with fail
  rw [← hW3]
  clear hW3
  by_cases h1 : E1 = 0
  case neg =>
    have t1 : (E1 != 0) = true := bne_iff_ne.2 h1
    clear h1
    go_wp2_with fail
    go_ret
    exact ⟨rfl, H3.out.1⟩
  subst h1
  by_cases h2 : E2 = 0
  case neg =>
    have t1 : (E2 != 0) = true := bne_iff_ne.2 h2
    clear h2
    go_wp2_with fail
    go_ret
    exact ⟨rfl, H3.out.1⟩
  subst h2
  have HCM := Lib.hid (And.intro (cmpd_of HC.out.1 rfl) (And.intro (cmpd_of HC.out.2 rfl) (And.intro (Nat.le_trans (comp_wt HC.out.1) H.out.1.2.2) (Nat.le_trans (comp_wt HC.out.2) H.out.2.1.2.2))))
  clear HC
  by_cases hf0 : f.length = 0
  case pos =>
    have t1 : ((f.length : Int) == 0) = true := by simp [hf0]
    clear hf0
    go_wp2_with fail
    go_ret
    exact ⟨rfl, H3.out.1⟩
  have t1 : ((f.length : Int) == 0) = false := beq_eq_false_iff_ne.2 (by omega)
  clear hf0
  go_wp2_with fail
  go_loopw [54] (fun vi wr => ∃ k : Nat, vi = .int .i64 (k : Int) ∧ k ≤ l.length ∧ Below W3.heap.size W3 wr ∧ ∀ x ∈ l.take k, beyond f x.t = true) (fun vi _ => l.length - (intOf vi).toNat)
  case atStart => exact ⟨0, rfl, Nat.zero_le _, Below.refl _ _, fun x hx => by simp at hx⟩
  case round =>
    obtain ⟨k, rfl, hk, hbr, hbe⟩ := hrel
    have hnl : l.length < 1048577 := by have := H.out.2.2.1.2.2; omega
    by_cases hlt : k < l.length
    · obtain ⟨u, hx⟩ : ∃ u, l[k]? = some u := ⟨_, List.getElem?_eq_getElem hlt⟩
      have hbw : Below w.heap.size w wr := H3.out.1.trans (hbr.mono H3.out.1.size)
      obtain ⟨bA, oA, hA, hB, hxs⟩ := lies_up H.out.2.2.1.1.head (by omega)
      obtain ⟨e0, e1, e2, e3, e4, e5⟩ := ((hxs k u hx).past_ hbw hB).six
      obtain ⟨V2, hV2, hb2, hs2, ho2⟩ := upbox wr u
      have hbV : Below W3.heap.size W3 V2 := belows hbr hb2
      obtain ⟨q, hq⟩ : ∃ q, beyond f u.t = q := ⟨_, rfl⟩
      have yb := Lib.hid (beyond_isJ A' c' f u.t V2 (times_keepS H.out.2.2.2.1 (H3.out.1.trans (hbV.mono H3.out.1.size))) HNF.out hq)
      have HQ := Lib.hid (And.intro hbV (And.intro hbe (And.intro hx hq)))
      obtain ⟨z0, z1, z2, z3, z4, z5⟩ := own6 ho2
      have q0 : (0 : Int) ≤ (k : Int) := by omega
      have q1 : (k : Int) < (l.length : Int) := by omega
      rw [hA]
      clear hbr hbe hbw hxs hb2 hs2 ho2 hbV hx hB hq
      go_upto_region 10 with fail
      rw [← hV2]
      clear hV2 e0 e1 e2 e3 e4 e5
      go_wp2_with fail
      refine yb.out.mono ?_
      rintro _ w4 ⟨rfl, b4⟩
      have HB := Lib.hid (belows HQ.out.1 b4)
      clear b4 yb z0 z1 z2 z3 z4 z5
      cases q
      · go_wp2_with fail
        go_ret
        exact ⟨rfl, H3.out.1.trans (HB.out.mono H3.out.1.size)⟩
      · go_wp2_with fail
        go_roundw
        case rel => exact ⟨k + 1, by go_num, by omega, HB.out, fun x hx => by
          rw [List.take_add_one, HQ.out.2.2.1] at hx
          rcases List.mem_append.1 hx with hx | hx
          · exact HQ.out.2.1 x hx
          · obtain rfl : x = u := by simpa using hx
            exact HQ.out.2.2.2⟩
        case measure => simp [intOf]; omega
    · have hkn : k = l.length := by omega
      subst hkn
      rw [List.take_length] at hbe
      have hn1 : ¬ ((l.length : Int) < (l.length : Int)) := by omega
      have hbw := H3.out.1.trans (hbr.mono H3.out.1.size)
      have i1 := H3.out.2.1.past hbr H3.out.2.1.inside
      have i2 := H3.out.2.2.1.past hbr H3.out.2.2.1.inside
      have y3 := Lib.hid (step_any left right port A c l wr (H.out.1.1.keep hbw) H.out.1.2.1 (H.out.2.1.1.keep hbw) H.out.2.1.2.1 (H.out.2.2.1.1.keep hbw) H.out.2.2.1.2.1 H.out.1.2.2 H.out.2.1.2.2 H.out.2.2.1.2.2)
      rw [show left.val = .agg #[.slice left.sA left.f.length left.sc, .slice left.lA left.L.length left.lc] from rfl, show right.val = .agg #[.slice right.sA right.f.length right.sc, .slice right.lA right.L.length right.lc] from rfl] at y3
      have H4 := Lib.hid (And.intro hbr (And.intro hbw hbe))
      obtain ⟨d0, d1⟩ := own2 i1
      obtain ⟨d2, d3⟩ := own2 i2
      clear hbr hbw hbe i1 i2 hlt hk hnl
      go_wp2_with fail
      refine y3.out.mono ?_
      rintro _ w5 ⟨a3, b3, A3, c3, out3, t3, E3, rfl, hS3, _, _, _, _, _, _, hu3, ho3, hn3, b5⟩
      rw [show a3.val = .agg #[.slice a3.sA a3.f.length a3.sc, .slice a3.lA a3.L.length a3.lc] from rfl, show b3.val = .agg #[.slice b3.sA b3.f.length b3.sc, .slice b3.lA b3.L.length b3.lc] from rfl]
      obtain ⟨W5, hW5, hb5, oT5⟩ := spt_boxT w5 a3 b3 t3
      have hb4 := belows b5 hb5
      have hb34 := belows H4.out.1 hb4
      have hbw5 := H3.out.1.trans (hb34.mono H3.out.1.size)
      have i1 := H3.out.2.2.2.1.past hb34 H3.out.2.2.2.1.inside
      have i2 := H3.out.2.2.2.2.2.2.1.past hb34 H3.out.2.2.2.2.2.2.1.inside
      have y4 := Lib.hid (step_any a b port A c l W5 (H3.out.2.2.2.2.1.keep hb34) H3.out.2.2.2.2.2.1 (H3.out.2.2.2.2.2.2.2.1.keep hb34) H3.out.2.2.2.2.2.2.2.2 (H.out.2.2.1.1.keep hbw5) H.out.2.2.1.2.1 HCM.out.2.2.1 HCM.out.2.2.2 H.out.2.2.1.2.2)
      rw [show a.val = .agg #[.slice a.sA a.f.length a.sc, .slice a.lA a.L.length a.lc] from rfl, show b.val = .agg #[.slice b.sA b.f.length b.sc, .slice b.lA b.L.length b.lc] from rfl] at y4
      have H5 := Lib.hid (And.intro hbw5 (And.intro (hu3.keep hb5) (And.intro ho3 (And.intro hS3 oT5))))
      have HN3 := Lib.hid hn3
      clear d0 d1 d2 d3 b5 hb5 hb4 hb34 hbw5 hu3 ho3 hS3 oT5 y3 hn3
      obtain ⟨d0, d1⟩ := own2 i1
      obtain ⟨d2, d3⟩ := own2 i2
      clear i1 i2
      go_upto_region 14 with fail
      rw [← hW5]
      clear hW5
      go_wp2_with fail
      refine y4.out.mono ?_
      rintro _ w6 ⟨a4, b4, A4, c4, out4, t4, E4, rfl, hS4, _, _, _, _, _, _, hu4, ho4, hn4, b6⟩
      rw [show a4.val = .agg #[.slice a4.sA a4.f.length a4.sc, .slice a4.lA a4.L.length a4.lc] from rfl, show b4.val = .agg #[.slice b4.sA b4.f.length b4.sc, .slice b4.lA b4.L.length b4.lc] from rfl]
      obtain ⟨W6, hW6, hb6, oT6⟩ := spt_boxT w6 a4 b4 t4
      have hbb := belows b6 hb6
      have H6 := Lib.hid (And.intro (belows H5.out.1 hbb) (And.intro (H5.out.2.1.keep hbb) (And.intro (hu4.keep hb6) (And.intro ho4 (And.intro hS4 (And.intro (H5.out.2.2.2.2.past hbb H5.out.2.2.2.2.inside) oT6))))))
      have HN4 := Lib.hid hn4
      clear d0 d1 d2 d3 b6 hb6 hbb hu4 ho4 hS4 oT6 y4 hn4
      go_upto_region 15 with fail
      rw [← hW6]
      clear hW6
      by_cases h3 : E3 = 0
      case neg =>
        have t1 : (E3 != 0) = true := bne_iff_ne.2 h3
        clear h3
        go_wp2_with fail
        go_ret
        exact ⟨rfl, H6.out.1⟩
      subst h3
      have hfin := comp_same HCM.out.1 HCM.out.2.1 H4.out.2.2 H5.out.2.2.2.1 H6.out.2.2.2.2.1
      rcases hfin with rfl | ⟨rfl, hp, ht⟩
      · go_wp2_with fail
        go_ret
        exact ⟨rfl, H6.out.1⟩
      · have ys := Lib.hid (show Calls Tryz.prog 11 #[.slice A3 out3.length c3, .slice A4 out4.length c4] W6 (fun x w' => x = .returned (.bool true) ∧ Below W6.heap.size W6 w') from (sameU_any A3 A4 c3 c4 out3 out4 W6 H6.out.2.1 H6.out.2.2.1 H5.out.2.2.1 H6.out.2.2.2.1 HN3.out HN4.out).mono fun x w' ⟨q, h1, h2, h3⟩ => ⟨by rw [h1, h2.2 hp], h3⟩)
        have q1 : ∀ W, (binOp .eql 26 (.agg #[.int .u64 (t3.e : Int), .int .u64 (t3.a : Int), .int .u64 (t3.b : Int)]) (.agg #[.int .u64 (t4.e : Int), .int .u64 (t4.a : Int), .int .u64 (t4.b : Int)])).run Tryz.prog W = .ok (.bool true) W := fun W => by
          have h := eql_time t3 t4 W
          rw [eqT_iff.2 ht] at h
          exact h
        clear hp ht
        go_wp2_with fail
        refine ys.out.mono ?_
        rintro _ w7 ⟨rfl, b7⟩
        have H7 := Lib.hid (belows H6.out.1 b7)
        obtain ⟨x0, x1, x2⟩ := own3 (H6.out.2.2.2.2.2.1.past b7 H6.out.2.2.2.2.2.1.inside)
        obtain ⟨x3, x4, x5⟩ := own3 (H6.out.2.2.2.2.2.2.past b7 H6.out.2.2.2.2.2.2.inside)
        clear b7 ys
        go_wp2_with fail
        go_ret
        exact ⟨rfl, H7.out⟩
theorem jcomp_law (left right : Sp) (port : Int) (A : Option Addr) (c : Nat) (l : List Up) (A' : Option Addr) (c' : Nat) (f : List Tm) (w : World) (hL : SpIn w w.heap.size left) (oL : SpOk left ∧ ∀ x ∈ left.L, LvSh x) (wL : wtS left.L ≤ 1048576) (hR : SpIn w w.heap.size right) (oR : SpOk right ∧ ∀ x ∈ right.L, LvSh x) (wR : wtS right.L ≤ 1048576) (_ : -9223372036854775808 ≤ port) (_ : port ≤ 9223372036854775807) (hl : Ups w w.heap.size A l) (ol : ∀ u ∈ l, UOk u) (_ : l.length ≤ c) (_ : c ≤ maxLen) (hf : Times w w.heap.size A' f) (hfc : f.length ≤ c') (hfn : f.length ≤ 1048576) (hcm : c' ≤ maxLen) (hn : l.length + f.length ≤ 1048576) :
    Calls Tryz.prog 5 #[left.val, right.val, .int .i64 port, .slice A l.length c, .slice A' f.length c'] w fun e w' => e = .returned (.bool true) ∧ Below w.heap.size w w' :=
  jcomp_walk left right port A c l A' c' f w hL oL.1 wL hR oR.1 wR hl ol (by omega) hf ⟨by omega, hfc, hcm⟩
end Go.Proofs.YtjffohpdjicfpaaGreat
