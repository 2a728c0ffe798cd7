/- Part 12 of the texts on which SpineHolds rests: facts and contracts. -/
import Derived.Test.YtenjlhlighkenaaGreatSpineHoldsM11
namespace Go.Proofs.YtenjlhlighkenaaGreat
open Go Go.RowKit

structure CopyS (s s' : Sp) (B : Nat) (w' : World) : Prop where
  f : s'.f = s.f
  L : s'.L.map Lv.pl = s.L.map Lv.pl
  in_ : SpIn w' w'.heap.size s'
  ok : SpOk s'
  lo : SpLo B s'
  row : w'.ownsRow B 65 10 (.slice s'.lA s'.L.length s'.lc) s'.L.length (s'.L.flatMap Lv.cells)
  soff : OfT (fun k => blkS s'.lA = some k) s'.sA s'.f.length
  loff : ∀ l ∈ s'.L, OfL (fun k => blkS s'.lA = some k) l
def CopiedS (s : Sp) (w : World) (x : Ending) (w' : World) : Prop := ∃ s' : Sp, x = .returned s'.val ∧ CopyS s s' w.heap.size w' ∧ Below w.heap.size w w'
theorem good_small {f : List Tm} {l : Lv} (g : LvGood f l) (hw : wtL l ≤ 274877906944) : chkUs l.b.l = 0 ∧ l.b.l.length ≤ 274877906944 ∧ MgSm l.m := by
  cases hb : l.busy
  · obtain ⟨⟨h1, h2, _, _, _, h6⟩, h7, _, _⟩ := g.idle hb
    have hwl : wtL l = l.b.l.length := by unfold wtL; rw [if_neg (by rw [hb]; decide)]
    exact ⟨h7.2.1.2.2, by omega, by rw [h1]; rfl, by rw [h2]; rfl, by rw [h6]; rfl, by rw [h1]; exact Nat.zero_le _, by rw [h2]; exact Nat.zero_le _, by rw [h6]; exact Nat.zero_le _⟩
  · obtain ⟨_, h2, h3, _⟩ := g.busy hb
    have hwtl : wtL l = max (l.m.a.length + l.m.b.length) (partsM l.m).length := by unfold wtL; rw [if_pos hb]
    have hpo : l.m.o.length ≤ (partsM l.m).length := by unfold partsM; rw [List.length_append, List.length_append]; omega
    exact ⟨by rw [h2]; rfl, by rw [h2]; exact Nat.zero_le _, h3.even.1.2.2, h3.even.2.1.2.2, h3.even.2.2.2.2, by omega, by omega, by omega⟩
theorem wt_leC {L : List Lv} {l : Lv} (h : l ∈ L) : wtL l ≤ wtS L := by
  unfold wtS
  induction L with
  | nil => cases h
  | cons x L ih =>
    rw [List.map_cons, List.sum_cons]
    rcases List.mem_cons.1 h with rfl | h
    · exact Nat.le_add_right _ _
    · have := ih h; omega
theorem turn_tail {A c c' R : List Value} (h : c.length = 10) (h' : c'.length = 10) (e : c'.take 2 = c.take 2) : (A ++ (c ++ R)).take (A.length + 2) ++ c'.drop 2 ++ (A ++ (c ++ R)).drop (A.length + 10) = A ++ (c' ++ R) := by
  rw [List.take_length_add_append, List.drop_length_add_append, List.take_append_of_le_length (by omega), ← e]
  have e3 : (c ++ R).drop 10 = R := by rw [← h, List.drop_left]
  rw [e3, List.append_assoc, List.append_assoc]
  congr 1
  rw [← List.append_assoc, List.take_append_drop]
theorem own_level {w : World} {G : Nat} {t : TypeId} {M R : List Lv} {l l' : Lv} (h : Own w G t ((M ++ l :: R).flatMap Lv.cells)) (hc : l'.cls = l.cls) (hb : l'.busy = l.busy) :
    Own (setsAt w G (M.length * 10 + 2) (l'.cells.drop 2)) G t ((M ++ l' :: R).flatMap Lv.cells) := by
  have h1 := setsAt_own (l'.cells.drop 2) w (M.length * 10 + 2) _ h (by
    show M.length * 10 + 2 + 8 ≤ _
    rw [lflat_len, List.length_append, List.length_cons]; omega)
  have e : ((M ++ l :: R).flatMap Lv.cells).take (M.length * 10 + 2) ++ l'.cells.drop 2 ++ ((M ++ l :: R).flatMap Lv.cells).drop (M.length * 10 + 2 + (l'.cells.drop 2).length) = (M ++ l' :: R).flatMap Lv.cells := by
    have hM := lflat_len M
    have e8 : (l'.cells.drop 2).length = 8 := rfl
    have e2 : l'.cells.take 2 = l.cells.take 2 := by
      show [Value.int .i64 l'.cls, Value.bool l'.busy] = [Value.int .i64 l.cls, Value.bool l.busy]
      rw [hc, hb]
    rw [List.flatMap_append, List.flatMap_append, List.flatMap_cons, List.flatMap_cons, e8, show M.length * 10 + 2 + 8 = M.length * 10 + 10 by omega, ← hM]
    exact turn_tail rfl rfl e2
  rw [e] at h1
  exact h1
theorem at_level {M R : List Lv} {l : Lv} {w : World} {G : Nat} {t : TypeId} (h : Own w G t ((M ++ l :: R).flatMap Lv.cells)) : ∀ (j : Nat) (u : Value), l.cells[j]? = some u → w.cell? ⟨G, M.length * 10 + j, none⟩ = some u := fun j u hj => by
  have hj10 : j < 10 := (List.getElem?_eq_some_iff.1 hj).1
  rw [h.at_, List.flatMap_append, List.flatMap_cons]
  have hM := lflat_len M
  rw [List.getElem?_append_right (by omega), show M.length * 10 + j - (M.flatMap Lv.cells).length = j by omega, List.getElem?_append_left hj10]
  exact hj
structure CpSt (V wr : World) (G k : Nat) (L M : List Lv) : Prop where
  len : M.length = k
  pl : M.map Lv.pl = (L.take k).map Lv.pl
  own : Own wr G 65 ((M ++ L.drop k).flatMap Lv.cells)
  each_ : ∀ l ∈ M, LvIn wr wr.heap.size l ∧ LvOk l ∧ LvLo (G + 1) l
  kept : KeptK V wr (fun b => b = G)
theorem cp_next {V wr X : World} {G k : Nat} {L M : List Lv} {l l' : Lv} {w7 : World} (h : CpSt V wr G k L M) (hl : L[k]? = some l) (hb : Below wr.heap.size wr w7) (hX : X = setsAt w7 G (k * 10 + 2) (l'.cells.drop 2)) (hc : l'.cls = l.cls) (hbu : l'.busy = l.busy) (hpl : l'.pl = l.pl) (hin : LvIn w7 w7.heap.size l') (hok : LvOk l') (hlo : LvLo (G + 1) l') :
    CpSt V X G (k + 1) L (M ++ [l']) := by
  have hd : L.drop k = l :: L.drop (k + 1) := by
    have := List.getElem?_eq_some_iff.1 hl
    rw [List.drop_eq_getElem_cons this.1, this.2]
  have ho := h.own.past hb h.own.inside
  rw [hd] at ho
  have ho2 := own_level (l' := l') ho hc hbu
  rw [h.len, ← hX] at ho2
  have kX : KeptK w7 X (fun b => b = G) := by rw [hX]; exact setsAt_kept (S := fun b => b = G) (.inl rfl) _ _ _ (KeptK.refl _ _)
  have off : ∀ {x : Lv}, LvLo (G + 1) x → OfL (fun b => b = G) x := fun hx => hx.of fun k e => by omega
  refine ⟨by rw [List.length_append, h.len]; rfl, ?_, by rw [List.append_assoc]; exact ho2, fun x hx => ?_, (h.kept.trans (KeptK.of_below hb (Nat.le_refl _) (fun b => b = G)) (fun _ _ e => e)).trans kX (fun _ _ e => e)⟩
  · rw [List.map_append, h.pl, List.take_add_one, hl, List.map_append]
    show _ ++ [l'.pl] = _ ++ [l.pl]
    rw [hpl]
  · rcases List.mem_append.1 hx with hx | hx
    · obtain ⟨a, b, c⟩ := h.each_ x hx
      exact ⟨lv_kept (a.keep hb) (off c) kX, b, c⟩
    · obtain rfl : x = l' := by simpa using hx
      exact ⟨lv_kept hin (off hlo) kX, hok, hlo⟩
theorem cp_end {s : Sp} {w V wr : World} {G : Nat} {A : Option Addr} {M : List Lv} (h : CpSt V wr G s.L.length s.L M) (hs : SpOk s) (hA : Times V V.heap.size A s.f) (hAl : LoT w.heap.size A) (hAo : OfT (fun b => b = G) A s.f.length) (hG : w.heap.size ≤ G) (_ : Below w.heap.size w V) :
    CopyS s ⟨A, s.f.length, s.f, some ⟨G, 0, none⟩, s.L.length, M⟩ w.heap.size wr := by
  have hlen : M.length = s.L.length := h.len
  have hpl := h.pl
  rw [List.take_length] at hpl
  have ho := h.own
  rw [List.drop_length, List.append_nil] at ho
  have hlies : Lies 10 Lv.cells wr wr.heap.size (some ⟨G, 0, none⟩) M := lies_owned (fun _ => rfl) ho
  have hfl := lflat_len M
  refine ⟨rfl, hpl, ⟨times_kept hA hAo h.kept, ⟨hlies, fun l hl => (h.each_ l hl).1⟩⟩, ⟨⟨hs.f.n, Nat.le_refl _, Nat.le_trans hs.f.le hs.f.c_⟩, by show M.length ≤ _; have := hs.n; omega, by show M.length ≤ s.L.length; omega, Nat.le_trans hs.le hs.c_, fun l hl => (h.each_ l hl).2.1⟩, ⟨hAl, fun b o e => ?_, fun l hl => (h.each_ l hl).2.2.mono (by omega)⟩, ?_, ?_, fun l hl => ?_⟩
  · simp only [Option.some.injEq, Addr.mk.injEq, and_true] at e
    omega
  · show World.ownsRow wr w.heap.size _ 10 (.slice (some ⟨G, 0, none⟩) M.length s.L.length) M.length (M.flatMap Lv.cells)
    have := own_to_row (base := w.heap.size) (n := s.L.length) (c := s.L.length) (size := 10) ho hG (Nat.le_refl _) (Nat.le_trans hs.le hs.c_) (by rw [hfl, hlen])
    rw [List.take_of_length_le (by rw [hfl, hlen]; exact Nat.le_refl _)] at this
    rw [hlen]; exact this
  · refine hAo.less fun k hk => ?_
    have hk : some G = some k := hk
    injection hk with hk
    exact hk.symm
  · refine (((h.each_ l hl).2.2.of (S := fun b => b = G) (fun k e => by omega))).less fun k hk => ?_
    have hk : some G = some k := hk
    injection hk with hk
    exact hk.symm
theorem CopyS.low {s s' : Sp} {B B' : Nat} {w : World} (h : CopyS s s' B w) (hB : B' ≤ B) : CopyS s s' B' w :=
  ⟨h.f, h.L, h.in_, h.ok, ⟨h.lo.f.mono hB, h.lo.l.mono hB, fun l hl => (h.lo.each_ l hl).mono hB⟩, ⟨h.row.1, by
    rcases h.row.2 with h0 | ⟨g, cap, cur, e, hb, rest⟩
    · exact .inl h0
    · exact .inr ⟨g, cap, cur, e, Nat.le_trans hB hb, rest⟩⟩, h.soff, h.loff⟩
theorem CopyS.kept {s s' : Sp} {B P : Nat} {w X : World} (h : CopyS s s' B w) (k : KeptK w X (fun b => b = P)) (hP : P < B) : CopyS s s' B X := by
  have hl : ∀ x ∈ s'.L, LvIn X X.heap.size x := fun x hx => lv_kept (h.in_.lev.each_ x hx) ((h.lo.each_ x hx).of (fun b e => by omega)) k
  refine ⟨h.f, h.L, ⟨times_kept h.in_.since (h.lo.f.of (fun b e => by omega)) k, ⟨lies_kept h.in_.lev.head (fun _ b o e hs => by have := h.lo.l b o e; omega) k, hl⟩⟩, h.ok, h.lo, k.row h.row (fun b e hs => ?_), h.soff, h.loff⟩
  rcases row_ownK h.row with ⟨h0, _⟩ | ⟨g, cur, h0, hb, _⟩
  · rw [h0] at e; simp [Value.ownBlock] at e
  · rw [h0] at e
    have : g = b := by simpa [Value.ownBlock] using e
    omega
end Go.Proofs.YtenjlhlighkenaaGreat
namespace Go.Proofs.YtenjlhlighkenaaGreat
open Go Go.RowKit

theorem sp_box2 (w : World) (s : Sp) : ∃ V, V = (w.alloc (.cells #[.slice s.sA s.f.length s.sc, .slice s.lA s.L.length s.lc] 31)).alloc (.cells #[.slice none 0 0, .slice none 0 0] 31) ∧ Below w.heap.size w V ∧ V.heap.size = w.heap.size + 2 ∧ Own V w.heap.size 31 s.cells ∧ Own V (w.heap.size + 1) 31 [.slice none 0 0, .slice none 0 0] := by
  refine ⟨_, rfl, ((Below.refl _ _).alloc (Nat.le_refl _) _).alloc (by simp) _, by simp, (Own.made w 31 s.cells).more _, ?_⟩
  exact own_next (w := w.alloc (.cells #[.slice s.sA s.f.length s.sc, .slice s.lA s.L.length s.lc] 31)) (l := [.slice none 0 0, .slice none 0 0]) (by simp)
structure CpMid (s : Sp) (V wx : World) (P : Nat) (A1 A2 : Option Addr) : Prop where
  own : Own wx P 31 [.slice A1 s.f.length s.f.length, .slice A2 s.L.length s.L.length]
  since : Times wx wx.heap.size A1 s.f
  lo1 : LoT V.heap.size A1
  lev : 0 < s.L.length → ∃ G, A2 = some ⟨G, 0, none⟩ ∧ Own wx G 65 (s.L.flatMap Lv.cells) ∧ V.heap.size ≤ G ∧ G ≠ P ∧ OfT (fun b => b = G) A1 s.f.length
  nil : s.L = [] → A2 = none
  below : Below V.heap.size V wx
  hp : V.heap.size ≤ P
theorem cp_mid {s : Sp} {V w1 W2 w2 X : World} {P : Nat} {A1 A2 : Option Addr} (hb1 : Bl V w1) (v1 : Times w1 w1.heap.size A1 s.f) (n1 : ∀ b o, A1 = some (⟨b, o, none⟩ : Addr) → V.heap.size ≤ b ∧ b < w1.heap.size ∧ b ≠ P) (hW : Below w1.heap.size w1 W2) (b2 : Below W2.heap.size W2 w2)
    (nil2 : s.L = [] → A2 = none) (own2_ : 0 < s.L.length → A2 = some ⟨W2.heap.size, 0, none⟩ ∧ Own w2 W2.heap.size 65 (s.L.flatMap Lv.cells)) (hX : KeptK w2 X (fun b => b = P)) (hPn : 0 < s.L.length → P ≠ W2.heap.size) (hPl : V.heap.size ≤ P) (ho : Own X P 31 [.slice A1 s.f.length s.f.length, .slice A2 s.L.length s.L.length]) :
    CpMid s V X P A1 A2 := by
  have b12 := belows hW b2
  have v2 := tms_keep v1 b12
  refine ⟨ho, times_kept v2 (fun _ b o e => (n1 b o e).2.2) hX, fun b o e => (n1 b o e).1, fun hp => ?_, nil2, ?_, hPl⟩
  · obtain ⟨h1, h2⟩ := own2_ hp
    refine ⟨_, h1, hX.own h2 (fun e => hPn hp e.symm), Nat.le_trans hb1.below.size hW.size, fun e => hPn hp e.symm, fun _ b o e => ?_⟩
    have := (n1 b o e).2.1
    have := hW.size
    intro e2
    omega
  · have hbb : Below V.heap.size V w2 := belows hb1.below b12
    exact ⟨hX.os.trans hbb.os, hX.tape.trans hbb.tape, hX.output.trans hbb.output, Nat.le_trans hbb.size hX.size, fun k hk => (hX.block k (Nat.lt_of_lt_of_le hk hbb.size) (fun e => by omega)).trans (hbb.block k hk)⟩
theorem cp_out {s : Sp} {V wc : World} {P : Nat} {A1 A2 : Option Addr} (ok : SpOk s) (hL : s.L = []) (hm : CpMid s V wc P A1 A2) (Q : Nat) (hQ : Q < V.heap.size) : CopyS s ⟨A1, s.f.length, s.f, none, 0, []⟩ V.heap.size ((wc.setCell ⟨Q, 0, none⟩ (.slice A1 s.f.length s.f.length)).setCell ⟨Q, 1, none⟩ (.slice none 0 0)) := by
  have h0 : CopyS s ⟨A1, s.f.length, s.f, none, 0, []⟩ V.heap.size wc := ⟨rfl, by rw [hL], ⟨hm.since, ⟨Lies.nil_, fun l hl => (by cases hl)⟩⟩, ⟨⟨ok.f.n, Nat.le_refl _, Nat.le_trans ok.f.le ok.f.c_⟩, by show 0 ≤ _; omega, Nat.le_refl _, Nat.zero_le _, fun l hl => (by cases hl)⟩, ⟨hm.lo1, lot_nil _, fun l hl => (by cases hl)⟩, World.ownsRow_nil _ _ _ _, fun _ b o e hs => (by cases hs), fun l hl => (by cases hl)⟩
  exact h0.kept (KeptK.set_ (S := fun b => b = Q) (KeptK.set_ (S := fun b => b = Q) (KeptK.refl _ _) (.inl rfl) _) (.inl rfl) _) hQ
set_option maxRecDepth 100000 in
set_option maxHeartbeats 12800000 in
theorem copyS_any (s : Sp) (w : World) (hs : SpIn w w.heap.size s) (ok : SpOk s) (hg : SpGood s.f s.L) (hwt : wtS s.L ≤ 274877906944) :
    Calls Tryz.prog 20 #[s.val] w (CopiedS s w) := by
  obtain ⟨V, hV, hvb, hvs, hvo, hvz⟩ := sp_box2 w s
  have hin := hs.keep hvb
  have hfn := ok.f.n
  have hLn := ok.n
  have y1 := fun W (h : Bl V W) => Lib.hid (listT_times s.sA s.sc s.f W (hin.keep h).since (by omega))
  have y2 := fun W (h : Bl V W) => Lib.hid (listS_any s.lA s.lc s.L W (hin.keep h).lev.head (by omega))
  have H := Lib.hid (And.intro hs (And.intro ok (And.intro hg (And.intro hwt (And.intro hvb (And.intro hvo hvz))))))
  have hself := Bl.refl V
  have hbs : V.heap.size ≤ V.heap.size := Nat.le_refl _
  have HS := Lib.hid (fun W (h : Bm V.heap.size V W) => own2 (hvo.past h hvo.inside))
  obtain ⟨d0, d1⟩ := own2 hvo
  rw [show s.val = .agg #[.slice s.sA s.f.length s.sc, .slice s.lA s.L.length s.lc] from rfl]
  have HP := Lib.hid (show ∀ x w' (s' : Sp), x = .returned s'.val → CopyS s s' w.heap.size w' → Below w.heap.size w w' → CopiedS s w x w' from fun x w' s' h1 h2 h3 => ⟨s', h1, h2, h3⟩)
  clear hs ok hg hwt hvb hvs hvo hvz hin hfn
  go_enter Tryz.func20, Tryz.ntmps20
  go_upto_region 1 with fail
  rw [← hV]
  clear hV
  go_cut [3] (fun s3 wx => ∃ (P : Nat) (A1 A2 : Option Addr), s3 = .pointer (some ⟨P, 0, none⟩) ∧ CpMid s V wx P A1 A2)
  case first =>
    go_region_held3 (fun w' => Bm V.heap.size V w' ∧ (w'.cell? ⟨w.heap.size, 0, none⟩ = some (.slice s.sA s.f.length s.sc) ∧ w'.cell? ⟨w.heap.size, 1, none⟩ = some (.slice s.lA s.L.length s.lc)))
      ((refine (fun h => And.intro h (HS.out _ h)) ?_; repeat (first | with_reducible exact Bm.of hb2 hbs | with_reducible exact Bm.of hb1 hbs | with_reducible exact Bm.of hself hbs | with_reducible refine Bm.set ?_ (by first | exact Nat.le_refl _ | exact hb1.below.size | (have z6 := hb1.below.size; simp; omega) | (have z6 := hb2.below.size; simp; omega)) _ _ | with_reducible refine Bm.more ?_ hbs _ | with_reducible refine Bm.drew ?_)))
      (first | (go_at_call 41; refine (y2 _ ?_).out.mono ?_; (repeat (first | with_reducible exact hb1 | with_reducible refine Bl.more ?_ _ | with_reducible refine Bl.drew ?_)); rintro _ w2 ⟨A2, rfl, nil2, own2_, b2⟩; have hb2 : Bl V w2 := Bl.call (by repeat (first | with_reducible exact hb1 | with_reducible refine Bl.more ?_ _ | with_reducible refine Bl.drew ?_)) b2; (try (have oz : Own w2 V.heap.size 31 [.slice none 0 0, .slice none 0 0] := oz1.past b2 (by have := oz1.inside; simpa using this); obtain ⟨e0, e1⟩ := own2 oz; have f0 := oz.open_ 0; have f1 := oz.open_ 1)); (try (have oz : Own w2 w1.heap.size 31 [.slice none 0 0, .slice none 0 0] := (Own.past (by first | exact Own.made _ _ [.slice none 0 0, .slice none 0 0] | exact own_drewKS (Own.made _ _ [.slice none 0 0, .slice none 0 0])) b2 (by simp)); obtain ⟨e0, e1⟩ := own2 oz; have f0 := oz.open_ 0; have f1 := oz.open_ 1))) | (go_at_call 26; refine (y1 _ ?_).out.mono ?_; (repeat (first | with_reducible exact hself | with_reducible refine Bl.more ?_ _ | with_reducible refine Bl.drew ?_)); rintro _ w1 ⟨A1, rfl, v1, n1, b1⟩; have hb1 : Bl V w1 := Bl.call (by repeat (first | with_reducible exact hself | with_reducible refine Bl.more ?_ _ | with_reducible refine Bl.drew ?_)) b1; (try (have oz1 : Own w1 V.heap.size 31 [.slice none 0 0, .slice none 0 0] := (Own.past (by first | exact Own.made _ _ [.slice none 0 0, .slice none 0 0] | exact own_drewKS (Own.made _ _ [.slice none 0 0, .slice none 0 0])) b1 (by simp))))))
    all_goals
      go_wp2_with fail
      go_meet
    · refine ⟨_, A1, A2, rfl, cp_mid hb1 v1 (fun b o e => ⟨(n1 b o e).1, (n1 b o e).2, ?_⟩) (Below.refl _ _) b2 (fun h => (nil2 h).1) own2_ ((KeptK.refl _ _).alloc _) (fun hp => ?_) hb2.below.size (Own.made w2 _ [.slice A1 s.f.length s.f.length, .slice A2 s.L.length s.L.length])⟩
      · have := (n1 b o e).2; have := b2.size; omega
      · have := (own2_ hp).2.inside; omega
    · refine ⟨_, A1, A2, rfl, cp_mid hb1 v1 (fun b o e => ⟨(n1 b o e).1, (n1 b o e).2, ?_⟩) ((Below.refl _ _).alloc (Nat.le_refl _) _) b2 (fun h => (nil2 h).1) own2_ (KeptK.set_ (S := fun b => b = w1.heap.size) (KeptK.set_ (S := fun b => b = w1.heap.size) (KeptK.refl _ _) (.inl rfl) _) (.inl rfl) _) (fun hp => (by simp)) hb1.below.size ((oz.set_ 0 _).set_ 1 _)⟩
      have := (n1 b o e).2; omega
    · refine ⟨_, A1, A2, rfl, cp_mid hb1 v1 (fun b o e => ⟨?_, (n1 b o e).2, ?_⟩) (Below.refl _ _) b2 (fun h => (nil2 h).1) own2_ (KeptK.set_ (S := fun b => b = V.heap.size) (KeptK.set_ (S := fun b => b = V.heap.size) (KeptK.refl _ _) (.inl rfl) _) (.inl rfl) _) (fun hp => ?_) (Nat.le_refl _) ((oz.set_ 0 _).set_ 1 _)⟩
      · have := (n1 b o e).1; simp at this; omega
      · have := (n1 b o e).1; simp at this; omega
      · have := oz1.inside; omega
  case rest =>
    obtain ⟨P, A1, A2, rfl, hm⟩ := hcut
    have hbv := hm.below
    have hP := hm.hp
    have HM := Lib.hid hm
    have hvz := H.out.2.2.2.2.2.2
    have hzi := hvz.inside
    obtain ⟨p0, p1⟩ := own2 hm.own
    by_cases hL : s.L = []
    · have hA2 := hm.nil hL
      have hL0 : s.L.length = 0 := by rw [hL]; rfl
      rw [hA2, hL0] at p1
      have oz := hvz.past hbv hzi
      obtain ⟨z0, z1⟩ := own2 oz
      have f0 := oz.open_ 0
      have f1 := oz.open_ 1
      have hX := (oz.set_ 0 (.slice A1 s.f.length s.f.length)).set_ 1 (.slice none 0 0)
      obtain ⟨x0, x1⟩ := own2 hX
      have HX := Lib.hid (cp_out H.out.2.1 hL hm (w.heap.size + 1) hzi)
      have HB := Lib.hid (show Below w.heap.size w ((wc.setCell ⟨w.heap.size + 1, 0, none⟩ (.slice A1 s.f.length s.f.length)).setCell ⟨w.heap.size + 1, 1, none⟩ (.slice none 0 0)) from ((H.out.2.2.2.2.1.trans (hbv.mono H.out.2.2.2.2.1.size)).setCell (p := ⟨w.heap.size + 1, 0, none⟩) (Nat.le_succ _) _).setCell (p := ⟨w.heap.size + 1, 1, none⟩) (Nat.le_succ _) _)
      have hsz := H.out.2.2.2.2.1.size
      clear hm hbv hP hvz hzi hL hA2 hL0 oz hX y1 y2
      go_wp2_with fail
      go_loopw [16] (fun v16 wr => v16 = .int .i64 0 ∧ wc = wr) (fun _ _ => 0)
      case atStart => exact ⟨rfl, rfl⟩
      case round =>
      obtain ⟨rfl, rfl⟩ := hrel
      go_wp2_with fail
      exact bodyPost_ret (v := .agg #[.slice A1 s.f.length s.f.length, .slice none 0 0]) (by simp [results, Tryz.results20, go_sem, x0, x1]) rfl (HP.out _ _ ⟨A1, s.f.length, s.f, none, 0, []⟩ rfl (HX.out.low hsz) HB.out)
    have hn : 0 < s.L.length := List.length_pos_iff.2 hL
    obtain ⟨G, rfl, oG, hG, hGP, hAG⟩ := hm.lev hn
    have HG := Lib.hid (And.intro hG (And.intro hGP hAG))
    have HC0 := Lib.hid (show CpSt wc wc G 0 s.L [] from ⟨rfl, rfl, oG, fun l hl => (by cases hl), KeptK.refl _ _⟩)
    clear hm hbv hP hvz hzi oG hG hGP hAG hL y1 y2 hself
    go_wp2_with fail
    go_loopw [16] (fun v16 wr => ∃ (k : Nat) (M : List Lv), v16 = .int .i64 (k : Int) ∧ k ≤ s.L.length ∧ CpSt wc wr G k s.L M)
      (fun v16 _ => s.L.length - (intOf v16).toNat)
    case atStart => exact ⟨0, [], rfl, by omega, HC0.out⟩
    case round =>
      obtain ⟨k, M, rfl, hk, hst⟩ := hrel
      have hbw : Below V.heap.size V wr := HM.out.below.trans (hst.kept.below (fun b e => by rw [e]; exact HG.out.1) HM.out.below.size)
      have oP := hst.kept.own HM.out.own (fun e => HG.out.2.1 e.symm)
      obtain ⟨p0, p1⟩ := own2 oP
      have HST := Lib.hid (And.intro hst (And.intro hbw oP))
      by_cases hlt : k < s.L.length
      · obtain ⟨l, hl⟩ : ∃ l, s.L[k]? = some l := ⟨_, List.getElem?_eq_getElem hlt⟩
        have hlm := List.mem_of_getElem? hl
        have hd : s.L.drop k = l :: s.L.drop (k + 1) := by
          have := List.getElem?_eq_some_iff.1 hl
          rw [List.drop_eq_getElem_cons this.1, this.2]
        have hown := hst.own
        rw [hd] at hown
        have hcell := at_level hown
        rw [hst.len] at hcell
        obtain ⟨c0, c1, c2, c3, c4, c5, c6, c7, c8, c9⟩ := lv_ten hcell
        obtain ⟨V5, hV5, hb5, hs5, ho5⟩ := lvbox wr l
        have hli := (((H.out.1.lev.each_ l hlm).past H.out.2.2.2.2.1 (Nat.le_refl _)).wide H.out.2.2.2.2.1.size).keep (belows hbw hb5)
        have hlo := H.out.2.1.each_ l hlm
        obtain ⟨g1, g2, g3⟩ := good_small (H.out.2.2.1.each l hlm) (Nat.le_trans (wt_leC hlm) H.out.2.2.2.1)
        have z1 := fun W (h : Bl V5 W) => Lib.hid (copyB_any l.b W (hli.b.keep h) hlo.b g1 g2)
        have z2 := fun W (h : Bl V5 W) => Lib.hid (copyM_any l.m W (hli.m.keep h) hlo.m g3)
        have oG5 := hown.past hb5 hown.inside
        have oP5 := oP.past hb5 oP.inside
        have HS5 := Lib.hid (show ∀ W, KeptK V5 W (fun b => b = G) → W.cell? ⟨P, 1, none⟩ = some (.slice (some ⟨G, 0, none⟩) s.L.length s.L.length) ∧ W.cell? ⟨wr.heap.size, 2, none⟩ = some (.slice l.b.sA l.b.f.length l.b.sc) ∧ W.cell? ⟨wr.heap.size, 3, none⟩ = some (.slice l.b.uA l.b.l.length l.b.uc) ∧ W.cell? ⟨wr.heap.size, 4, none⟩ = some (.slice l.m.aA l.m.a.length l.m.ac) ∧ W.cell? ⟨wr.heap.size, 5, none⟩ = some (.slice l.m.bA l.m.b.length l.m.bc) ∧ W.cell? ⟨wr.heap.size, 6, none⟩ = some (.int .i64 l.m.i) ∧ W.cell? ⟨wr.heap.size, 7, none⟩ = some (.int .i64 l.m.j) ∧ W.cell? ⟨wr.heap.size, 8, none⟩ = some (.slice l.m.sA l.m.f.length l.m.sc) ∧ W.cell? ⟨wr.heap.size, 9, none⟩ = some (.slice l.m.oA l.m.o.length l.m.oc) from fun W h => by
          have o1 := h.own oP5 (fun e => HG.out.2.1 e.symm)
          have o2 := h.own ho5 (fun e => by have := hown.inside; omega)
          exact ⟨o1.at_ 1, o2.at_ 2, o2.at_ 3, o2.at_ 4, o2.at_ 5, o2.at_ 6, o2.at_ 7, o2.at_ 8, o2.at_ 9⟩)
        have hkself : KeptK V5 V5 (fun b => b = G) := KeptK.refl _ _
        have hself := Bl.refl V5
        have HL := Lib.hid (And.intro hl (And.intro oG5 (And.intro hb5 (And.intro hlo (And.intro hown.inside hst.len)))))
        obtain ⟨r0, r1, r2, r3, r4, r5, r6, r7, r8, r9⟩ := own10 ho5
        have q0 : (0 : Int) ≤ (k : Int) := by omega
        have q1 : (k : Int) < (s.L.length : Int) := by omega
        unfold Bt.val at z1
        unfold Mg.val at z2
        clear hst hbw oP hlm hd hown hcell hli hlo g1 g2 g3 oG5 oP5 hb5 hs5 ho5 hl
        go_upto_region 5 with fail
        rw [← hV5]
        clear hV5
        go_region_held3 (fun w' => KeptK V5 w' (fun b => b = G) ∧ (w'.cell? ⟨P, 1, none⟩ = some (.slice (some ⟨G, 0, none⟩) s.L.length s.L.length) ∧ w'.cell? ⟨wr.heap.size, 2, none⟩ = some (.slice l.b.sA l.b.f.length l.b.sc) ∧ w'.cell? ⟨wr.heap.size, 3, none⟩ = some (.slice l.b.uA l.b.l.length l.b.uc) ∧ w'.cell? ⟨wr.heap.size, 4, none⟩ = some (.slice l.m.aA l.m.a.length l.m.ac) ∧ w'.cell? ⟨wr.heap.size, 5, none⟩ = some (.slice l.m.bA l.m.b.length l.m.bc) ∧ w'.cell? ⟨wr.heap.size, 6, none⟩ = some (.int .i64 l.m.i) ∧ w'.cell? ⟨wr.heap.size, 7, none⟩ = some (.int .i64 l.m.j) ∧ w'.cell? ⟨wr.heap.size, 8, none⟩ = some (.slice l.m.sA l.m.f.length l.m.sc) ∧ w'.cell? ⟨wr.heap.size, 9, none⟩ = some (.slice l.m.oA l.m.o.length l.m.oc)))
          ((refine (fun h => And.intro h (HS5.out _ h)) ?_; repeat (first | with_reducible exact hk7 | with_reducible exact hk6 | with_reducible exact hkself | with_reducible refine KeptK.set_ (S := fun b => b = G) ?_ (.inl rfl) _ | with_reducible refine KeptK.drew ?_)))
          (first | (go_at_call 43; refine (z2 _ hb6).out.mono ?_; rintro _ w7 ⟨m', rfl, sm, im, om, lm, b7, am⟩; unfold Mg.val; have hb7 : Bl V5 w7 := Bl.call hb6 b7; have hk7 : KeptK V5 w7 (fun b => b = G) := KeptK.of_below hb7.below (Nat.le_refl _) _; have oG7 := HL.out.2.1.past hb7.below HL.out.2.1.inside; have gg := fun j => oG7.open_ j; have hc7 := at_level oG7; rw [HL.out.2.2.2.2.2] at hc7; obtain ⟨c0, c1, c2, c3, c4, c5, c6, c7, c8, c9⟩ := lv_ten hc7; have g2 := gg (k * 10 + 2); have g3 := gg (k * 10 + 3); have g4 := gg (k * 10 + 4); have g5 := gg (k * 10 + 5); have g6 := gg (k * 10 + 6); have g7 := gg (k * 10 + 7); have g8 := gg (k * 10 + 8); have g9 := gg (k * 10 + 9); clear gg hc7 oG7) | (go_at_call 42; refine (z1 _ hself.drew).out.mono ?_; rintro _ w6 ⟨b', rfl, sb, ib, ob, lb, b6⟩; unfold Bt.val; have hb6 : Bl V5 w6 := Bl.call hself.drew b6; have hk6 : KeptK V5 w6 (fun b => b = G) := KeptK.of_below hb6.below (Nat.le_refl _) _))
        have ib7 := ib.keep b7
        have HN := Lib.hid (cp_next (l' := ⟨l.cls, l.busy, b', m'⟩) (w7 := w7) HST.out.1 HL.out.1 (belows HL.out.2.2.1 hb7.below) rfl rfl rfl (LvEq.to ⟨rfl, rfl, sb.f, sb.l, sm.a, sm.b, sm.i, sm.j, sm.f, sm.o⟩) ⟨ib7, im⟩ ⟨HL.out.2.2.2.1.c, ob, om, mc_of om ⟨am.ac, am.bc⟩⟩ ⟨lb.mono (by have h1 := HL.out.2.2.2.2.1; have h2 := HL.out.2.2.1.size; show G + 1 ≤ V5.heap.size; omega), lm.mono (by have h1 := HL.out.2.2.2.2.1; have h2 := HL.out.2.2.1.size; have h3 := hb6.below.size; show G + 1 ≤ w6.heap.size; omega)⟩)
        clear z1 z2 sm im om lm am b7 sb ib ob lb b6 ib7 hk6 hk7 hb6 hb7
        go_wp2_with fail
        go_roundw
        case rel => exact ⟨k + 1, _, by go_num, by omega, HN.out⟩
        case measure => simp [intOf]; omega
      · have hkn : k = s.L.length := by omega
        subst hkn
        have hbwc := HM.out.below
        have hsz := H.out.2.2.2.2.1.size
        have hvz := H.out.2.2.2.2.2.2
        have hzi := hvz.inside
        have hE := (cp_end hst H.out.2.1 HM.out.since HM.out.lo1 HG.out.2.2 HG.out.1 HM.out.below)
        have hlen : M.length = s.L.length := hst.len
        have oz := hvz.past HST.out.2.1 hzi
        obtain ⟨z0, z1⟩ := own2 oz
        have f0 := oz.open_ 0
        have f1 := oz.open_ 1
        have hX := (oz.set_ 0 (.slice A1 s.f.length s.f.length)).set_ 1 (.slice (some ⟨G, 0, none⟩) s.L.length s.L.length)
        obtain ⟨x0, x1⟩ := own2 hX
        have HX := Lib.hid ((hE.kept (KeptK.set_ (S := fun b => b = w.heap.size + 1) (KeptK.set_ (S := fun b => b = w.heap.size + 1) (KeptK.refl wr _) (.inl rfl) (.slice A1 s.f.length s.f.length) (o := 0)) (.inl rfl) (.slice (some ⟨G, 0, none⟩) s.L.length s.L.length) (o := 1)) hzi).low hsz)
        have HB := Lib.hid (((H.out.2.2.2.2.1.trans (HST.out.2.1.mono hsz)).setCell (p := ⟨w.heap.size + 1, 0, none⟩) (Nat.le_succ _) (.slice A1 s.f.length s.f.length)).setCell (p := ⟨w.heap.size + 1, 1, none⟩) (Nat.le_succ _) (.slice (some ⟨G, 0, none⟩) s.L.length s.L.length))
        have HLN := Lib.hid hlen
        have hn1 : ¬ ((s.L.length : Int) < (s.L.length : Int)) := by omega
        clear hst hbw oP hbwc hsz hvz hzi hE hlen oz hX
        go_wp2_with fail
        exact bodyPost_ret (v := .agg #[.slice A1 s.f.length s.f.length, .slice (some ⟨G, 0, none⟩) s.L.length s.L.length]) (by simp [results, Tryz.results20, go_sem, x0, x1]) rfl (HP.out _ _ ⟨A1, s.f.length, s.f, some ⟨G, 0, none⟩, s.L.length, M⟩ (by show _ = Ending.returned (.agg #[.slice A1 s.f.length s.f.length, .slice (some ⟨G, 0, none⟩) M.length s.L.length]); rw [HLN.out]) HX.out HB.out)
end Go.Proofs.YtenjlhlighkenaaGreat
namespace Go.Proofs.YtenjlhlighkenaaGreat
open Go Go.RowKit

def HasI (s s' : Sp) (X : List Up) : Prop := (busyN s.L ≤ 1 → consL [advL s.f X] ≠ [] → HasB s'.L (consL [advL s.f X]).length) ∧ (AllFr s.f s.L → AllFr s.f s'.L)
theorem fr_pl {f : List Tm} {L1 L : List Lv} (pl : L1.map Lv.pl = L.map Lv.pl) (h : AllFr f L) : AllFr f L1 := fun l hl hb => by
  obtain ⟨k, hk, e⟩ := pl_mem pl.symm hl
  have h1 := h k hk (by rw [e.busy]; exact hb)
  exact ⟨by rw [← e.i]; exact h1.1, by rw [← e.j]; exact h1.2.1, by have h2 := e.o; rw [h1.2.2.1] at h2; exact List.map_eq_nil_iff.1 h2.symm, by rw [← e.f]; exact h1.2.2.2⟩
def WhyI (s : Sp) (X : List Up) : Prop := bldE s.f X ≠ 0 ∨ busyN s.L ≠ 0 ∧ (busyN s.L ≤ 1 → ∃ l : Lv, l.pl ∈ s.L.map Lv.pl ∧ l.busy = true ∧ consE [advL l.m.f (partsM l.m)] = 10)
theorem why_pl {s : Sp} {X : List Up} {L1 : List Lv} (pl : L1.map Lv.pl = s.L.map Lv.pl) (h : FailS L1) : WhyI s X := by
  refine .inr ⟨by rw [← (pl_parts pl).2.2.2]; exact h.1, fun hb => ?_⟩
  obtain ⟨l, hl, h1, h2⟩ := h.2 (by rw [(pl_parts pl).2.2.2]; exact hb)
  exact ⟨l, by rw [← pl]; exact List.mem_map_of_mem hl, h1, h2⟩
def InsertedS (s : Sp) (X : List Up) (w : World) (x : Ending) (w' : World) : Prop :=
  ∃ (s' : Sp) (E : Int), x = .returned (.tuple #[s'.val, .int .i64 E]) ∧ (¬ SpGood s.f s.L ∧ E = 8 ∧ s' = Sp.nil ∨ SpGood s.f s.L ∧ s'.f = s.f ∧ (E = 0 ∧ consE [advL s.f X] = 0 ∧ PutTo s.f s.L s'.L X 1 X.length ∧ HasI s s' X ∨ E ≠ 0 ∧ s'.L.map Lv.pl = s.L.map Lv.pl ∧ WhyI s X)) ∧ SpIn w' w'.heap.size s' ∧ SpOk s' ∧ SpLo w.heap.size s' ∧ Below w.heap.size w w'
theorem wk_of_copy {s s1 : Sp} {B base : Nat} {w : World} (h : CopyS s s1 B w) (hb : base ≤ B) (hB : B ≤ w.heap.size) (V : World) (hV : V = w.alloc (.cells #[.slice s1.sA s1.f.length s1.sc, .slice s1.lA s1.L.length s1.lc] 71)) :
    Wk V base w.heap.size s1 ∧ Below w.heap.size w V := by
  have hbv : Below w.heap.size w V := by rw [hV]; exact (Below.refl _ _).alloc (Nat.le_refl _) _
  have h1 := h.low hb
  have hi := h.in_.keep hbv
  have hS : ∀ k, SpS w.heap.size s1.lA k → w.heap.size ≤ k ∨ blkS s1.lA = some k := fun k hk => by
    rcases hk with rfl | hk
    · exact .inl (Nat.le_refl _)
    · exact .inr hk
  have hrl : ∀ k, blkS s1.lA = some k → k < w.heap.size := fun k hk => (h1.row.lt k (by rw [blkS_own]; exact hk)).2
  refine ⟨⟨by rw [hV]; exact Own.made w _ _, own_below h1.row hbv, fun e => by have := hrl _ e; omega, hi.since, ?_, hi.lev.each_, fun l hl => ?_, h.ok, h1.lo.f, h1.lo.each_, by omega, by have := hbv.size; omega⟩, hbv⟩
  · exact ((times_in h.in_.since).or h.soff).less hS
  · exact ((lv_in (h.in_.lev.each_ l hl)).or (h.loff l hl)).less hS
theorem PutTo.swap {f : List Tm} {L1 L L' : List Lv} {Y X : List Up} {n : Nat} (h : PutTo f L1 L' Y 1 n) (pl : L1.map Lv.pl = L.map Lv.pl) (e : EqS f Y X) (hn : n ≤ X.length) : PutTo f L L' X 1 X.length := by
  obtain ⟨p1, p2, p3, _⟩ := pl_parts pl
  have hc := (chkUs_parts h.eq.r).1
  refine ⟨h.good, h.eq.trans ((EqS.of_p hc p1).app e), ?_, ?_⟩
  · rw [← p2]; exact h.cnt
  · rw [← p3]; have := h.wt; omega
theorem Wk.lo_ {W : World} {base g : Nat} {s : Sp} (h : Wk W base g s) : SpLo base s := by
  refine ⟨h.slo, fun b o e => ?_, h.lo⟩
  rcases row_ownK h.row with ⟨h0, _⟩ | ⟨G, cur, h0, hb, _⟩
  · rw [h0] at e; cases e
  · rw [h0] at e
    have := at_block rfl e
    omega
theorem Wk.spin {W : World} {base g : Nat} {s : Sp} (h : Wk W base g s) : SpIn W W.heap.size s := ⟨h.since, h.lies⟩
theorem sp_kept {w X : World} {P : Nat} {s : Sp} (h : SpIn w w.heap.size s) (hlo : SpLo (P + 1) s) (k : KeptK w X (fun b => b = P)) : SpIn X X.heap.size s :=
  ⟨times_kept h.since (hlo.f.of (fun b e => by omega)) k, ⟨lies_kept h.lev.head (fun _ b o e hs => by have := hlo.l b o e; omega) k, fun l hl => lv_kept (h.lev.each_ l hl) ((hlo.each_ l hl).of (fun b e => by omega)) k⟩⟩
theorem SpLo.mono {B B' : Nat} {s : Sp} (h : SpLo B s) (hB : B' ≤ B) : SpLo B' s := ⟨h.f.mono hB, h.l.mono hB, fun l hl => (h.each_ l hl).mono hB⟩
theorem kept_two {w : World} {P : Nat} (x y : Value) : KeptK w ((w.setCell ⟨P, 0, none⟩ x).setCell ⟨P, 1, none⟩ y) (fun b => b = P) := KeptK.set_ (S := fun b => b = P) (KeptK.set_ (S := fun b => b = P) (KeptK.refl w _) (.inl rfl) x) (.inl rfl) y
theorem below_two {w W : World} {P B : Nat} (h : Below B w W) (hP : B ≤ P) (x y : Value) : Below B w ((W.setCell ⟨P, 0, none⟩ x).setCell ⟨P, 1, none⟩ y) := (h.setCell (p := ⟨P, 0, none⟩) hP x).setCell (p := ⟨P, 1, none⟩) hP y
end Go.Proofs.YtenjlhlighkenaaGreat
namespace Go.Proofs.YtenjlhlighkenaaGreat
open Go Go.RowKit

theorem busy_le (L : List Lv) : busyN L ≤ L.length := List.length_filter_le ..
theorem WkFin.swap {f : List Tm} {L1 L L2 : List Lv} {fuel : Int} {c : Nat} (h : WkFin f L1 fuel L2 c) (pl : L1.map Lv.pl = L.map Lv.pl) : WkFin f L fuel L2 c := by
  obtain ⟨p1, p2, p3, p4⟩ := pl_parts pl
  have hc := h.eq.r
  refine ⟨h.good, h.eq.trans (EqS.of_p hc p1), by rw [← p2]; exact h.cnt, by rw [← p3]; exact h.wt, by rw [← p3]; exact h.left, ?_⟩
  rw [← p2, ← p3, ← p4]
  exact h.full
def WorkedS (s : Sp) (fuel : Int) (w : World) (x : Ending) (w' : World) : Prop :=
  ∃ (s' : Sp) (c : Nat) (E : Int), x = .returned (.tuple #[s'.val, .int .i64 (c : Int), .int .i64 E]) ∧ (¬ SpGood s.f s.L ∧ E = 8 ∧ c = 0 ∧ s' = Sp.nil ∨ SpGood s.f s.L ∧ s'.f = s.f ∧ (E = 0 ∧ WkFin s.f s.L fuel s'.L c ∨ E = 10 ∧ c = 0 ∧ s'.L.map Lv.pl = s.L.map Lv.pl)) ∧ SpIn w' w'.heap.size s' ∧ SpOk s' ∧ SpLo w.heap.size s' ∧ Below w.heap.size w w'
end Go.Proofs.YtenjlhlighkenaaGreat
namespace Go.Proofs.YtenjlhlighkenaaGreat
open Go Go.RowKit

set_option maxRecDepth 100000 in
set_option maxHeartbeats 12800000 in
theorem insert_sp (s : Sp) (A : Option Addr) (c : Nat) (L : List (Rw Up)) (w : World) (hs : SpIn w w.heap.size s) (ok : SpOk s) (hl : ULs w w.heap.size A L) (hok : ∀ r ∈ L, ∀ u ∈ r.l, UOk u) (hw : wtS s.L + (flatR L).length ≤ 274877906944) (hn : L.length ≤ 1099511627776) :
    Calls Tryz.prog 7 #[s.val, .slice A L.length c] w (InsertedS s (flatR L) w) := by
  obtain ⟨V, hV, hvb, hvs, hvo, hvz⟩ := sp_box2 w s
  have hin := hs.keep hvb
  have y1 := Lib.hid (scheck_any s V hin ok)
  have H := Lib.hid (And.intro hs (And.intro ok (And.intro hl (And.intro hok (And.intro hw (And.intro hn (And.intro hvb (And.intro hvo hvz))))))))
  obtain ⟨d0, d1⟩ := own2 hvo
  have HP := Lib.hid (show ∀ x w' (s' : Sp) (E : Int), x = .returned (.tuple #[s'.val, .int .i64 E]) → (¬ SpGood s.f s.L ∧ E = 8 ∧ s' = Sp.nil ∨ SpGood s.f s.L ∧ s'.f = s.f ∧ (E = 0 ∧ consE [advL s.f (flatR L)] = 0 ∧ PutTo s.f s.L s'.L (flatR L) 1 (flatR L).length ∧ HasI s s' (flatR L) ∨ E ≠ 0 ∧ s'.L.map Lv.pl = s.L.map Lv.pl ∧ WhyI s (flatR L))) → SpIn w' w'.heap.size s' → SpOk s' → SpLo w.heap.size s' → Below w.heap.size w w' → InsertedS s (flatR L) w x w' from fun x w' s' E h1 h2 h3 h4 h5 h6 => ⟨s', E, h1, h2, h3, h4, h5, h6⟩)
  have hsv : s.val = .agg #[.slice s.sA s.f.length s.sc, .slice s.lA s.L.length s.lc] := rfl
  rw [hsv] at y1 ⊢
  clear hs ok hl hok hw hn hvb hvs hvo hvz hin
  go_enter Tryz.func7, Tryz.ntmps7
  go_upto_region 1 with fail
  rw [← hV]
  clear hV
  go_wp2_with fail
  refine y1.out.mono ?_
  rintro _ w1 ⟨n, rfl, hn, b1⟩
  have hv1 := H.out.2.2.2.2.2.2.2.1.past b1 H.out.2.2.2.2.2.2.2.1.inside
  have hz1 := H.out.2.2.2.2.2.2.2.2.past b1 H.out.2.2.2.2.2.2.2.2.inside
  have H1 := Lib.hid (And.intro hn (And.intro (H.out.2.2.2.2.2.2.1.trans (b1.mono H.out.2.2.2.2.2.2.1.size)) (And.intro hv1 (And.intro hz1 hz1.inside))))
  clear hn b1 d0 d1 y1
  by_cases h0 : n = 0
  case neg =>
    have t1 : (n != 0) = true := bne_iff_ne.2 h0
    have HN := Lib.hid (show ¬ SpGood s.f s.L ∧ n = 8 from by
      rcases H1.out.1 with ⟨_, h⟩ | h
      · exact absurd h h0
      · exact h)
    obtain ⟨z0, z1⟩ := own2 hz1
    have f0 := hz1.open_ 0
    have f1 := hz1.open_ 1
    have hX := (hz1.set_ 0 (.slice none 0 0)).set_ 1 (.slice none 0 0)
    obtain ⟨x0, x1⟩ := own2 hX
    have HB := Lib.hid (below_two H1.out.2.1 (Nat.le_succ _) (P := w.heap.size + 1) (.slice none 0 0) (.slice none 0 0))
    clear hv1 hz1 hX h0
    go_wp2_with fail
    exact bodyPost_ret (v := .tuple #[.agg #[.slice none 0 0, .slice none 0 0], .int .i64 n]) (by simp [results, Tryz.results7, go_sem, x0, x1]) rfl (HP.out _ _ Sp.nil n rfl (.inl ⟨HN.out.1, HN.out.2, rfl⟩) (sp_nil_in _ _) sp_nil_ok (sp_nil_lo _) HB.out)
  subst h0
  have hgood : SpGood s.f s.L := by
    rcases H1.out.1 with ⟨h, _⟩ | ⟨_, h⟩
    · exact h
    · exact absurd h (by decide)
  have hin1 := H.out.1.keep H1.out.2.1
  have hwt : wtS s.L ≤ 274877906944 := by have := H.out.2.2.2.2.1; omega
  have y2 := Lib.hid (copyS_any s w1 hin1 H.out.2.1 hgood hwt)
  have HG := Lib.hid hgood
  obtain ⟨d0, d1⟩ := own2 hv1
  rw [hsv] at y2
  clear hv1 hz1 hgood hin1 hwt
  go_wp2_with fail
  refine y2.out.mono ?_
  rintro _ w2 ⟨s1, rfl, hc, b2⟩
  rw [show s1.val = .agg #[.slice s1.sA s1.f.length s1.sc, .slice s1.lA s1.L.length s1.lc] from rfl]
  obtain ⟨V3, hV3⟩ : ∃ V3, V3 = w2.alloc (.cells #[.slice s1.sA s1.f.length s1.sc, .slice s1.lA s1.L.length s1.lc] 71) := ⟨_, rfl⟩
  obtain ⟨hwk, b3⟩ := wk_of_copy (base := w1.heap.size) hc (Nat.le_refl _) b2.size V3 hV3
  have b23 := belows b2 b3
  have b03 := belows H1.out.2.1 b23
  have HC := Lib.hid (And.intro hc.f hc.L)
  have H3 := Lib.hid (And.intro hwk (And.intro b03 (And.intro (H1.out.2.2.1.past b23 H1.out.2.2.1.inside) (And.intro (H1.out.2.2.2.1.past b23 H1.out.2.2.2.1.inside) (Nat.le_trans H1.out.2.2.2.2 b2.size)))))
  have y3 := Lib.hid (build_any s1.sA s1.sc s1.f A c L V3 hwk.since hwk.ok.f (H.out.2.2.1.keep b03) H.out.2.2.2.1 (by have := H.out.2.2.2.2.1; omega) H.out.2.2.2.2.2.1)
  have g0 : V3.cell? ⟨w2.heap.size, 0, none⟩ = some (.slice s1.sA s1.f.length s1.sc) := hwk.own.at_ 0
  clear hc hwk b2 b3 b23 b03 d0 d1 y2
  go_upto_region 5 with fail
  rw [← hV3]
  clear hV3
  go_wp2_with fail
  refine y3.out.mono ?_
  rintro _ w4 ⟨b, rfl, hb0, hbn, ib, ob, lb, b4⟩
  obtain ⟨E, hE⟩ : ∃ E, bldE s1.f (flatR L) = E := ⟨_, rfl⟩
  rw [hE] at hb0 hbn ⊢
  have HE := Lib.hid hE
  obtain ⟨V4, hV4, hb4, hs4, ho4⟩ := btbox w4 b
  have b44 := belows b4 hb4
  have H4 := Lib.hid (And.intro hb0 (And.intro (ib.keep hb4) (And.intro ob (And.intro lb (And.intro ho4 (And.intro (H3.out.1.past b44) (And.intro (belows H3.out.2.1 b44) (And.intro (H3.out.2.2.1.past b44 H3.out.2.2.1.inside) (And.intro (H3.out.2.2.2.1.past b44 H3.out.2.2.2.1.inside) b44)))))))))
  rw [show b.val = .agg #[.slice b.sA b.f.length b.sc, .slice b.uA b.l.length b.uc] from rfl]
  clear hb0 hbn ib ob lb b4 hb4 hs4 ho4 b44 hE g0 y3
  go_upto_region 6 with fail
  rw [← hV4]
  clear hV4
  by_cases hE0 : E = 0
  · have t1 : (E == 0) = true := by rw [hE0]; rfl
    have hlen : b.l.length ≤ (flatR L).length := by
      have h1 := congrArg List.length (H4.out.1 hE0).2.2
      have h2 := consL_len [advL s1.f (flatR L)]
      rw [List.length_map] at h1
      simp only [List.flatten_cons, List.flatten_nil, List.append_nil] at h2
      have h3 : (advL s1.f (flatR L)).length = (flatR L).length := List.length_map ..
      omega
    have hcons : consE [advL s1.f (flatR L)] = 0 := by
      have h1 := HE.out
      unfold bldE at h1
      rw [if_pos (show chk s1.f = 0 ∧ frontL s1.f = s1.f from (H4.out.1 hE0).1)] at h1
      omega
    have hgood1 : SpGood s1.f s1.L := by rw [HC.out.1]; exact pl_good HC.out.2.symm HG.out
    have hok : PutIn w1.heap.size w2.heap.size s1 b V4 := ⟨H4.out.2.2.2.2.2.1, hgood1, H4.out.2.1, H4.out.2.2.1, H4.out.2.2.2.1.of (fun k hk => (H3.out.1.lt k hk).2), H4.out.2.2.2.1.mono (H3.out.1.base_), by
      obtain ⟨k1, k2, k3⟩ := H4.out.1 hE0
      rw [k2]
      exact batch_ok k1 hcons k3, by rw [(H4.out.1 hE0).2.1]; exact later_refl _, by
      have h1 := (pl_parts HC.out.2).2.2.1
      have h2 := H.out.2.2.2.2.1
      omega⟩
    have y4 := Lib.hid (put_any w1.heap.size w2.heap.size _ s1 b V4 hok (Nat.le_refl _))
    have HK := Lib.hid (And.intro hlen (And.intro hcons hok))
    obtain ⟨e0, e1⟩ := own2 H4.out.2.2.2.2.1
    rw [show b.val = .agg #[.slice b.sA b.f.length b.sc, .slice b.uA b.l.length b.uc] from rfl] at y4
    have HE0 := Lib.hid hE0
    clear hlen hcons hgood1 hok hE0
    go_wp2_with fail
    refine y4.out.mono ?_
    rintro _ w5 ⟨E2, rfl, hk5, h5⟩
    have hlt2 : ∀ k, SpS w2.heap.size s1.lA k → w1.heap.size ≤ k := fun k hk => (H3.out.1.lt k hk).1
    have b05 : Below w.heap.size w w5 := H4.out.2.2.2.2.2.2.1.trans (hk5.below (fun k hk => Nat.le_trans H1.out.2.1.size (hlt2 k hk)) (H4.out.2.2.2.2.2.2.1.size))
    have o25 := hk5.own H4.out.2.2.2.2.2.2.2.1 (fun hs => by have h1 := hlt2 _ hs; have h2 := H1.out.2.2.2.2; omega)
    have oz5 := hk5.own H4.out.2.2.2.2.2.2.2.2.1 (fun hs => by have h1 := hlt2 _ hs; have h2 := H1.out.2.2.2.2; omega)
    have HB5 := Lib.hid (And.intro b05 (And.intro o25 oz5))
    by_cases hE2 : E2 = 0
    · have t2 : (E2 != 0) = false := by rw [hE2]; rfl
      have hput : ∃ s', PutOut w1.heap.size w2.heap.size s1 b.l 1 b.l.length V4 w5 s' := by
        rcases h5 with ⟨_, h⟩ | h
        · exact h
        · have := h.1; omega
      obtain ⟨s', hp⟩ := hput
      obtain ⟨g0, g1⟩ := own2 hp.wk.own
      obtain ⟨z0, z1⟩ := own2 oz5
      have f0 := oz5.open_ 0
      have f1 := oz5.open_ 1
      have hX := (oz5.set_ 0 (.slice s'.sA s'.f.length s'.sc)).set_ 1 (.slice s'.lA s'.L.length s'.lc)
      obtain ⟨x0, x1⟩ := own2 hX
      have hlo := hp.wk.lo_
      have HX := Lib.hid (And.intro (sp_kept hp.wk.spin (hlo.mono H1.out.2.2.2.2) (kept_two (P := w.heap.size + 1) (.slice s'.sA s'.f.length s'.sc) (.slice s'.lA s'.L.length s'.lc))) (And.intro hp.wk.ok (And.intro (hlo.mono H1.out.2.1.size) (And.intro (below_two b05 (Nat.le_succ w.heap.size) (.slice s'.sA s'.f.length s'.sc) (.slice s'.lA s'.L.length s'.lc)) (And.intro (hp.h3.trans HC.out.1) (by
        have h1 := hp.put.swap HC.out.2 (eqs_cons (HK.out.2.2.good.front.right) HK.out.2.1 (H4.out.1 HE0.out).2.2) HK.out.1
        rw [HC.out.1] at h1
        have h2 : HasI s s' (flatR L) := ⟨fun hb hq => by
          have e2 := (H4.out.1 HE0.out).2.2
          rw [HC.out.1] at e2
          have e3 := congrArg List.length e2
          rw [List.length_map] at e3
          rw [← e3]
          exact hp.has.new (by rw [(pl_parts HC.out.2).2.2.2]; exact hb) (fun h0 => hq (List.eq_nil_of_length_eq_zero (e3.symm.trans h0))), fun h => by
          have h3 := hp.has.fr
          rw [HC.out.1] at h3
          exact h3 (fr_pl HC.out.2 h)⟩
        exact And.intro h1 h2 : PutTo s.f s.L s'.L (flatR L) 1 (flatR L).length ∧ HasI s s' (flatR L)))))))
      have HCE := Lib.hid (show consE [advL s.f (flatR L)] = 0 by rw [← HC.out.1]; exact HK.out.2.1)
      clear hk5 h5 hlt2 b05 o25 oz5 hE2 hp hX hlo e0 e1 y4
      go_wp2_with fail
      exact bodyPost_ret (v := .tuple #[.agg #[.slice s'.sA s'.f.length s'.sc, .slice s'.lA s'.L.length s'.lc], .int .i64 0]) (by simp [results, Tryz.results7, go_sem, x0, x1]) rfl (HP.out _ _ s' 0 rfl (.inr ⟨HG.out, HX.out.2.2.2.2.1, .inl ⟨rfl, HCE.out, HX.out.2.2.2.2.2⟩⟩) HX.out.1 HX.out.2.1 HX.out.2.2.1 HX.out.2.2.2.1)
    · have t2 : (E2 != 0) = true := bne_iff_ne.2 hE2
      have HNE := Lib.hid hE2
      have HWY := Lib.hid (show WhyI s (flatR L) from by
        rcases h5 with ⟨h, _⟩ | h
        · exact absurd h hE2
        · exact why_pl HC.out.2 h.2)
      clear hk5 h5 hlt2 b05 o25 oz5 hE2 e0 e1 y4
      have hin6 := H.out.1.keep HB5.out.1
      have hwt6 : wtS s.L ≤ 274877906944 := by have := H.out.2.2.2.2.1; omega
      have y6 := Lib.hid (copyS_any s w5 hin6 H.out.2.1 HG.out hwt6)
      obtain ⟨d0, d1⟩ := own2 HB5.out.2.1
      rw [hsv] at y6
      clear hin6 hwt6
      go_wp2_with fail
      refine y6.out.mono ?_
      rintro _ w6 ⟨s3, rfl, hc3, b6⟩
      have oz := HB5.out.2.2.past b6 HB5.out.2.2.inside
      obtain ⟨z0, z1⟩ := own2 oz
      have f0 := oz.open_ 0
      have f1 := oz.open_ 1
      have hX := (oz.set_ 0 (.slice s3.sA s3.f.length s3.sc)).set_ 1 (.slice s3.lA s3.L.length s3.lc)
      obtain ⟨x0, x1⟩ := own2 hX
      have hP1 : w.heap.size + 1 < w5.heap.size := HB5.out.2.2.inside
      have HX := Lib.hid (And.intro (sp_kept hc3.in_ (hc3.lo.mono hP1) (kept_two (P := w.heap.size + 1) (.slice s3.sA s3.f.length s3.sc) (.slice s3.lA s3.L.length s3.lc))) (And.intro hc3.ok (And.intro (hc3.lo.mono HB5.out.1.size) (And.intro (below_two (belows HB5.out.1 b6) (Nat.le_succ w.heap.size) (.slice s3.sA s3.f.length s3.sc) (.slice s3.lA s3.L.length s3.lc)) (And.intro hc3.f hc3.L)))))
      rw [show s3.val = .agg #[.slice s3.sA s3.f.length s3.sc, .slice s3.lA s3.L.length s3.lc] from rfl]
      clear hc3 b6 oz hX d0 d1 y6
      go_wp2_with fail
      exact bodyPost_ret (v := .tuple #[.agg #[.slice s3.sA s3.f.length s3.sc, .slice s3.lA s3.L.length s3.lc], .int .i64 E2]) (by simp [results, Tryz.results7, go_sem, x0, x1]) rfl (HP.out _ _ s3 E2 rfl (.inr ⟨HG.out, HX.out.2.2.2.2.1, .inr ⟨HNE.out, HX.out.2.2.2.2.2, HWY.out⟩⟩) HX.out.1 HX.out.2.1 HX.out.2.2.1 HX.out.2.2.2.1)
  · have t1 : (E == 0) = false := beq_eq_false_iff_ne.2 hE0
    have t2 : (E != 0) = true := bne_iff_ne.2 hE0
    have HNE := Lib.hid hE0
    have HWY := Lib.hid (show WhyI s (flatR L) from .inl (by rw [← HC.out.1, HE.out]; exact hE0))
    have HB5 := Lib.hid (And.intro H4.out.2.2.2.2.2.2.1 (And.intro H4.out.2.2.2.2.2.2.2.1 H4.out.2.2.2.2.2.2.2.2.1))
    clear hE0
    have hin6 := H.out.1.keep HB5.out.1
    have hwt6 : wtS s.L ≤ 274877906944 := by have := H.out.2.2.2.2.1; omega
    have y6 := Lib.hid (copyS_any s V4 hin6 H.out.2.1 HG.out hwt6)
    obtain ⟨d0, d1⟩ := own2 HB5.out.2.1
    rw [hsv] at y6
    clear hin6 hwt6
    go_wp2_with fail
    refine y6.out.mono ?_
    rintro _ w6 ⟨s3, rfl, hc3, b6⟩
    have oz := HB5.out.2.2.past b6 HB5.out.2.2.inside
    obtain ⟨z0, z1⟩ := own2 oz
    have f0 := oz.open_ 0
    have f1 := oz.open_ 1
    have hX := (oz.set_ 0 (.slice s3.sA s3.f.length s3.sc)).set_ 1 (.slice s3.lA s3.L.length s3.lc)
    obtain ⟨x0, x1⟩ := own2 hX
    have hP1 : w.heap.size + 1 < V4.heap.size := HB5.out.2.2.inside
    have HX := Lib.hid (And.intro (sp_kept hc3.in_ (hc3.lo.mono hP1) (kept_two (P := w.heap.size + 1) (.slice s3.sA s3.f.length s3.sc) (.slice s3.lA s3.L.length s3.lc))) (And.intro hc3.ok (And.intro (hc3.lo.mono HB5.out.1.size) (And.intro (below_two (belows HB5.out.1 b6) (Nat.le_succ w.heap.size) (.slice s3.sA s3.f.length s3.sc) (.slice s3.lA s3.L.length s3.lc)) (And.intro hc3.f hc3.L)))))
    rw [show s3.val = .agg #[.slice s3.sA s3.f.length s3.sc, .slice s3.lA s3.L.length s3.lc] from rfl]
    clear hc3 b6 oz hX d0 d1 y6
    go_wp2_with fail
    exact bodyPost_ret (v := .tuple #[.agg #[.slice s3.sA s3.f.length s3.sc, .slice s3.lA s3.L.length s3.lc], .int .i64 E]) (by simp [results, Tryz.results7, go_sem, x0, x1]) rfl (HP.out _ _ s3 E rfl (.inr ⟨HG.out, HX.out.2.2.2.2.1, .inr ⟨HNE.out, HX.out.2.2.2.2.2, HWY.out⟩⟩) HX.out.1 HX.out.2.1 HX.out.2.2.1 HX.out.2.2.2.1)
end Go.Proofs.YtenjlhlighkenaaGreat
namespace Go.Proofs.YtenjlhlighkenaaGreat
open Go Go.RowKit

def AllS (s : Sp) (w : World) (x : Ending) (w' : World) : Prop :=
  ∃ (b : Bt) (e : Int), x = .returned (.tuple #[.slice b.uA b.l.length b.uc, .int .i64 e]) ∧ ((¬ SpGood s.f s.L ∧ e = 8 ∧ b = Bt.nil) ∨ (SpGood s.f s.L ∧ e = bldE s.f (partsS s.L) ∧ (e = 0 → b.l.map Up.p = consL [advL s.f (partsS s.L)]) ∧ (e ≠ 0 → b = Bt.nil))) ∧ BtIn w' w'.heap.size b ∧ BtOk b ∧ BtLo w.heap.size b ∧ Below w.heap.size w w'
set_option maxRecDepth 100000 in
set_option maxHeartbeats 6400000 in
theorem all_any (s : Sp) (w : World) (hs : SpIn w w.heap.size s) (os : SpOk s) (hn : (partsS s.L).length ≤ 1099511627776) :
    Calls Tryz.prog 13 #[s.val] w (AllS s w) := by
  obtain ⟨V, hV, hvb, hvs, hvo⟩ := spbox w s
  have hin := hs.keep hvb
  have u1 := Lib.hid (scheck_any s V hin os)
  have H := Lib.hid (And.intro hin (And.intro os (And.intro hvb (And.intro hvo hn))))
  obtain ⟨d0, d1⟩ := own2 hvo
  rw [show s.val = .agg #[.slice s.sA s.f.length s.sc, .slice s.lA s.L.length s.lc] from rfl] at u1 ⊢
  have HP := Lib.hid (show ∀ (b : Bt) e w', ((¬ SpGood s.f s.L ∧ e = 8 ∧ b = Bt.nil) ∨ (SpGood s.f s.L ∧ e = bldE s.f (partsS s.L) ∧ (e = 0 → b.l.map Up.p = consL [advL s.f (partsS s.L)]) ∧ (e ≠ 0 → b = Bt.nil))) → BtIn w' w'.heap.size b → BtOk b → BtLo w.heap.size b → Below w.heap.size w w' → AllS s w (.returned (.tuple #[.slice b.uA b.l.length b.uc, .int .i64 e])) w' from fun b e w' h1 h2 h3 h4 h5 => ⟨b, e, rfl, h1, h2, h3, h4, h5⟩)
  clear hs os hvb hvs hvo hin hn
  go_enter Tryz.func13, Tryz.ntmps13
  go_upto_region 1 with fail
  rw [← hV]
  clear hV
  go_wp2_with fail
  refine u1.out.mono ?_
  rintro _ w1 ⟨e, rfl, he, b1⟩
  have H1 := Lib.hid (And.intro b1 he)
  clear u1
  obtain ⟨d0, d1⟩ := own2 (H.out.2.2.2.1.past b1 H.out.2.2.2.1.inside)
  by_cases h0 : e = 0
  · have hg : SpGood s.f s.L := by
      rcases he with ⟨h, _⟩ | ⟨_, h⟩
      · exact h
      · omega
    have u2 := Lib.hid (collect_all s w1 (H.out.1.keep b1) H.out.2.1 hg H.out.2.2.2.2)
    rw [show s.val = .agg #[.slice s.sA s.f.length s.sc, .slice s.lA s.L.length s.lc] from rfl] at u2
    have HG := Lib.hid hg
    have t1 : (e != 0) = false := by simp [h0]
    clear he b1 hg h0
    go_wp2_with fail
    refine u2.out.mono ?_
    rintro _ w2 ⟨b, rfl, h1, h2, h3, h4, h5, h6⟩
    have H2 := Lib.hid (And.intro h1 (And.intro h2 (And.intro h3 (And.intro h4 (And.intro h5 h6)))))
    clear h1 h2 h3 h4 h5 h6 u2
    go_wp2_with fail
    exact bodyPost_ret (v := .tuple #[.slice b.uA b.l.length b.uc, .int .i64 (bldE s.f (partsS s.L))]) (by simp [results, Tryz.results13, go_sem]) rfl (HP.out b _ _ (.inr ⟨HG.out, rfl, fun h => (H2.out.1 h).2.2, H2.out.2.1⟩) H2.out.2.2.1 H2.out.2.2.2.1 (H2.out.2.2.2.2.1.mono (belows H.out.2.2.1 H1.out.1).size) (belows H.out.2.2.1 (belows H1.out.1 H2.out.2.2.2.2.2)))
  · have hg : ¬ SpGood s.f s.L ∧ e = 8 := by
      rcases he with ⟨_, h⟩ | h
      · exact absurd h h0
      · exact h
    have t1 : (e != 0) = true := bne_iff_ne.2 h0
    have HG := Lib.hid hg
    clear he b1 hg h0
    go_wp2_with fail
    exact bodyPost_ret (v := .tuple #[.slice none 0 0, .int .i64 e]) (by simp [results, Tryz.results13, go_sem]) rfl (HP.out Bt.nil e _ (.inl ⟨HG.out.1, HG.out.2, rfl⟩) (bt_nil_in _ _) bt_nil_ok (bt_nil_lo _) (belows H.out.2.2.1 H1.out.1))
end Go.Proofs.YtenjlhlighkenaaGreat
namespace Go.Proofs.YtenjlhlighkenaaGreat
open Go Go.RowKit

theorem times_keepS {w w' : World} {A : Option Addr} {l : List Tm} (h : Times w w.heap.size A l) (hb : Below w.heap.size w w') : Times w' w'.heap.size A l := (h.past hb (Nat.le_refl _)).wide hb.size
def CompS (s : Sp) (g : List Tm) (w : World) (x : Ending) (w' : World) : Prop :=
  ∃ (s' : Sp) (E : Int), x = .returned (.tuple #[s'.val, .int .i64 E]) ∧ ((¬ SpGood s.f s.L ∧ E = 8 ∧ s' = Sp.nil) ∨ (SpGood s.f s.L ∧ s'.L.map Lv.pl = s.L.map Lv.pl ∧ ((¬ FrontOk g ∧ E = 4 ∧ s'.f = s.f) ∨ (FrontOk g ∧ ¬ LaterF g s.f ∧ E = 1 ∧ s'.f = s.f) ∨ (FrontOk g ∧ LaterF g s.f ∧ E = 0 ∧ s'.f = g)))) ∧ SpIn w' w'.heap.size s' ∧ SpOk s' ∧ SpLo w.heap.size s' ∧ Below w.heap.size w w'
set_option maxRecDepth 100000 in
set_option maxHeartbeats 12800000 in
theorem compact_any (s : Sp) (A : Option Addr) (c : Nat) (g : List Tm) (w : World) (hs : SpIn w w.heap.size s) (ok : SpOk s) (hgt : Times w w.heap.size A g) (hgo : TsOk g c) (hw : wtS s.L ≤ 274877906944) :
    Calls Tryz.prog 9 #[s.val, .slice A g.length c] w (CompS s g w) := by
  obtain ⟨V, hV, hvb, hvs, hvo, hvz⟩ := sp_box2 w s
  have hin := hs.keep hvb
  have y1 := Lib.hid (scheck_any s V hin ok)
  have H := Lib.hid (And.intro hs (And.intro ok (And.intro hgt (And.intro hgo (And.intro hw (And.intro hvb (And.intro hvo hvz)))))))
  obtain ⟨d0, d1⟩ := own2 hvo
  have HP := Lib.hid (show ∀ x w' (s' : Sp) (E : Int), x = .returned (.tuple #[s'.val, .int .i64 E]) → ((¬ SpGood s.f s.L ∧ E = 8 ∧ s' = Sp.nil) ∨ (SpGood s.f s.L ∧ s'.L.map Lv.pl = s.L.map Lv.pl ∧ ((¬ FrontOk g ∧ E = 4 ∧ s'.f = s.f) ∨ (FrontOk g ∧ ¬ LaterF g s.f ∧ E = 1 ∧ s'.f = s.f) ∨ (FrontOk g ∧ LaterF g s.f ∧ E = 0 ∧ s'.f = g)))) → SpIn w' w'.heap.size s' → SpOk s' → SpLo w.heap.size s' → Below w.heap.size w w' → CompS s g w x w' from fun x w' s' E h1 h2 h3 h4 h5 h6 => ⟨s', E, h1, h2, h3, h4, h5, h6⟩)
  have hsv : s.val = .agg #[.slice s.sA s.f.length s.sc, .slice s.lA s.L.length s.lc] := rfl
  rw [hsv] at y1 ⊢
  clear hs ok hgt hgo hw hvb hvs hvo hvz hin
  go_enter Tryz.func9, Tryz.ntmps9
  go_upto_region 1 with fail
  rw [← hV]
  clear hV
  go_wp2_with fail
  refine y1.out.mono ?_
  rintro _ w1 ⟨n, rfl, hn, b1⟩
  have hv1 := H.out.2.2.2.2.2.2.1.past b1 H.out.2.2.2.2.2.2.1.inside
  have hz1 := H.out.2.2.2.2.2.2.2.past b1 H.out.2.2.2.2.2.2.2.inside
  have H1 := Lib.hid (And.intro hn (And.intro (H.out.2.2.2.2.2.1.trans (b1.mono H.out.2.2.2.2.2.1.size)) (And.intro hv1 (And.intro hz1 hz1.inside))))
  clear hn b1 d0 d1 y1
  by_cases h0 : n = 0
  case neg =>
    have t1 : (n != 0) = true := bne_iff_ne.2 h0
    have HN := Lib.hid (show ¬ SpGood s.f s.L ∧ n = 8 from by
      rcases H1.out.1 with ⟨_, h⟩ | h
      · exact absurd h h0
      · exact h)
    obtain ⟨z0, z1⟩ := own2 hz1
    have f0 := hz1.open_ 0
    have f1 := hz1.open_ 1
    have hX := (hz1.set_ 0 (.slice none 0 0)).set_ 1 (.slice none 0 0)
    obtain ⟨x0, x1⟩ := own2 hX
    have HB := Lib.hid (below_two H1.out.2.1 (Nat.le_succ _) (P := w.heap.size + 1) (.slice none 0 0) (.slice none 0 0))
    clear hv1 hz1 hX h0
    go_wp2_with fail
    exact bodyPost_ret (v := .tuple #[.agg #[.slice none 0 0, .slice none 0 0], .int .i64 n]) (by simp [results, Tryz.results9, go_sem, x0, x1]) rfl (HP.out _ _ Sp.nil n rfl (.inl ⟨HN.out.1, HN.out.2, rfl⟩) (sp_nil_in _ _) sp_nil_ok (sp_nil_lo _) HB.out)
  subst h0
  have hgood : SpGood s.f s.L := by
    rcases H1.out.1 with ⟨h, _⟩ | ⟨_, h⟩
    · exact h
    · exact absurd h (by decide)
  have hin1 := H.out.1.keep H1.out.2.1
  have y2 := Lib.hid (copyS_any s w1 hin1 H.out.2.1 hgood H.out.2.2.2.2.1)
  have HG := Lib.hid hgood
  obtain ⟨d0, d1⟩ := own2 hv1
  rw [hsv] at y2
  clear hv1 hz1 hgood hin1
  go_wp2_with fail
  refine y2.out.mono ?_
  rintro _ w2 ⟨s1, rfl, hc, b2⟩
  rw [show s1.val = .agg #[.slice s1.sA s1.f.length s1.sc, .slice s1.lA s1.L.length s1.lc] from rfl]
  obtain ⟨V3, hV3, b3, hs3, o3⟩ := spbox w2 s1
  have b23 := belows b2 b3
  have b03 := belows H1.out.2.1 b23
  have HC := Lib.hid (And.intro hc.f hc.L)
  have HL := Lib.hid (And.intro hc.in_ (And.intro hc.ok (And.intro hc.lo (And.intro b2.size b3))))
  have H3 := Lib.hid (And.intro b03 (And.intro (H1.out.2.2.1.past b23 H1.out.2.2.1.inside) (And.intro (H1.out.2.2.2.1.past b23 H1.out.2.2.2.1.inside) o3)))
  have hgt3 := times_keepS H.out.2.2.1 b03
  have y3 := Lib.hid (frontier_anyS A c g V3 hgt3 H.out.2.2.2.1)
  clear hc b2 b3 b23 b03 d0 d1 y2 hs3 o3 hgt3
  go_upto_region 5 with fail
  rw [← hV3]
  clear hV3
  go_wp2_with fail
  refine y3.out.mono ?_
  rintro _ w4 ⟨fb, rfl, hfb, b4⟩
  have H4 := Lib.hid (And.intro (belows H3.out.1 b4) (And.intro (H3.out.2.1.past b4 H3.out.2.1.inside) (And.intro (H3.out.2.2.1.past b4 H3.out.2.2.1.inside) (And.intro (H3.out.2.2.2.past b4 H3.out.2.2.2.inside) (belows HL.out.2.2.2.2 b4)))))
  have HFB := Lib.hid hfb
  clear b4 hfb y3
  cases fb with
  | false =>
    have oz := H4.out.2.2.1
    obtain ⟨z0, z1⟩ := own2 oz
    have f0 := oz.open_ 0
    have f1 := oz.open_ 1
    obtain ⟨g0, g1⟩ := own2 H4.out.2.2.2.1
    have hX := (oz.set_ 0 (.slice s1.sA s1.f.length s1.sc)).set_ 1 (.slice s1.lA s1.L.length s1.lc)
    obtain ⟨x0, x1⟩ := own2 hX
    have hP1 : w.heap.size + 1 < w1.heap.size := H1.out.2.2.2.2
    have HX := Lib.hid (And.intro (sp_kept ((HL.out.1.past H4.out.2.2.2.2 (Nat.le_refl _)).wide H4.out.2.2.2.2.size) (HL.out.2.2.1.mono hP1) (kept_two (P := w.heap.size + 1) (.slice s1.sA s1.f.length s1.sc) (.slice s1.lA s1.L.length s1.lc))) (And.intro (HL.out.2.2.1.mono H1.out.2.1.size) (below_two H4.out.1 (Nat.le_succ w.heap.size) (.slice s1.sA s1.f.length s1.sc) (.slice s1.lA s1.L.length s1.lc))))
    clear oz hX
    go_wp2_with fail
    exact bodyPost_ret (v := .tuple #[.agg #[.slice s1.sA s1.f.length s1.sc, .slice s1.lA s1.L.length s1.lc], .int .i64 4]) (by simp [results, Tryz.results9, go_sem, x0, x1]) rfl (HP.out _ _ s1 4 rfl (.inr ⟨HG.out, HC.out.2, .inl ⟨fun h => absurd (HFB.out.2 h) (by decide), rfl, HC.out.1⟩⟩) HX.out.1 HL.out.2.1 HX.out.2.1 HX.out.2.2)
  | true =>
    have hgt4 := times_keepS H.out.2.2.1 H4.out.1
    have y4 := Lib.hid (later_any A c g s.sA s.sc s.f w4 hgt4 (Nat.le_trans H.out.2.2.2.1.le H.out.2.2.2.1.c_) (H.out.1.keep H4.out.1).since (Nat.le_trans H.out.2.1.f.le H.out.2.1.f.c_))
    obtain ⟨d0, d1⟩ := own2 H4.out.2.1
    clear hgt4
    go_wp2_with fail
    refine y4.out.mono ?_
    rintro _ w5 ⟨lb, rfl, hlb, b5⟩
    have H5 := Lib.hid (And.intro (belows H4.out.1 b5) (And.intro (H4.out.2.2.1.past b5 H4.out.2.2.1.inside) (And.intro (H4.out.2.2.2.1.past b5 H4.out.2.2.2.1.inside) (belows H4.out.2.2.2.2 b5))))
    have HLB := Lib.hid hlb
    clear b5 hlb y4 d0 d1
    cases lb with
    | false =>
      have oz := H5.out.2.1
      obtain ⟨z0, z1⟩ := own2 oz
      have f0 := oz.open_ 0
      have f1 := oz.open_ 1
      obtain ⟨g0, g1⟩ := own2 H5.out.2.2.1
      have hX := (oz.set_ 0 (.slice s1.sA s1.f.length s1.sc)).set_ 1 (.slice s1.lA s1.L.length s1.lc)
      obtain ⟨x0, x1⟩ := own2 hX
      have hP1 : w.heap.size + 1 < w1.heap.size := H1.out.2.2.2.2
      have HX := Lib.hid (And.intro (sp_kept ((HL.out.1.past H5.out.2.2.2 (Nat.le_refl _)).wide H5.out.2.2.2.size) (HL.out.2.2.1.mono hP1) (kept_two (P := w.heap.size + 1) (.slice s1.sA s1.f.length s1.sc) (.slice s1.lA s1.L.length s1.lc))) (And.intro (HL.out.2.2.1.mono H1.out.2.1.size) (below_two H5.out.1 (Nat.le_succ w.heap.size) (.slice s1.sA s1.f.length s1.sc) (.slice s1.lA s1.L.length s1.lc))))
      clear oz hX
      go_wp2_with fail
      exact bodyPost_ret (v := .tuple #[.agg #[.slice s1.sA s1.f.length s1.sc, .slice s1.lA s1.L.length s1.lc], .int .i64 1]) (by simp [results, Tryz.results9, go_sem, x0, x1]) rfl (HP.out _ _ s1 1 rfl (.inr ⟨HG.out, HC.out.2, .inr (.inl ⟨HFB.out.1 (by first | trivial | rfl), fun h => absurd (HLB.out.2 h) (by decide), rfl, HC.out.1⟩)⟩) HX.out.1 HL.out.2.1 HX.out.2.1 HX.out.2.2)
    | true =>
      have hgn := H.out.2.2.2.1.n
      have y5 := Lib.hid (listT_times A c g w5 (times_keepS H.out.2.2.1 H5.out.1) (by omega))
      go_wp2_with fail
      refine y5.out.mono ?_
      rintro _ w6 ⟨A', rfl, ht6, hlo6, b6⟩
      have oz := H5.out.2.1.past b6 H5.out.2.1.inside
      have oq := H5.out.2.2.1.past b6 H5.out.2.2.1.inside
      have b26 := belows H5.out.2.2.2 b6
      have b06 := belows H5.out.1 b6
      have hq : w2.heap.size < w5.heap.size := H5.out.2.2.1.inside
      have hPQ : w.heap.size + 1 ≠ w2.heap.size := by have := H1.out.2.2.2.2; have := HL.out.2.2.2.1; omega
      have hP1 : w.heap.size + 1 < w1.heap.size := H1.out.2.2.2.2
      have hP2 := HL.out.2.2.2.1
      have hin7 : SpIn (w6.setCell ⟨w2.heap.size, 0, none⟩ (.slice A' g.length g.length)) w2.heap.size s1 := HL.out.1.past (b26.setCell (p := ⟨w2.heap.size, 0, none⟩) (Nat.le_refl _) _) (Nat.le_refl _)
      have hlo6' : LoT w5.heap.size A' := fun b o e => (hlo6 b o e).1
      have ht7 := times_kept ht6 (hlo6'.of (S := fun b => b = w2.heap.size) (fun b e => by omega)) (KeptK.set_ (S := fun b => b = w2.heap.size) (o := 0) (KeptK.refl w6 _) (.inl rfl) (.slice A' g.length g.length))
      have hsz : (w6.setCell ⟨w2.heap.size, 0, none⟩ (.slice A' g.length g.length)).heap.size = w6.heap.size := by simp
      have hspi : SpIn (w6.setCell ⟨w2.heap.size, 0, none⟩ (.slice A' g.length g.length)) (w6.setCell ⟨w2.heap.size, 0, none⟩ (.slice A' g.length g.length)).heap.size ⟨A', g.length, g, s1.lA, s1.lc, s1.L⟩ := ⟨ht7, (hin7.wide (by rw [hsz]; exact b26.size)).lev⟩
      have hlo7 : SpLo w1.heap.size ⟨A', g.length, g, s1.lA, s1.lc, s1.L⟩ := ⟨hlo6'.mono (by omega), HL.out.2.2.1.l, HL.out.2.2.1.each_⟩
      have hok7 : SpOk ⟨A', g.length, g, s1.lA, s1.lc, s1.L⟩ := ⟨⟨hgn, Nat.le_refl _, by show g.length ≤ maxLen; unfold maxLen; omega⟩, HL.out.2.1.n, HL.out.2.1.le, HL.out.2.1.c_, HL.out.2.1.each_⟩
      have oq7 := oq.set_ 0 (.slice A' g.length g.length)
      have oz7 := (KeptK.set_ (S := fun b => b = w2.heap.size) (o := 0) (KeptK.refl w6 _) (.inl rfl) (.slice A' g.length g.length)).own oz hPQ
      have fq := oq.open_ 0
      obtain ⟨k0, k1⟩ := own2 oq
      obtain ⟨g0, g1⟩ := own2 oq7
      obtain ⟨z0, z1⟩ := own2 oz7
      have f0 := oz7.open_ 0
      have f1 := oz7.open_ 1
      have hX := (oz7.set_ 0 (.slice A' g.length g.length)).set_ 1 (.slice s1.lA s1.L.length s1.lc)
      obtain ⟨x0, x1⟩ := own2 hX
      have HX := Lib.hid (And.intro (sp_kept hspi (hlo7.mono hP1) (kept_two (P := w.heap.size + 1) (.slice A' g.length g.length) (.slice s1.lA s1.L.length s1.lc))) (And.intro (hlo7.mono H1.out.2.1.size) (And.intro (below_two (b06.setCell (p := ⟨w2.heap.size, 0, none⟩) (by show w.heap.size ≤ w2.heap.size; omega) (.slice A' g.length g.length)) (Nat.le_succ w.heap.size) (.slice A' g.length g.length) (.slice s1.lA s1.L.length s1.lc)) hok7)))
      clear oz oq b26 b06 hq hPQ hin7 hlo6' ht7 hspi hlo7 hok7 oq7 oz7 hX ht6 hlo6 b6 hP2 hP1 y5
      go_wp2_with fail
      exact bodyPost_ret (v := .tuple #[.agg #[.slice A' g.length g.length, .slice s1.lA s1.L.length s1.lc], .int .i64 0]) (by simp [results, Tryz.results9, go_sem, x0, x1]) rfl (HP.out _ _ ⟨A', g.length, g, s1.lA, s1.lc, s1.L⟩ 0 rfl (.inr ⟨HG.out, HC.out.2, .inr (.inr ⟨HFB.out.1 (by first | trivial | rfl), HLB.out.1 (by first | trivial | rfl), rfl, rfl⟩)⟩) HX.out.1 HX.out.2.2.2 HX.out.2.1 HX.out.2.2.1)
end Go.Proofs.YtenjlhlighkenaaGreat
namespace Go.Proofs.YtenjlhlighkenaaGreat
open Go Go.RowKit

def bk (n : Int) : Uk := ⟨[], [vnum n], ⟨0, 0, 0⟩⟩
theorem bfront_nil : FrontOk [] := by
  have h1 := frontTo_len (sortT []) (sortT []).length (Nat.le_refl _)
  have h2 : (sortT []).length = 0 := by simp [sortT]
  exact ⟨by rfl, List.eq_nil_of_length_eq_zero (by unfold frontL; omega)⟩
end Go.Proofs.YtenjlhlighkenaaGreat
namespace Go.Proofs.YtenjlhlighkenaaGreat
open Go Go.RowKit

theorem cls_ge {n k : Nat} (h : k < clsN n) : 2 ^ k ≤ n := by
  rcases Nat.lt_or_ge n (2 ^ k) with h1 | h1
  · have := cls_pow h1; omega
  · exact h1
theorem lv_wt {f : List Tm} {l : Lv} (g : LvGood f l) (hp : 1 ≤ l.cls) : 1 ≤ wtL l ∧ (l.busy = true → 2 ≤ wtL l) ∧ (2 ≤ l.cls → 2 ≤ wtL l) ∧ (2 ≤ l.cls → l.busy = true → 4 ≤ wtL l) ∧ (3 ≤ l.cls → 4 ≤ wtL l) := by
  cases hb : l.busy
  · obtain ⟨_, _, h3, _⟩ := g.idle hb
    have e : wtL l = l.b.l.length := by unfold wtL; rw [hb]; simp
    rw [e]
    have g1 : 0 < clsN l.b.l.length → 1 ≤ l.b.l.length := fun h => by simpa using cls_ge h
    have g2 : 1 < clsN l.b.l.length → 2 ≤ l.b.l.length := fun h => by simpa using cls_ge h
    have g3 : 2 < clsN l.b.l.length → 4 ≤ l.b.l.length := fun h => by simpa using cls_ge h
    refine ⟨g1 (by omega), fun h => (by cases h), fun h => g2 (by omega), fun _ h => (by cases h), fun h => g3 (by omega)⟩
  · obtain ⟨_, _, _, h3, h4, _⟩ := g.busy hb
    have e : l.m.a.length + l.m.b.length ≤ wtL l := by unfold wtL; rw [if_pos hb]; omega
    have g1 : 0 < clsN l.m.a.length → 1 ≤ l.m.a.length := fun h => by simpa using cls_ge h
    have g2 : 1 < clsN l.m.a.length → 2 ≤ l.m.a.length := fun h => by simpa using cls_ge h
    have g3 : 2 < clsN l.m.a.length → 4 ≤ l.m.a.length := fun h => by simpa using cls_ge h
    have k1 : 0 < clsN l.m.b.length → 1 ≤ l.m.b.length := fun h => by simpa using cls_ge h
    have k2 : 1 < clsN l.m.b.length → 2 ≤ l.m.b.length := fun h => by simpa using cls_ge h
    have a1 := g1 (by omega)
    have b1 := k1 (by omega)
    refine ⟨by omega, fun _ => by omega, fun h => by have := g2 (by omega); omega, fun h _ => by have := g2 (by omega); have := k2 (by omega); omega, fun h => by have := g3 (by omega); omega⟩
theorem parts_wt (L : List Lv) : (partsS L).length ≤ wtS L := by
  induction L with
  | nil => exact Nat.zero_le _
  | cons l L ih =>
    have e : wtS (l :: L) = wtL l + wtS L := by unfold wtS; rw [List.map_cons, List.sum_cons]
    rw [partsS_cons, List.length_append, e]
    have : (partsL l).length ≤ wtL l := by
      unfold partsL wtL
      split
      · omega
      · exact Nat.le_refl _
    omega
theorem wt_cons' (l : Lv) (L : List Lv) : wtS (l :: L) = wtL l + wtS L := by unfold wtS; rw [List.map_cons, List.sum_cons]
theorem busy_wt {f : List Tm} : ∀ (L : List Lv), (∀ l ∈ L, 1 ≤ l.cls) → (∀ l ∈ L, LvGood f l) → 2 * busyN L ≤ wtS L
  | [], _, _ => Nat.zero_le _
  | l :: L, h1, h2 => by
    have ih := busy_wt L (fun x hx => h1 x (List.mem_cons_of_mem _ hx)) (fun x hx => h2 x (List.mem_cons_of_mem _ hx))
    have hw := lv_wt (h2 l List.mem_cons_self) (h1 l List.mem_cons_self)
    rw [busyN_cons, wt_cons']
    split
    · next hb => have := hw.2.1 hb; omega
    · omega
theorem one_level {f : List Tm} {L : List Lv} {l : Lv} (g : SpGood f L) (hw : wtS L ≤ 2) (hl : l ∈ L) (hb : l.busy = true) : L = [l] := by
  have h2 := (lv_wt (g.each l hl) (g.pos l hl)).2.1 hb
  match L, g, hw, hl with
  | x :: M, g, hw, hl =>
    rw [wt_cons'] at hw
    rcases List.mem_cons.1 hl with rfl | hm
    · match M, g, hw with
      | [], _, _ => rfl
      | y :: N, g, hw =>
        have := (lv_wt (g.each y (by simp)) (g.pos y (by simp))).1
        rw [wt_cons'] at hw
        omega
    · have h3 := wt_le hm
      have := (lv_wt (g.each x (by simp)) (g.pos x (by simp))).1
      omega
theorem cls_12 : clsN 1 = 1 ∧ clsN 2 = 2 := ⟨by rfl, by rfl⟩
theorem st_three {L : List Lv} (g : SpGood [] L) (hw : wtS L ≤ 3) (hp : 3 ≤ (partsS L).length) (fr : AllFr [] L) (has : HasB L 1) : ∃ x y, L = [x, y] ∧ x.cls = 2 ∧ x.busy = false ∧ y.busy = false := by
  match L, g, hw, hp, fr, has with
  | [], _, _, hp, _, _ => simp [partsS] at hp
  | [x], g, hw, hp, fr, has =>
    exfalso
    have hx := lv_wt (g.each x (by simp)) (g.pos x (by simp))
    rw [wt_cons'] at hw
    have e : (partsS [x]).length = (partsL x).length := by rw [partsS_cons, List.length_append]; rfl
    rw [e] at hp
    cases hb : x.busy
    · obtain ⟨l, hl, h⟩ := has
      obtain rfl : l = x := by simpa using hl
      have e2 : partsL l = l.b.l := by unfold partsL; rw [hb]; simp
      rw [e2] at hp
      rcases h with ⟨_, h⟩ | ⟨h, _⟩
      · omega
      · rw [hb] at h; cases h
    · obtain ⟨f1, f2, f3, _⟩ := fr x (by simp) hb
      have e2 : (partsL x).length = x.m.a.length + x.m.b.length := by unfold partsL partsM; rw [if_pos hb, f1, f2, f3]; simp
      obtain ⟨_, _, _, h3, h4, _⟩ := (g.each x (by simp)).busy hb
      have e3 : x.m.a.length + x.m.b.length ≤ wtL x := by unfold wtL; rw [if_pos hb]; omega
      have h5 : clsN x.m.a.length = clsN x.m.b.length := by omega
      have h6 := g.pos x (by simp)
      have z1 := (cls_zero (n := x.m.a.length)).2
      have z2 := (cls_zero (n := x.m.b.length)).2
      have hab : x.m.a.length = 1 ∧ x.m.b.length = 2 ∨ x.m.a.length = 2 ∧ x.m.b.length = 1 := by
        have : x.m.a.length ≠ 0 := fun h => by have := z1 h; omega
        have : x.m.b.length ≠ 0 := fun h => by have := z2 h; omega
        omega
      rcases hab with ⟨h7, h8⟩ | ⟨h7, h8⟩
      · rw [h7, h8, cls_12.1, cls_12.2] at h5; omega
      · rw [h7, h8, cls_12.1, cls_12.2] at h5; omega
  | [x, y], g, hw, hp, fr, has =>
    have hx := lv_wt (g.each x (by simp)) (g.pos x (by simp))
    have hy := lv_wt (g.each y (by simp)) (g.pos y (by simp))
    have hyp := g.pos y (by simp)
    have hf := (List.pairwise_cons.1 g.fall).1 y (by simp)
    rw [wt_cons', wt_cons'] at hw
    have h0 := hx.2.2.1 (by omega)
    have h1 := hy.1
    refine ⟨x, y, rfl, ?_, ?_, ?_⟩
    · by_cases h3 : 3 ≤ x.cls
      · have := hx.2.2.2.2 h3; omega
      · omega
    · cases hb : x.busy
      · rfl
      · have := hx.2.2.2.1 (by omega) hb; omega
    · cases hb : y.busy
      · rfl
      · have := hy.2.1 hb; omega
  | x :: y :: z :: M, g, hw, hp, fr, has =>
    exfalso
    have hzp := g.pos z (by simp)
    have hf := (List.pairwise_cons.1 g.fall).1 y (by simp)
    have hf2 := (List.pairwise_cons.1 (List.pairwise_cons.1 g.fall).2).1 z (by simp)
    have hx := (lv_wt (g.each x (by simp)) (g.pos x (by simp))).2.2.2.2 (by omega)
    rw [wt_cons'] at hw
    omega
def tk (k : Nat) : List Up := [lu 0 0 1 0, lu 0 1 1 0, lu 0 2 1 0].take k
theorem tk_E {k : Nat} (h : k ≤ 3) : consE [advL [] (tk k)] = 0 := by
  match k, h with
  | 0, _ => exact (by kernel_rfl : consE [advL [] (tk 0)] = 0)
  | 1, _ => exact (by kernel_rfl : consE [advL [] (tk 1)] = 0)
  | 2, _ => exact (by kernel_rfl : consE [advL [] (tk 2)] = 0)
  | 3, _ => exact (by kernel_rfl : consE [advL [] (tk 3)] = 0)
theorem tx_E {k : Nat} (G : Nat) (h : k < 3) : consE [advL [] [lu G (k : Int) 1 0]] = 0 ∧ (consL [advL [] [lu G (k : Int) 1 0]]).length = 1 ∧ (tk k ++ [lu G (k : Int) 1 0]).map Up.p = (tk (k + 1)).map Up.p ∧ chkUs (tk (k + 1)) = 0 := by
  match k, h with
  | 0, _ => exact ⟨by kernel_rfl, by kernel_rfl, by kernel_rfl, by kernel_rfl⟩
  | 1, _ => exact ⟨by kernel_rfl, by kernel_rfl, by kernel_rfl, by kernel_rfl⟩
  | 2, _ => exact ⟨by kernel_rfl, by kernel_rfl, by kernel_rfl, by kernel_rfl⟩
theorem tk_L : (consL [advL [] (tk 3)]).length = 3 := by kernel_rfl
def bk2 (n : Int) : Uk := ⟨[], [vnum n], ⟨2, 0, 0⟩⟩
theorem tk_L2 : consL [advL [⟨2, 0, 0⟩] (tk 3)] = [(bk2 0, (1 : Int)), (bk2 1, 1), (bk2 2, 1)] ∧ consE [advL [⟨2, 0, 0⟩] (tk 3)] = 0 := ⟨by kernel_rfl, by kernel_rfl⟩
structure St (k : Nat) (s : Sp) : Prop where
  f : s.f = []
  good : SpGood [] s.L
  eq : EqS [] (partsS s.L) (tk k)
  wt : wtS s.L ≤ k
  fr : AllFr [] s.L
  has : 0 < k → HasB s.L 1
theorem st_zero : St 0 Sp.nil := ⟨rfl, ⟨bfront_nil, fun _ h => (by cases h), List.Pairwise.nil, fun _ h => (by cases h)⟩, EqS.refl (by rfl), Nat.le_refl _, fun _ h => (by cases h), fun h => by omega⟩
theorem st_next {k G : Nat} {s s' : Sp} {E : Int} (h : St k s) (hk : k < 3) (hr : ¬ SpGood s.f s.L ∧ E = 8 ∧ s' = Sp.nil ∨ SpGood s.f s.L ∧ s'.f = s.f ∧ (E = 0 ∧ consE [advL s.f [lu G (k : Int) 1 0]] = 0 ∧ PutTo s.f s.L s'.L [lu G (k : Int) 1 0] 1 1 ∧ HasI s s' [lu G (k : Int) 1 0] ∨ E ≠ 0 ∧ s'.L.map Lv.pl = s.L.map Lv.pl ∧ WhyI s [lu G (k : Int) 1 0])) : E = 0 ∧ St (k + 1) s' := by
  have hb := busy_wt s.L h.good.pos h.good.each
  have hwt := h.wt
  have tx := tx_E G hk
  rcases hr with ⟨h1, _⟩ | ⟨_, h2, h3⟩
  · exact absurd (by rw [h.f]; exact h.good) h1
  rw [h.f] at h2 h3
  rcases h3 with ⟨e, _, hp, hi⟩ | ⟨_, _, hw⟩
  · refine ⟨e, h2, hp.good, hp.eq.trans ((h.eq.app (EqS.refl ?_)).trans (EqS.of_p ?_ tx.2.2.1)), ?_, ?_, fun _ => ?_⟩
    · exact (chkUs_parts hp.eq.r).2
    · rw [chkUs_p tx.2.2.1]; exact tx.2.2.2
    · have := hp.wt; omega
    · have := hi.2; rw [h.f] at this; exact this h.fr
    · have h5 := hi.1 (by omega)
      rw [h.f] at h5
      have h6 := h5 (fun h0 => by have := tx.2.1; rw [h0] at this; cases this)
      rw [tx.2.1] at h6
      exact h6
  · exfalso
    rcases hw with hw | ⟨hw, hl⟩
    · rw [h.f] at hw
      exact hw ((if_pos bfront_nil).trans tx.1)
    · obtain ⟨l, hl1, hl2, hl3⟩ := hl (by omega)
      obtain ⟨l0, hm, hpl⟩ := List.mem_map.1 hl1
      have e := LvEq.of hpl
      have hb0 : l0.busy = true := by rw [e.busy]; exact hl2
      have hL := one_level h.good (by omega) hm hb0
      have hfr := h.fr l0 hm hb0
      have hpp := (pl_parts (L := [l0]) (K := [l]) (by rw [List.map_cons, List.map_cons, hpl])).1
      have e1 : partsS [l0] = partsM l0.m := by rw [partsS_cons]; unfold partsL; rw [if_pos hb0]; exact List.append_nil _
      have e2 : partsS [l] = partsM l.m := by rw [partsS_cons]; unfold partsL; rw [if_pos hl2]; exact List.append_nil _
      rw [← e.f, hfr.2.2.2] at hl3
      have heq := h.eq
      rw [hL] at heq
      rw [e1] at hpp heq
      rw [e2] at hpp
      have h7 := ((EqS.of_p (f := []) heq.l hpp).cons (fun _ hx => (by cases hx))).2
      have h8 := (heq.cons (fun _ hx => (by cases hx))).2
      rw [← h7, h8, tk_E (by omega)] at hl3
      exact absurd hl3 (by decide)
end Go.Proofs.YtenjlhlighkenaaGreat
namespace Go.Proofs.YtenjlhlighkenaaGreat
open Go Go.RowKit

structure BoxS (P : Nat) (s : Sp) (w : World) : Prop where
  own : Own w P 31 s.cells
  in_ : SpIn w w.heap.size s
  ok : SpOk s
  lo : SpLo (P + 1) s
theorem BoxS.keep {P : Nat} {s : Sp} {w w' : World} (h : BoxS P s w) (hb : Below w.heap.size w w') : BoxS P s w' := ⟨h.own.past hb h.own.inside, h.in_.keep hb, h.ok, h.lo⟩
structure MadeS (X : List Up) (s : Sp) : Prop where
  f : s.f = []
  good : SpGood [] s.L
  eq : EqS [] (partsS s.L) X
  wt : wtS s.L ≤ X.length
end Go.Proofs.YtenjlhlighkenaaGreat
namespace Go.Proofs.YtenjlhlighkenaaGreat
open Go Go.RowKit

theorem sbox_one (w : World) (G : Nat) (n d : Int) (h : Vals w w.heap.size (some ⟨G, 0, none⟩) [vnum n]) :
    ∃ V, V = w.alloc (.cells #[.slice none 0 0, .slice (some ⟨G, 0, none⟩) 1 1, .int .u64 0, .int .u64 0, .int .u64 0, .int .i64 d] 57) ∧ Below w.heap.size w V ∧ Ups V V.heap.size (some ⟨w.heap.size, 0, none⟩) [lu G n d 0] := by
  obtain ⟨W, e1, s1, b1, o1⟩ := boxd w [.slice none 0 0, .slice (some ⟨G, 0, none⟩) 1 1, .int .u64 0, .int .u64 0, .int .u64 0, .int .i64 d] 57
  refine ⟨W, e1, b1, ups_own (t := 57) (l := [lu G n d 0]) o1 fun u hu => ?_⟩
  obtain rfl : u = lu G n d 0 := by simpa using hu
  exact lu_in (vals_keep h b1)
def OneS (n : Int) (w : World) (x : Ending) (w' : World) : Prop := ∃ G H, x = .returned (.slice (some ⟨H, 0, none⟩) 1 1) ∧ Ups w' w'.heap.size (some ⟨H, 0, none⟩) [lu G n 1 0] ∧ Below w.heap.size w w'
set_option maxRecDepth 100000 in
set_option maxHeartbeats 1600000 in
theorem sone_any (n : Int) (w : World) : Calls Tryz.prog 19 #[.int .i64 n] w (OneS n w) := by
  have hv := vals_num w n
  obtain ⟨V, hV, hb, hu⟩ := sbox_one _ w.heap.size n 1 hv
  simp only [World.size_alloc] at hu
  have HV := Lib.hid (And.intro hu (((Below.refl w.heap.size w).alloc (Nat.le_refl _) (.cells #[.bool false, .int .i64 n, .string ⟨#[]⟩] 104)).trans (hb.mono (by simp))))
  clear hv hb hu
  go_enter Tryz.func19, Tryz.ntmps19
  go_wp2_with fail
  go_ret
  dsimp only
  rw [← hV]
  exact ⟨_, _, rfl, HV.out.1, HV.out.2⟩
def Bw (V W : World) : Prop := Below V.heap.size V W
theorem Bw.self (V : World) : Bw V V := Below.refl _ _
theorem Bw.drew {V W : World} (h : Bw V W) : Bw V W.drew := Below.drew h
theorem Bw.more {V W : World} (h : Bw V W) (o : Obj) : Bw V (W.alloc o) := Below.alloc h h.size o
theorem Bw.call {V X Y : World} (h : Bw V X) (b : Below X.heap.size X Y) : Bw V Y := belows h b
theorem Bw.set {V W : World} (h : Bw V W) {Q o : Nat} (hQ : V.heap.size ≤ Q) (x : Value) : Bw V (W.setCell ⟨Q, o, none⟩ x) := h.setCell (p := ⟨Q, o, none⟩) hQ x
theorem ul_more {X : World} {A : Option Addr} {L : List (Rw Up)} (h : ULs X X.heap.size A L) (o : Obj) : ULs (X.alloc o) (X.alloc o).heap.size A L := h.keep ((Below.refl _ _).alloc (Nat.le_refl _) o)
theorem ul_one {w1 Y : World} {Hh G k : Nat} (hu : Ups w1 w1.heap.size (some ⟨Hh, 0, none⟩) [lu G (k : Int) 1 0]) (hY : Bw w1 Y) : ULs (Y.alloc (.cells #[.slice (some ⟨Hh, 0, none⟩) 1 1] 32)) (Y.alloc (.cells #[.slice (some ⟨Hh, 0, none⟩) 1 1] 32)).heap.size (some ⟨Y.heap.size, 0, none⟩) [⟨some ⟨Hh, 0, none⟩, 1, [lu G (k : Int) 1 0]⟩] := by
  obtain ⟨V, hV, _, h⟩ := one_list Y (some ⟨Hh, 0, none⟩) 1 [lu G (k : Int) 1 0] (hu.keep hY)
  rw [show V = Y.alloc (.cells #[.slice (some ⟨Hh, 0, none⟩) 1 1] 32) from hV] at h
  exact h
structure InLv (P : Nat) (k : Nat) (s : Sp) (w : World) : Prop where
  box : BoxS P s w
  st : St k s
theorem lu_okS {G k : Nat} (h : k < 3) : UOk (lu G (k : Int) 1 0) := lu_ok (by omega) (by omega)
theorem ins_lv {k G H P B : Nat} {s : Sp} {X : World} (h : InLv P k s X) (hk : k < 3) (hu : ULs X X.heap.size (some ⟨B, 0, none⟩) [⟨some ⟨H, 0, none⟩, 1, [lu G (k : Int) 1 0]⟩]) :
    Calls Tryz.prog 7 #[.agg #[.slice s.sA s.f.length s.sc, .slice s.lA s.L.length s.lc], .slice (some ⟨B, 0, none⟩) 1 1] X fun x w' => ∃ s', x = .returned (.tuple #[.agg #[.slice s'.sA s'.f.length s'.sc, .slice s'.lA s'.L.length s'.lc], .int .i64 0]) ∧ St (k + 1) s' ∧ SpIn w' w'.heap.size s' ∧ SpOk s' ∧ SpLo X.heap.size s' ∧ Below X.heap.size X w' := by
  have hwt := h.st.wt
  have := insert_sp s (some ⟨B, 0, none⟩) 1 [⟨some ⟨H, 0, none⟩, 1, [lu G (k : Int) 1 0]⟩] X h.box.in_ h.box.ok hu (fun r hr u hu => by
    rw [List.mem_singleton.1 hr] at hu
    rw [List.mem_singleton.1 hu]
    exact lu_okS hk) (by simp [flatR]; omega) (by simp)
  refine this.mono fun x w' ⟨s', E, h1, h2, h3, h4, h5, h6⟩ => ?_
  obtain ⟨rfl, hst⟩ := st_next h.st hk h2
  exact ⟨s', h1, hst, h3, h4, h5, h6⟩
theorem mid_new {w wr w2 : World} {k n : Nat} {s s' : Sp} (hin : InLv w.heap.size k s wr) (hb : Below w.heap.size w wr) (hb2 : Bw wr w2) (st2 : St (k + 1) s') (i2 : SpIn w2 w2.heap.size s') (o2 : SpOk s') (lo2 : SpLo n s') (hn : wr.heap.size ≤ n) :
    ∃ (Q : Nat) (s'' : Sp), Value.pointer (some ⟨w2.heap.size, 0, none⟩) = .pointer (some ⟨Q, 0, none⟩) ∧ Value.int .i64 0 = .int .i64 0 ∧ St (k + 1) s'' ∧ SpIn (w2.alloc (.cells #[.slice s'.sA s'.f.length s'.sc, .slice s'.lA s'.L.length s'.lc] 31)) (w2.alloc (.cells #[.slice s'.sA s'.f.length s'.sc, .slice s'.lA s'.L.length s'.lc] 31)).heap.size s'' ∧ SpOk s'' ∧ SpLo (w.heap.size + 1) s'' ∧ Own (w2.alloc (.cells #[.slice s'.sA s'.f.length s'.sc, .slice s'.lA s'.L.length s'.lc] 31)) Q 31 s''.cells ∧ Own (w2.alloc (.cells #[.slice s'.sA s'.f.length s'.sc, .slice s'.lA s'.L.length s'.lc] 31)) w.heap.size 31 s.cells ∧ Below w.heap.size w (w2.alloc (.cells #[.slice s'.sA s'.f.length s'.sc, .slice s'.lA s'.L.length s'.lc] 31)) := by
  have hP := hin.box.own.inside
  exact ⟨w2.heap.size, s', rfl, rfl, st2, i2.keep ((Below.refl _ _).alloc (Nat.le_refl _) _), o2, lo2.mono (by omega), Own.made w2 _ s'.cells, hin.box.own.past (hb2.more _) hP, belows hb (hb2.more _)⟩
theorem mid_set {w wr w2 : World} {k n Q : Nat} {s s' : Sp} (hin : InLv w.heap.size k s wr) (hb : Below w.heap.size w wr) (hb2 : Bw wr w2) (st2 : St (k + 1) s') (i2 : SpIn w2 w2.heap.size s') (o2 : SpOk s') (lo2 : SpLo n s') (hQ : wr.heap.size ≤ Q) (hn : Q + 1 ≤ n) (oz : Own w2 Q 31 [.slice none 0 0, .slice none 0 0]) :
    ∃ (Q' : Nat) (s'' : Sp), Value.pointer (some ⟨Q, 0, none⟩) = .pointer (some ⟨Q', 0, none⟩) ∧ Value.int .i64 0 = .int .i64 0 ∧ St (k + 1) s'' ∧ SpIn ((w2.setCell ⟨Q, 0, none⟩ (.slice s'.sA s'.f.length s'.sc)).setCell ⟨Q, 1, none⟩ (.slice s'.lA s'.L.length s'.lc)) ((w2.setCell ⟨Q, 0, none⟩ (.slice s'.sA s'.f.length s'.sc)).setCell ⟨Q, 1, none⟩ (.slice s'.lA s'.L.length s'.lc)).heap.size s'' ∧ SpOk s'' ∧ SpLo (w.heap.size + 1) s'' ∧ Own ((w2.setCell ⟨Q, 0, none⟩ (.slice s'.sA s'.f.length s'.sc)).setCell ⟨Q, 1, none⟩ (.slice s'.lA s'.L.length s'.lc)) Q' 31 s''.cells ∧ Own ((w2.setCell ⟨Q, 0, none⟩ (.slice s'.sA s'.f.length s'.sc)).setCell ⟨Q, 1, none⟩ (.slice s'.lA s'.L.length s'.lc)) w.heap.size 31 s.cells ∧ Below w.heap.size w ((w2.setCell ⟨Q, 0, none⟩ (.slice s'.sA s'.f.length s'.sc)).setCell ⟨Q, 1, none⟩ (.slice s'.lA s'.L.length s'.lc)) := by
  have hP := hin.box.own.inside
  have hb3 : Bw wr ((w2.setCell ⟨Q, 0, none⟩ (.slice s'.sA s'.f.length s'.sc)).setCell ⟨Q, 1, none⟩ (.slice s'.lA s'.L.length s'.lc)) := (hb2.set hQ _).set hQ _
  exact ⟨Q, s', rfl, rfl, st2, sp_kept i2 (lo2.mono hn) (kept_two _ _), o2, lo2.mono (by omega), (oz.set_ 0 _).set_ 1 _, hin.box.own.past hb3 hP, belows hb hb3⟩
theorem good_later {f g : List Tm} {L : List Lv} (h : SpGood f L) (hg : FrontOk g) (hl : LaterF g f) : SpGood g L :=
  ⟨hg, h.pos, h.fall, fun l hm => ⟨fun hb => by
    obtain ⟨h1, h2, h3, h4, h5, h6, h7⟩ := (h.each l hm).busy hb
    exact ⟨h1, h2, h3, h4, h5, later_trans hl h6, h7⟩, fun hb => by
    obtain ⟨h1, h2, h3, h4⟩ := (h.each l hm).idle hb
    exact ⟨h1, h2, h3, later_trans hl h4⟩⟩⟩
theorem front_2 : FrontOk [⟨2, 0, 0⟩] := ⟨by kernel_rfl, by kernel_rfl⟩
theorem st_end {s : Sp} (h : St 3 s) : (∃ x y, s.L = [x, y] ∧ x.cls = 2) ∧ cntS s.L = 2 ∧ (partsS s.L).length = 3 ∧ (consL [advL [] (partsS s.L)]).length = 3 ∧ bldE [] (partsS s.L) = 0 ∧ wtS s.L ≤ 3 := by
  have hc := h.eq.cons (fun _ hx => (by cases hx))
  have h3 : (consL [advL [] (partsS s.L)]).length = 3 := by rw [hc.1]; exact tk_L
  have h4 := consL_len [advL [] (partsS s.L)]
  simp only [List.flatten_cons, List.flatten_nil, List.append_nil] at h4
  have h5 : (advL [] (partsS s.L)).length = (partsS s.L).length := List.length_map ..
  have h6 := parts_wt s.L
  have h7 := h.wt
  obtain ⟨x, y, e, k1, k2, k3⟩ := st_three h.good h.wt (by omega) h.fr (h.has (by omega))
  refine ⟨⟨x, y, e, k1⟩, ?_, by omega, h3, ?_, h.wt⟩
  · rw [cnt_busy, e, busyN_cons, busyN_cons, k2, k3]; rfl
  · exact (if_pos bfront_nil).trans (hc.2.trans (tk_E (Nat.le_refl 3)))
theorem comp_2 {s c : Sp} {E : Int} (h : St 3 s) (hr : (¬ SpGood s.f s.L ∧ E = 8 ∧ c = Sp.nil) ∨ (SpGood s.f s.L ∧ c.L.map Lv.pl = s.L.map Lv.pl ∧ ((¬ FrontOk [⟨2, 0, 0⟩] ∧ E = 4 ∧ c.f = s.f) ∨ (FrontOk [⟨2, 0, 0⟩] ∧ ¬ LaterF [⟨2, 0, 0⟩] s.f ∧ E = 1 ∧ c.f = s.f) ∨ (FrontOk [⟨2, 0, 0⟩] ∧ LaterF [⟨2, 0, 0⟩] s.f ∧ E = 0 ∧ c.f = [⟨2, 0, 0⟩])))) :
    E = 0 ∧ c.f = [⟨2, 0, 0⟩] ∧ SpGood [⟨2, 0, 0⟩] c.L ∧ consL [advL [⟨2, 0, 0⟩] (partsS c.L)] = [(bk2 0, (1 : Int)), (bk2 1, 1), (bk2 2, 1)] ∧ bldE [⟨2, 0, 0⟩] (partsS c.L) = 0 ∧ wtS c.L ≤ 3 := by
  rcases hr with ⟨h1, _⟩ | ⟨_, hpl, h2⟩
  · exact absurd (by rw [h.f]; exact h.good) h1
  have hlf : LaterF [⟨2, 0, 0⟩] s.f := .inl h.f
  rcases h2 with ⟨h1, _⟩ | ⟨_, h1, _⟩ | ⟨_, _, hE, hf⟩
  · exact absurd front_2 h1
  · exact absurd hlf h1
  have hpp := pl_parts hpl
  have hg := pl_good hpl.symm (good_later h.good front_2 (.inl rfl))
  have he : EqS [⟨2, 0, 0⟩] (partsS c.L) (tk 3) := (EqS.of_p hg.chk hpp.1).trans (h.eq.later (fun _ hx => (by cases hx)) (.inl rfl))
  have hc := he.cons front_2.right
  exact ⟨hE, hf, hg, hc.1.trans tk_L2.1, (if_pos front_2).trans (hc.2.trans tk_L2.2), by rw [hpp.2.2.1]; exact h.wt⟩
set_option maxRecDepth 100000 in
set_option maxHeartbeats 12800000 in
theorem slives_true (w : World) : Calls Tryz.prog 6 #[] w fun e w' => e = .returned (.bool true) ∧ Below w.heap.size w w' := by
  have y1 := fun n W => Lib.hid (sone_any n W)
  obtain ⟨V, hV, bV, hsV, oV⟩ := spbox w Sp.nil
  have H := Lib.hid (And.intro (⟨⟨oV, sp_nil_in _ _, sp_nil_ok, sp_nil_lo _⟩, st_zero⟩ : InLv w.heap.size 0 Sp.nil V) bV)
  dsimp only [Sp.nil, List.length_nil] at hV
  clear bV hsV oV
  go_enter Tryz.func6, Tryz.ntmps6
  go_upto_region 2 with fail
  rw [← hV]
  clear hV
  go_wp2_with fail
  go_loopw [2] (fun v wr => ∃ (k : Nat) (s : Sp), v = .int .i64 (k : Int) ∧ k ≤ 3 ∧ InLv w.heap.size k s wr ∧ Below w.heap.size w wr)
    (fun v _ => 3 - (intOf v).toNat)
  case atStart => exact ⟨0, Sp.nil, rfl, by omega, H.out.1, H.out.2⟩
  case round =>
    obtain ⟨k, s, rfl, hk, hin, hb⟩ := hrel
    by_cases hlt : k < 3
    · obtain ⟨d0, d1⟩ := own2 hin.box.own
      go_upto_region 5 with fail
      go_cut [3, 4] (fun s3 s4 wx => ∃ (Q : Nat) (s' : Sp), s3 = .pointer (some ⟨Q, 0, none⟩) ∧ s4 = .int .i64 0 ∧ St (k + 1) s' ∧ SpIn wx wx.heap.size s' ∧ SpOk s' ∧ SpLo (w.heap.size + 1) s' ∧ Own wx Q 31 s'.cells ∧ Own wx w.heap.size 31 s.cells ∧ Below w.heap.size w wx)
      case first =>
        have HS := Lib.hid (fun W (h : Bw _ W) => own2 (hin.box.own.past h hin.box.own.inside))
        have hself := Bw.self wr
        have hinX := Lib.hid (fun X (h : Bw wr X) => (⟨hin.box.keep h, hin.st⟩ : InLv w.heap.size k s X))
        have hPr := hin.box.own.inside
        have HI := Lib.hid hin
        have HB := Lib.hid hb
        clear hin
        go_region_held3 (fun w' => Bw wr w' ∧ (w'.cell? ⟨w.heap.size, 0, none⟩ = some (.slice s.sA s.f.length s.sc) ∧ w'.cell? ⟨w.heap.size, 1, none⟩ = some (.slice s.lA s.L.length s.lc)))
          ((refine (fun h => And.intro h (HS.out _ h)) ?_; repeat (first | with_reducible exact hb2 | with_reducible exact hb1 | with_reducible exact hself | with_reducible refine Bw.set ?_ (by first | exact Nat.le_refl _ | exact hz1 | exact Nat.le_succ_of_le hz1) _ | with_reducible refine Bw.more ?_ _ | with_reducible refine Bw.drew ?_)))
          (first | (go_at_call 19; refine (y1 _ _).out.mono ?_; rintro _ w1 ⟨G, Hh, rfl, hu1, b1⟩; have hb1 : Bw wr w1 := Bw.call (by repeat (first | with_reducible exact hself | with_reducible refine Bw.more ?_ _ | with_reducible refine Bw.drew ?_)) b1; have hz1 : wr.heap.size ≤ w1.heap.size := hb1.size; (try (have oz1 : Own w1 wr.heap.size 31 [.slice none 0 0, .slice none 0 0] := (Own.past (by first | exact Own.made _ _ [.slice none 0 0, .slice none 0 0] | exact own_drewKS (Own.made _ _ [.slice none 0 0, .slice none 0 0])) b1 (by simp))))) | (go_at_call 7; refine (ins_lv (G := G) (H := Hh) (hinX.out _ (by repeat (first | with_reducible exact hb1 | with_reducible refine Bw.more ?_ _ | with_reducible refine Bw.drew ?_))) hlt (by first | exact ul_one hu1 (Bw.self _) | exact ul_more (ul_one hu1 (Bw.self _)) _ | simpa using ul_one hu1 ((Bw.self _).more (.cells #[.slice none 0 0, .slice none 0 0] 31)))).mono ?_; rintro _ w2 ⟨s', rfl, st2, i2, o2, lo2, b2⟩; have hb2 : Bw wr w2 := Bw.call (by repeat (first | with_reducible exact hb1 | with_reducible refine Bw.more ?_ _ | with_reducible refine Bw.drew ?_)) b2; (try (have oz : Own w2 wr.heap.size 31 [.slice none 0 0, .slice none 0 0] := Own.past (Own.more oz1 _) b2 (by have := oz1.inside; simp; omega); obtain ⟨e0, e1⟩ := own2 oz; have f0 := oz.open_ 0; have f1 := oz.open_ 1)); (try (have oz : Own w2 w1.heap.size 31 [.slice none 0 0, .slice none 0 0] := Own.past (Own.more (Own.made w1 31 [.slice none 0 0, .slice none 0 0]) _) b2 (by simp <;> omega); obtain ⟨e0, e1⟩ := own2 oz; have f0 := oz.open_ 0; have f1 := oz.open_ 1)); (try (have oz : Own w2 (w1.heap.size + 1) 31 [.slice none 0 0, .slice none 0 0] := Own.past (by simpa using Own.made (w1.alloc _) 31 [.slice none 0 0, .slice none 0 0]) b2 (by simp); obtain ⟨e0, e1⟩ := own2 oz; have f0 := oz.open_ 0; have f1 := oz.open_ 1))))
        all_goals
          go_wp2_with fail
          go_meet
          first
          | exact mid_new HI.out HB.out hb2 st2 i2 o2 lo2 (by simp <;> omega)
          | exact mid_set HI.out HB.out hb2 st2 i2 o2 lo2 (by first | exact Nat.le_refl _ | exact hz1 | exact Nat.le_succ_of_le hz1) (by simp <;> omega) oz
      case rest =>
        obtain ⟨Q, s', rfl, rfl, st2, i2, o2, lo2, oQ, oP, hbx⟩ := hcut
        obtain ⟨g0, g1⟩ := own2 oQ
        obtain ⟨d0, d1⟩ := own2 oP
        have f0 := oP.open_ 0
        have f1 := oP.open_ 1
        have hX := (oP.set_ 0 (.slice s'.sA s'.f.length s'.sc)).set_ 1 (.slice s'.lA s'.L.length s'.lc)
        have HX := Lib.hid (And.intro (⟨⟨hX, sp_kept i2 lo2 (kept_two (P := w.heap.size) (.slice s'.sA s'.f.length s'.sc) (.slice s'.lA s'.L.length s'.lc)), o2, lo2⟩, st2⟩ : InLv w.heap.size (k + 1) s' _) (below_two hbx (Nat.le_refl _) (P := w.heap.size) (.slice s'.sA s'.f.length s'.sc) (.slice s'.lA s'.L.length s'.lc)))
        clear st2 i2 o2 lo2 oQ oP hbx hX hin hb
        go_wp2_with fail
        go_roundw
        case rel => exact ⟨k + 1, s', by go_num, by omega, HX.out.1, HX.out.2⟩
        case measure => simp [intOf]; omega
    · obtain rfl : k = 3 := by omega
      obtain ⟨⟨x, y, hL, hx2⟩, hcnt, hprt, hlen, hbld, hw3⟩ := st_end hin.st
      have hsf := hin.st.f
      have hgd : SpGood s.f s.L := by rw [hsf]; exact hin.st.good
      have y2 := Lib.hid (size_any s _ hin.box.in_ hin.box.ok (by omega))
      rw [show s.val = .agg #[.slice s.sA s.f.length s.sc, .slice s.lA s.L.length s.lc] from rfl] at y2
      obtain ⟨d0, d1⟩ := own2 hin.box.own
      have HR := Lib.hid (And.intro hin hb)
      have HF := Lib.hid (And.intro hL (And.intro hx2 (And.intro hcnt (And.intro hprt (And.intro hlen (And.intro hbld (And.intro hsf hgd)))))))
      clear hin hb hL hx2 hcnt hprt hlen hbld hsf hgd
      go_wp2_with fail
      refine y2.out.mono ?_
      rintro _ w2 ⟨n2, k2, e2, rfl, r2, b2⟩
      obtain ⟨rfl, rfl, rfl⟩ : n2 = 2 ∧ k2 = 3 ∧ e2 = 0 := by
        rcases r2 with ⟨h, _⟩ | ⟨_, h1, h2, h3⟩
        · exact absurd HF.out.2.2.2.2.2.2.2 h
        · rw [HF.out.2.2.1] at h1; rw [HF.out.2.2.2.1] at h2; exact ⟨h1, h2, h3⟩
      have bx2 := HR.out.1.box.keep b2
      have H2 := Lib.hid (And.intro bx2 (belows HR.out.2 b2))
      have y3 := Lib.hid (all_any s w2 bx2.in_ bx2.ok (by have := HF.out.2.2.2.1; omega))
      rw [show s.val = .agg #[.slice s.sA s.f.length s.sc, .slice s.lA s.L.length s.lc] from rfl] at y3
      clear d0 d1
      obtain ⟨d0, d1⟩ := own2 bx2.own
      clear r2 b2 bx2 y2
      go_wp2_with fail
      refine y3.out.mono ?_
      rintro _ w3 ⟨ba, ea, rfl, ra, ia, oa, _, b3⟩
      have hra : ea = 0 ∧ ba.l.length = 3 := by
        rcases ra with ⟨h, _⟩ | ⟨_, h1, h2, _⟩
        · exact absurd HF.out.2.2.2.2.2.2.2 h
        · rw [HF.out.2.2.2.2.2.2.1] at h1 h2
          have h3 : ea = 0 := h1.trans HF.out.2.2.2.2.2.1
          have h4 := congrArg List.length (h2 h3)
          rw [List.length_map, HF.out.2.2.2.2.1] at h4
          exact ⟨h3, h4⟩
      obtain ⟨rfl, hal⟩ := hra
      have bx3 := H2.out.1.keep b3
      obtain ⟨V4, hV4, hs4, bb4, o4⟩ := boxd w3 [.int .u64 2, .int .u64 0, .int .u64 0] 26
      have bx4 := bx3.keep bb4
      have ht4 : Times V4 V4.heap.size (some ⟨w3.heap.size, 0, none⟩) [⟨2, 0, 0⟩] := by rw [hV4]; exact times_made w3 ⟨2, 0, 0⟩
      have y4 := Lib.hid (compact_any s (some ⟨w3.heap.size, 0, none⟩) 1 [⟨2, 0, 0⟩] V4 bx4.in_ bx4.ok ht4 ⟨by simp, by simp, by unfold maxLen; omega⟩ (by omega))
      rw [show s.val = .agg #[.slice s.sA s.f.length s.sc, .slice s.lA s.L.length s.lc] from rfl] at y4
      have H4 := Lib.hid (And.intro bx4 (belows H2.out.2 (belows b3 bb4)))
      clear d0 d1
      obtain ⟨d0, d1⟩ := own2 bx3.own
      clear ra ia oa b3 bb4 bx3 bx4 ht4 o4 hs4 y3
      go_wp2_with fail
      rw [← hV4]
      clear hV4
      refine y4.out.mono ?_
      rintro _ w5 ⟨sc, Ec, rfl, rc, ic, oc, _, b5⟩
      obtain ⟨rfl, hcf, hcg, hcl, hcb, hcw⟩ := comp_2 HR.out.1.st rc
      obtain ⟨V6, hV6, bb6, hs6, o6⟩ := spbox w5 sc
      have hpw := parts_wt sc.L
      have y5 := Lib.hid (all_any sc V6 (ic.keep bb6) oc (by omega))
      rw [show sc.val = .agg #[.slice sc.sA sc.f.length sc.sc, .slice sc.lA sc.L.length sc.lc] from rfl] at y5 ⊢
      have H6 := Lib.hid (And.intro (H4.out.1.keep (belows b5 bb6)) (And.intro (belows H4.out.2 (belows b5 bb6)) (And.intro (ic.keep bb6) (And.intro oc (And.intro o6 (And.intro hcf (And.intro hcg (And.intro hcl (And.intro hcb hcw)))))))))
      clear d0 d1
      obtain ⟨g0, g1⟩ := own2 o6
      clear rc ic oc b5 bb6 hs6 o6 hcf hcg hcl hcb y4
      go_upto_region 12 with fail
      rw [← hV6]
      clear hV6
      go_wp2_with fail
      refine y5.out.mono ?_
      rintro _ w7 ⟨bm, em, rfl, rm, im, om, _, b7⟩
      have hrm : em = 0 ∧ bm.l.map Up.p = [(bk2 0, (1 : Int)), (bk2 1, 1), (bk2 2, 1)] := by
        rw [H6.out.2.2.2.2.2.1] at rm
        rcases rm with ⟨h, _⟩ | ⟨_, h1, h2, _⟩
        · exact absurd H6.out.2.2.2.2.2.2.1 h
        · have h3 : em = 0 := h1.trans H6.out.2.2.2.2.2.2.2.2.1
          exact ⟨h3, (h2 h3).trans H6.out.2.2.2.2.2.2.2.1⟩
      obtain ⟨rfl, hmp⟩ := hrm
      have hob7 := H6.out.2.2.2.2.1.past b7 H6.out.2.2.2.2.1.inside
      have y6 := Lib.hid (compact_any sc none 0 [] w7 (H6.out.2.2.1.keep b7) H6.out.2.2.2.1 Times.nil_ ts_nil (by omega))
      rw [show sc.val = .agg #[.slice sc.sA sc.f.length sc.sc, .slice sc.lA sc.L.length sc.lc] from rfl] at y6
      have H7 := Lib.hid (And.intro (H6.out.1.keep b7) (And.intro (belows H6.out.2.1 b7) (And.intro im hmp)))
      clear g0 g1
      obtain ⟨g0, g1⟩ := own2 hob7
      clear rm im om b7 hmp hob7 y5
      go_wp2_with fail
      refine y6.out.mono ?_
      rintro _ w8 ⟨sd, Ed, rfl, rd, _, _, _, b8⟩
      have hEd : Ed = 1 := by
        rw [H6.out.2.2.2.2.2.1] at rd
        rcases rd with ⟨h, _⟩ | ⟨_, _, h2⟩
        · exact absurd H6.out.2.2.2.2.2.2.1 h
        · rcases h2 with ⟨h, _⟩ | ⟨_, _, h, _⟩ | ⟨_, h, _⟩
          · exact absurd bfront_nil h
          · exact h
          · rcases h with h | ⟨h, _⟩
            · cases h
            · exact absurd rfl h
      subst hEd
      obtain ⟨V9, hV9, bb9, hs9, _⟩ := spbox w8 sd
      have b89 := belows b8 bb9
      have bx9 := H7.out.1.keep b89
      have im9 := H7.out.2.2.1.keep b89
      have H9 := Lib.hid (belows H7.out.2.1 b89)
      obtain ⟨d0, d1⟩ := own2 bx9.own
      have hL2 : s.L.length = 2 := by rw [HF.out.1]; rfl
      obtain ⟨b, o, hA, _, hc⟩ := lies_lv bx9.in_.lev.head (by omega)
      have c0 := hc 0 x (by rw [HF.out.1]; rfl) 0 (.int .i64 x.cls) rfl
      rw [HF.out.2.1, show o + 0 * 10 + 0 = o by omega] at c0
      have hml : bm.l.length = 3 := by
        have := congrArg List.length H7.out.2.2.2
        rw [List.length_map] at this
        exact this
      obtain ⟨b', o', hA', _, hc'⟩ := im9.ups.head (by omega)
      obtain ⟨u, hu, hue⟩ : ∃ u, bm.l[0]? = some u ∧ u.t.e = 2 := by
        have h1 := congrArg (fun l => l[0]?) H7.out.2.2.2
        try dsimp only at h1
        rw [List.getElem?_map] at h1
        cases h2 : bm.l[0]? with
        | none => rw [h2] at h1; cases h1
        | some u =>
          rw [h2] at h1
          refine ⟨u, rfl, ?_⟩
          have h3 : u.p = (bk2 0, (1 : Int)) := Option.some.inj h1
          exact congrArg (fun q : Uk × Int => q.1.t.e) h3
      have e0 := hc' 0 u hu 2 (.int .u64 (u.t.e : Int)) rfl
      rw [hue, show o' + 0 * 6 + 2 = o' + 2 by omega] at e0
      rw [show sd.val = .agg #[.slice sd.sA sd.f.length sd.sc, .slice sd.lA sd.L.length sd.lc] from rfl]
      clear rd b8 bb9 hs9 b89 bx9 im9 hc hc' hu hue g0 g1 y6
      go_upto_region 14 with fail
      rw [← hV9]
      clear hV9
      go_wp2_with fail
      go_ret
      exact ⟨rfl, H9.out⟩
end Go.Proofs.YtenjlhlighkenaaGreat
namespace Go.Proofs.YtenjlhlighkenaaGreat
open Go Go.RowKit

structure HoldSt (s : Sp) (put : List Up) : Prop where
  good : SpGood s.f s.L
  eq : EqS s.f (partsS s.L) put
  wt : wtS s.L ≤ put.length
theorem hold_nil : HoldSt Sp.nil [] := ⟨st_zero.good, EqS.refl (by rfl), Nat.le_refl _⟩
theorem hold_ins {s s' : Sp} {put X : List Up} {E : Int} (h : HoldSt s put) (hr : ¬ SpGood s.f s.L ∧ E = 8 ∧ s' = Sp.nil ∨ SpGood s.f s.L ∧ s'.f = s.f ∧ (E = 0 ∧ consE [advL s.f X] = 0 ∧ PutTo s.f s.L s'.L X 1 X.length ∧ HasI s s' X ∨ E ≠ 0 ∧ s'.L.map Lv.pl = s.L.map Lv.pl ∧ WhyI s X)) (hE : E = 0) : HoldSt s' (put ++ X) := by
  rcases hr with ⟨h1, _⟩ | ⟨_, h2, ⟨_, _, hp, _⟩ | ⟨h3, _⟩⟩
  · exact absurd h.good h1
  · have h4 := hp.wt
    have h5 := h.wt
    refine ⟨by rw [h2]; exact hp.good, ?_, by rw [List.length_append]; omega⟩
    rw [h2]
    exact hp.eq.trans (h.eq.app (EqS.refl (chkUs_parts hp.eq.r).2))
  · exact absurd hE h3
theorem hold_work {s s' : Sp} {put : List Up} {fuel E : Int} {c : Nat} (h : HoldSt s put) (hr : ¬ SpGood s.f s.L ∧ E = 8 ∧ c = 0 ∧ s' = Sp.nil ∨ SpGood s.f s.L ∧ s'.f = s.f ∧ (E = 0 ∧ WkFin s.f s.L fuel s'.L c ∨ E = 10 ∧ c = 0 ∧ s'.L.map Lv.pl = s.L.map Lv.pl)) (hE : E = 0) : HoldSt s' put := by
  rcases hr with ⟨h1, _⟩ | ⟨_, h2, ⟨_, hf⟩ | ⟨h3, _⟩⟩
  · exact absurd h.good h1
  · exact ⟨by rw [h2]; exact hf.good, by rw [h2]; exact hf.eq.trans h.eq, Nat.le_trans hf.wt h.wt⟩
  · omega
theorem hold_comp {s c : Sp} {g : List Tm} {put : List Up} {E : Int} (h : HoldSt s put) (hr : (¬ SpGood s.f s.L ∧ E = 8 ∧ c = Sp.nil) ∨ (SpGood s.f s.L ∧ c.L.map Lv.pl = s.L.map Lv.pl ∧ ((¬ FrontOk g ∧ E = 4 ∧ c.f = s.f) ∨ (FrontOk g ∧ ¬ LaterF g s.f ∧ E = 1 ∧ c.f = s.f) ∨ (FrontOk g ∧ LaterF g s.f ∧ E = 0 ∧ c.f = g)))) (hE : E = 0) : HoldSt c put := by
  rcases hr with ⟨h1, _⟩ | ⟨_, h2, ⟨_, h3, _⟩ | ⟨_, _, h3, _⟩ | ⟨h4, h5, _, h6⟩⟩
  · exact absurd h.good h1
  · omega
  · omega
  · obtain ⟨p1, p2, p3, p4⟩ := pl_parts h2
    have hg := pl_good h2.symm (good_later h.good h4 h5)
    refine ⟨by rw [h6]; exact hg, ?_, by rw [p3]; exact h.wt⟩
    rw [h6]
    have h7 := EqS.later h.eq h.good.front.right h5
    exact (EqS.of_p hg.chk p1).trans h7
theorem cls_mono {m n : Nat} (h : m ≤ n) : clsN m ≤ clsN n := by
  by_cases h0 : m = 0
  · rw [cls_zero.2 h0]; exact Nat.zero_le _
  · refine cls_pow ?_
    have h1 : n ≠ 0 := by omega
    unfold clsN
    rw [if_neg h1]
    exact Nat.lt_of_le_of_lt h Nat.lt_log2_self
theorem hold_few {s : Sp} {put : List Up} (h : HoldSt s put) : cntS s.L ≤ 2 * clsN put.length := by
  have h1 := fall_len (c := (clsN put.length : Int)) h.good.fall h.good.pos (fun l hl => by
    have g := h.good.each l hl
    have w1 := wt_le hl
    have w2 := h.wt
    cases hb : l.busy
    · have e := (g.idle hb).2.2.1
      have h2 : wtL l = l.b.l.length := by unfold wtL; rw [if_neg (by rw [hb]; decide)]
      have := cls_mono (m := l.b.l.length) (n := put.length) (by omega)
      omega
    · have e := (g.busy hb).2.2.2.1
      have h2 : wtL l = max (l.m.a.length + l.m.b.length) (partsM l.m).length := by unfold wtL; rw [if_pos hb]
      have := cls_mono (m := l.m.a.length) (n := put.length) (by omega)
      omega) (by omega)
  have h2 := busy_le s.L
  rw [cnt_busy]
  omega
theorem hold_at {s : Sp} {put e : List Up} {t : Tm} (h : HoldSt s put) (h0 : consE [advL s.f (partsS s.L)] = 0) (he : e.map Up.p = consL [advL s.f (partsS s.L)]) (ht : Past_ s.f t) : atL e t = atL put t ∧ atE e t = atE put t := by
  have h1 : SameAt s.f e (partsS s.L) := same_batch h0 he
  have h2 : SameAt s.f (partsS s.L) put := h.eq.at_ h.good.front.right
  exact at_of_same (h1.trans h2) ht (cons_even h0 he).2.2 h.eq.r
end Go.Proofs.YtenjlhlighkenaaGreat
