/- Part 12 of the texts on which JoinThere rests: facts and contracts. -/
import Derived.Test.YtjffohpdjicfpaaGreatJoinThereM11
import Derived.Test.YtjffohpdjicfpaaGreatSortV
import Derived.Lib.SliceRun
namespace Go.Proofs.YtjffohpdjicfpaaGreat
open Go Go.RowKit
structure CopyS (s s' : Sp) (B : Nat) (w' : World) : Prop where
  f : s'.f = s.f
  L : s'.L.map Lv.pl = s.L.map Lv.pl
  in_ : SpIn w' w'.heap.size s'
  ok : SpOk s'
  lo : SpLo B s'
  row : w'.ownsRow B 129 10 (.slice s'.lA s'.L.length s'.lc) s'.L.length (s'.L.flatMap Lv.cells)
  soff : OfT (fun k => blkS s'.lA = some k) s'.sA s'.f.length
  loff : ∀ l ∈ s'.L, OfL (fun k => blkS s'.lA = some k) l
def CopiedS (s : Sp) (w : World) (x : Ending) (w' : World) : Prop := ∃ s' : Sp, x = .returned s'.val ∧ CopyS s s' w.heap.size w' ∧ Below w.heap.size w w'
theorem good_small {f : List Tm} {l : Lv} (g : LvGood f l) (hw : wtL l ≤ 274877906944) : chkUs l.b.l = 0 ∧ l.b.l.length ≤ 274877906944 ∧ MgSm l.m := by
  cases hb : l.busy
  · obtain ⟨⟨h1, h2, _, _, _, h6⟩, h7, _, _⟩ := g.idle hb
    have hwl : wtL l = l.b.l.length := by unfold wtL; rw [if_neg (by rw [hb]; decide)]
    exact ⟨h7.2.1.2.2, by omega, by rw [h1]; rfl, by rw [h2]; rfl, by rw [h6]; rfl, by rw [h1]; exact Nat.zero_le _, by rw [h2]; exact Nat.zero_le _, by rw [h6]; exact Nat.zero_le _⟩
  · obtain ⟨_, h2, h3, _⟩ := g.busy hb
    have hwtl : wtL l = max (l.m.a.length + l.m.b.length) (partsM l.m).length := by unfold wtL; rw [if_pos hb]
    have hpo : l.m.o.length ≤ (partsM l.m).length := by unfold partsM; rw [List.length_append, List.length_append]; omega
    exact ⟨by rw [h2]; rfl, by rw [h2]; exact Nat.zero_le _, h3.even.1.2.2, h3.even.2.1.2.2, h3.even.2.2.2.2, by omega, by omega, by omega⟩
theorem wt_leC {L : List Lv} {l : Lv} (h : l ∈ L) : wtL l ≤ wtS L := by
  unfold wtS
  induction L with
  | nil => cases h
  | cons x L ih =>
    rw [List.map_cons, List.sum_cons]
    rcases List.mem_cons.1 h with rfl | h
    · exact Nat.le_add_right _ _
    · have := ih h; omega
theorem turn_tail {A c c' R : List Value} (h : c.length = 10) (h' : c'.length = 10) (e : c'.take 2 = c.take 2) : (A ++ (c ++ R)).take (A.length + 2) ++ c'.drop 2 ++ (A ++ (c ++ R)).drop (A.length + 10) = A ++ (c' ++ R) := by
  rw [List.take_length_add_append, List.drop_length_add_append, List.take_append_of_le_length (by omega), ← e]
  have e3 : (c ++ R).drop 10 = R := by rw [← h, List.drop_left]
  rw [e3, List.append_assoc, List.append_assoc]
  congr 1
  rw [← List.append_assoc, List.take_append_drop]
theorem own_level {w : World} {G : Nat} {t : TypeId} {M R : List Lv} {l l' : Lv} (h : Own w G t ((M ++ l :: R).flatMap Lv.cells)) (hc : l'.cls = l.cls) (hb : l'.busy = l.busy) :
    Own (setsAt w G (M.length * 10 + 2) (l'.cells.drop 2)) G t ((M ++ l' :: R).flatMap Lv.cells) := by
  have h1 := setsAt_own (l'.cells.drop 2) w (M.length * 10 + 2) _ h (by
    show M.length * 10 + 2 + 8 ≤ _
    rw [lflat_len, List.length_append, List.length_cons]; omega)
  have e : ((M ++ l :: R).flatMap Lv.cells).take (M.length * 10 + 2) ++ l'.cells.drop 2 ++ ((M ++ l :: R).flatMap Lv.cells).drop (M.length * 10 + 2 + (l'.cells.drop 2).length) = (M ++ l' :: R).flatMap Lv.cells := by
    have hM := lflat_len M
    have e8 : (l'.cells.drop 2).length = 8 := rfl
    have e2 : l'.cells.take 2 = l.cells.take 2 := by
      show [Value.int .i64 l'.cls, Value.bool l'.busy] = [Value.int .i64 l.cls, Value.bool l.busy]
      rw [hc, hb]
    rw [List.flatMap_append, List.flatMap_append, List.flatMap_cons, List.flatMap_cons, e8, show M.length * 10 + 2 + 8 = M.length * 10 + 10 by omega, ← hM]
    exact turn_tail rfl rfl e2
  rw [e] at h1
  exact h1
theorem at_level {M R : List Lv} {l : Lv} {w : World} {G : Nat} {t : TypeId} (h : Own w G t ((M ++ l :: R).flatMap Lv.cells)) : ∀ (j : Nat) (u : Value), l.cells[j]? = some u → w.cell? ⟨G, M.length * 10 + j, none⟩ = some u := fun j u hj => by
  have hj10 : j < 10 := (List.getElem?_eq_some_iff.1 hj).1
  rw [h.at_, List.flatMap_append, List.flatMap_cons]
  have hM := lflat_len M
  rw [List.getElem?_append_right (by omega), show M.length * 10 + j - (M.flatMap Lv.cells).length = j by omega, List.getElem?_append_left hj10]
  exact hj
structure CpSt (V wr : World) (G k : Nat) (L M : List Lv) : Prop where
  len : M.length = k
  pl : M.map Lv.pl = (L.take k).map Lv.pl
  own : Own wr G 129 ((M ++ L.drop k).flatMap Lv.cells)
  each_ : ∀ l ∈ M, LvIn wr wr.heap.size l ∧ LvOk l ∧ LvLo (G + 1) l
  kept : KeptK V wr (fun b => b = G)
theorem cp_next {V wr X : World} {G k : Nat} {L M : List Lv} {l l' : Lv} {w7 : World} (h : CpSt V wr G k L M) (hl : L[k]? = some l) (hb : Below wr.heap.size wr w7) (hX : X = setsAt w7 G (k * 10 + 2) (l'.cells.drop 2)) (hc : l'.cls = l.cls) (hbu : l'.busy = l.busy) (hpl : l'.pl = l.pl) (hin : LvIn w7 w7.heap.size l') (hok : LvOk l') (hlo : LvLo (G + 1) l') :
    CpSt V X G (k + 1) L (M ++ [l']) := by
  have hd : L.drop k = l :: L.drop (k + 1) := by
    have := List.getElem?_eq_some_iff.1 hl
    rw [List.drop_eq_getElem_cons this.1, this.2]
  have ho := h.own.past hb h.own.inside
  rw [hd] at ho
  have ho2 := own_level (l' := l') ho hc hbu
  rw [h.len, ← hX] at ho2
  have kX : KeptK w7 X (fun b => b = G) := by rw [hX]; exact setsAt_kept (S := fun b => b = G) (.inl rfl) _ _ _ (KeptK.refl _ _)
  have off : ∀ {x : Lv}, LvLo (G + 1) x → OfL (fun b => b = G) x := fun hx => hx.of fun k e => by omega
  refine ⟨by rw [List.length_append, h.len]; rfl, ?_, by rw [List.append_assoc]; exact ho2, fun x hx => ?_, (h.kept.trans (KeptK.of_below hb (Nat.le_refl _) (fun b => b = G)) (fun _ _ e => e)).trans kX (fun _ _ e => e)⟩
  · rw [List.map_append, h.pl, List.take_add_one, hl, List.map_append]
    show _ ++ [l'.pl] = _ ++ [l.pl]
    rw [hpl]
  · rcases List.mem_append.1 hx with hx | hx
    · obtain ⟨a, b, c⟩ := h.each_ x hx
      exact ⟨lv_kept (a.keep hb) (off c) kX, b, c⟩
    · obtain rfl : x = l' := by simpa using hx
      exact ⟨lv_kept hin (off hlo) kX, hok, hlo⟩
theorem cp_end {s : Sp} {w V wr : World} {G : Nat} {A : Option Addr} {M : List Lv} (h : CpSt V wr G s.L.length s.L M) (hs : SpOk s) (hA : Times V V.heap.size A s.f) (hAl : LoT w.heap.size A) (hAo : OfT (fun b => b = G) A s.f.length) (hG : w.heap.size ≤ G) (_ : Below w.heap.size w V) :
    CopyS s ⟨A, s.f.length, s.f, some ⟨G, 0, none⟩, s.L.length, M⟩ w.heap.size wr := by
  have hlen : M.length = s.L.length := h.len
  have hpl := h.pl
  rw [List.take_length] at hpl
  have ho := h.own
  rw [List.drop_length, List.append_nil] at ho
  have hlies : Lies 10 Lv.cells wr wr.heap.size (some ⟨G, 0, none⟩) M := lies_owned (fun _ => rfl) ho
  have hfl := lflat_len M
  refine ⟨rfl, hpl, ⟨times_kept hA hAo h.kept, ⟨hlies, fun l hl => (h.each_ l hl).1⟩⟩, ⟨⟨hs.f.n, Nat.le_refl _, Nat.le_trans hs.f.le hs.f.c_⟩, by show M.length ≤ _; have := hs.n; omega, by show M.length ≤ s.L.length; omega, Nat.le_trans hs.le hs.c_, fun l hl => (h.each_ l hl).2.1⟩, ⟨hAl, fun b o e => ?_, fun l hl => (h.each_ l hl).2.2.mono (by omega)⟩, ?_, ?_, fun l hl => ?_⟩
  · simp only [Option.some.injEq, Addr.mk.injEq, and_true] at e
    omega
  · show World.ownsRow wr w.heap.size _ 10 (.slice (some ⟨G, 0, none⟩) M.length s.L.length) M.length (M.flatMap Lv.cells)
    have := own_to_row (base := w.heap.size) (n := s.L.length) (c := s.L.length) (size := 10) ho hG (Nat.le_refl _) (Nat.le_trans hs.le hs.c_) (by rw [hfl, hlen])
    rw [List.take_of_length_le (by rw [hfl, hlen]; exact Nat.le_refl _)] at this
    rw [hlen]; exact this
  · refine hAo.less fun k hk => ?_
    have hk : some G = some k := hk
    injection hk with hk
    exact hk.symm
  · refine (((h.each_ l hl).2.2.of (S := fun b => b = G) (fun k e => by omega))).less fun k hk => ?_
    have hk : some G = some k := hk
    injection hk with hk
    exact hk.symm
theorem CopyS.low {s s' : Sp} {B B' : Nat} {w : World} (h : CopyS s s' B w) (hB : B' ≤ B) : CopyS s s' B' w :=
  ⟨h.f, h.L, h.in_, h.ok, ⟨h.lo.f.mono hB, h.lo.l.mono hB, fun l hl => (h.lo.each_ l hl).mono hB⟩, ⟨h.row.1, by
    rcases h.row.2 with h0 | ⟨g, cap, cur, e, hb, rest⟩
    · exact .inl h0
    · exact .inr ⟨g, cap, cur, e, Nat.le_trans hB hb, rest⟩⟩, h.soff, h.loff⟩
theorem CopyS.kept {s s' : Sp} {B P : Nat} {w X : World} (h : CopyS s s' B w) (k : KeptK w X (fun b => b = P)) (hP : P < B) : CopyS s s' B X := by
  have hl : ∀ x ∈ s'.L, LvIn X X.heap.size x := fun x hx => lv_kept (h.in_.lev.each_ x hx) ((h.lo.each_ x hx).of (fun b e => by omega)) k
  refine ⟨h.f, h.L, ⟨times_kept h.in_.since (h.lo.f.of (fun b e => by omega)) k, ⟨lies_kept h.in_.lev.head (fun _ b o e hs => by have := h.lo.l b o e; omega) k, hl⟩⟩, h.ok, h.lo, k.row h.row (fun b e hs => ?_), h.soff, h.loff⟩
  rcases row_ownK h.row with ⟨h0, _⟩ | ⟨g, cur, h0, hb, _⟩
  · rw [h0] at e; simp [Value.ownBlock] at e
  · rw [h0] at e
    have : g = b := by simpa [Value.ownBlock] using e
    omega
theorem sp_box2 (w : World) (s : Sp) : ∃ V, V = (w.alloc (.cells #[.slice s.sA s.f.length s.sc, .slice s.lA s.L.length s.lc] 36)).alloc (.cells #[.slice none 0 0, .slice none 0 0] 36) ∧ Below w.heap.size w V ∧ V.heap.size = w.heap.size + 2 ∧ Own V w.heap.size 36 s.cells ∧ Own V (w.heap.size + 1) 36 [.slice none 0 0, .slice none 0 0] := by
  refine ⟨_, rfl, ((Below.refl _ _).alloc (Nat.le_refl _) _).alloc (by simp) _, by simp, (Own.made w 36 s.cells).more _, ?_⟩
  exact own_next (w := w.alloc (.cells #[.slice s.sA s.f.length s.sc, .slice s.lA s.L.length s.lc] 36)) (l := [.slice none 0 0, .slice none 0 0]) (by simp)
structure CpMid (s : Sp) (V wx : World) (P : Nat) (A1 A2 : Option Addr) : Prop where
  own : Own wx P 36 [.slice A1 s.f.length s.f.length, .slice A2 s.L.length s.L.length]
  since : Times wx wx.heap.size A1 s.f
  lo1 : LoT V.heap.size A1
  lev : 0 < s.L.length → ∃ G, A2 = some ⟨G, 0, none⟩ ∧ Own wx G 129 (s.L.flatMap Lv.cells) ∧ V.heap.size ≤ G ∧ G ≠ P ∧ OfT (fun b => b = G) A1 s.f.length
  nil : s.L = [] → A2 = none
  below : Below V.heap.size V wx
  hp : V.heap.size ≤ P
theorem cp_mid {s : Sp} {V w1 W2 w2 X : World} {P : Nat} {A1 A2 : Option Addr} (hb1 : Bl V w1) (v1 : Times w1 w1.heap.size A1 s.f) (n1 : ∀ b o, A1 = some (⟨b, o, none⟩ : Addr) → V.heap.size ≤ b ∧ b < w1.heap.size ∧ b ≠ P) (hW : Below w1.heap.size w1 W2) (b2 : Below W2.heap.size W2 w2)
    (nil2 : s.L = [] → A2 = none) (own2_ : 0 < s.L.length → A2 = some ⟨W2.heap.size, 0, none⟩ ∧ Own w2 W2.heap.size 129 (s.L.flatMap Lv.cells)) (hX : KeptK w2 X (fun b => b = P)) (hPn : 0 < s.L.length → P ≠ W2.heap.size) (hPl : V.heap.size ≤ P) (ho : Own X P 36 [.slice A1 s.f.length s.f.length, .slice A2 s.L.length s.L.length]) :
    CpMid s V X P A1 A2 := by
  have b12 := belows hW b2
  have v2 := tms_keep v1 b12
  refine ⟨ho, times_kept v2 (fun _ b o e => (n1 b o e).2.2) hX, fun b o e => (n1 b o e).1, fun hp => ?_, nil2, ?_, hPl⟩
  · obtain ⟨h1, h2⟩ := own2_ hp
    refine ⟨_, h1, hX.own h2 (fun e => hPn hp e.symm), Nat.le_trans hb1.below.size hW.size, fun e => hPn hp e.symm, fun _ b o e => ?_⟩
    have := (n1 b o e).2.1
    have := hW.size
    intro e2
    omega
  · have hbb : Below V.heap.size V w2 := belows hb1.below b12
    exact ⟨hX.os.trans hbb.os, hX.tape.trans hbb.tape, hX.output.trans hbb.output, Nat.le_trans hbb.size hX.size, fun k hk => (hX.block k (Nat.lt_of_lt_of_le hk hbb.size) (fun e => by omega)).trans (hbb.block k hk)⟩
theorem cp_out {s : Sp} {V wc : World} {P : Nat} {A1 A2 : Option Addr} (ok : SpOk s) (hL : s.L = []) (hm : CpMid s V wc P A1 A2) (Q : Nat) (hQ : Q < V.heap.size) : CopyS s ⟨A1, s.f.length, s.f, none, 0, []⟩ V.heap.size ((wc.setCell ⟨Q, 0, none⟩ (.slice A1 s.f.length s.f.length)).setCell ⟨Q, 1, none⟩ (.slice none 0 0)) := by
  have h0 : CopyS s ⟨A1, s.f.length, s.f, none, 0, []⟩ V.heap.size wc := ⟨rfl, by rw [hL], ⟨hm.since, ⟨Lies.nil_, fun l hl => (by cases hl)⟩⟩, ⟨⟨ok.f.n, Nat.le_refl _, Nat.le_trans ok.f.le ok.f.c_⟩, by show 0 ≤ _; omega, Nat.le_refl _, Nat.zero_le _, fun l hl => (by cases hl)⟩, ⟨hm.lo1, lot_nil _, fun l hl => (by cases hl)⟩, World.ownsRow_nil _ _ _ _, fun _ b o e hs => (by cases hs), fun l hl => (by cases hl)⟩
  exact h0.kept (KeptK.set_ (S := fun b => b = Q) (KeptK.set_ (S := fun b => b = Q) (KeptK.refl _ _) (.inl rfl) _) (.inl rfl) _) hQ
set_option maxRecDepth 100000 in
set_option maxHeartbeats 12800000 in
theorem copyS_any (s : Sp) (w : World) (hs : SpIn w w.heap.size s) (ok : SpOk s) (hg : SpGood s.f s.L) (hwt : wtS s.L ≤ 274877906944) :
    Calls Tryz.prog 28 #[s.val] w (CopiedS s w) := by
  obtain ⟨V, hV, hvb, hvs, hvo, hvz⟩ := sp_box2 w s
  have hin := hs.keep hvb
  have hfn := ok.f.n
  have hLn := ok.n
  have y1 := fun W (h : Bl V W) => Lib.hid (listT_times s.sA s.sc s.f W (hin.keep h).since (by omega))
  have y2 := fun W (h : Bl V W) => Lib.hid (listS_any s.lA s.lc s.L W (hin.keep h).lev.head (by omega))
  have H := Lib.hid (And.intro hs (And.intro ok (And.intro hg (And.intro hwt (And.intro hvb (And.intro hvo hvz))))))
  have hself := Bl.refl V
  have hbs : V.heap.size ≤ V.heap.size := Nat.le_refl _
  have HS := Lib.hid (fun W (h : Bm V.heap.size V W) => own2 (hvo.past h hvo.inside))
  obtain ⟨d0, d1⟩ := own2 hvo
  rw [show s.val = .agg #[.slice s.sA s.f.length s.sc, .slice s.lA s.L.length s.lc] from rfl]
  have HP := Lib.hid (show ∀ x w' (s' : Sp), x = .returned s'.val → CopyS s s' w.heap.size w' → Below w.heap.size w w' → CopiedS s w x w' from fun x w' s' h1 h2 h3 => ⟨s', h1, h2, h3⟩)
  clear hs ok hg hwt hvb hvs hvo hvz hin hfn
  go_enter Tryz.func28, Tryz.ntmps28
  go_upto_region 1 with fail
  rw [← hV]
  clear hV
  go_cut [3] (fun s3 wx => ∃ (P : Nat) (A1 A2 : Option Addr), s3 = .pointer (some ⟨P, 0, none⟩) ∧ CpMid s V wx P A1 A2)
  case first =>
    go_region_held3 (fun w' => Bm V.heap.size V w' ∧ (w'.cell? ⟨w.heap.size, 0, none⟩ = some (.slice s.sA s.f.length s.sc) ∧ w'.cell? ⟨w.heap.size, 1, none⟩ = some (.slice s.lA s.L.length s.lc)))
      ((refine (fun h => And.intro h (HS.out _ h)) ?_; repeat (first | with_reducible exact Bm.of hb2 hbs | with_reducible exact Bm.of hb1 hbs | with_reducible exact Bm.of hself hbs | with_reducible refine Bm.set ?_ (by first | exact Nat.le_refl _ | exact hb1.below.size | (have z6 := hb1.below.size; simp; omega) | (have z6 := hb2.below.size; simp; omega)) _ _ | with_reducible refine Bm.more ?_ hbs _ | with_reducible refine Bm.drew ?_)))
      (first | (go_at_call 62; refine (y2 _ ?_).out.mono ?_; (repeat (first | with_reducible exact hb1 | with_reducible refine Bl.more ?_ _ | with_reducible refine Bl.drew ?_)); rintro _ w2 ⟨A2, rfl, nil2, own2_, b2⟩; have hb2 : Bl V w2 := Bl.call (by repeat (first | with_reducible exact hb1 | with_reducible refine Bl.more ?_ _ | with_reducible refine Bl.drew ?_)) b2; (try (have oz : Own w2 V.heap.size 36 [.slice none 0 0, .slice none 0 0] := oz1.past b2 (by have := oz1.inside; simpa using this); obtain ⟨e0, e1⟩ := own2 oz; have f0 := oz.open_ 0; have f1 := oz.open_ 1)); (try (have oz : Own w2 w1.heap.size 36 [.slice none 0 0, .slice none 0 0] := (Own.past (by first | exact Own.made _ _ [.slice none 0 0, .slice none 0 0] | exact own_drewKS (Own.made _ _ [.slice none 0 0, .slice none 0 0])) b2 (by simp)); obtain ⟨e0, e1⟩ := own2 oz; have f0 := oz.open_ 0; have f1 := oz.open_ 1))) | (go_at_call 39; refine (y1 _ ?_).out.mono ?_; (repeat (first | with_reducible exact hself | with_reducible refine Bl.more ?_ _ | with_reducible refine Bl.drew ?_)); rintro _ w1 ⟨A1, rfl, v1, n1, b1⟩; have hb1 : Bl V w1 := Bl.call (by repeat (first | with_reducible exact hself | with_reducible refine Bl.more ?_ _ | with_reducible refine Bl.drew ?_)) b1; (try (have oz1 : Own w1 V.heap.size 36 [.slice none 0 0, .slice none 0 0] := (Own.past (by first | exact Own.made _ _ [.slice none 0 0, .slice none 0 0] | exact own_drewKS (Own.made _ _ [.slice none 0 0, .slice none 0 0])) b1 (by simp))))))
    all_goals
      go_wp2_with fail
      go_meet
    · refine ⟨_, A1, A2, rfl, cp_mid hb1 v1 (fun b o e => ⟨(n1 b o e).1, (n1 b o e).2, ?_⟩) (Below.refl _ _) b2 (fun h => (nil2 h).1) own2_ ((KeptK.refl _ _).alloc _) (fun hp => ?_) hb2.below.size (Own.made w2 _ [.slice A1 s.f.length s.f.length, .slice A2 s.L.length s.L.length])⟩
      · have := (n1 b o e).2; have := b2.size; omega
      · have := (own2_ hp).2.inside; omega
    · refine ⟨_, A1, A2, rfl, cp_mid hb1 v1 (fun b o e => ⟨(n1 b o e).1, (n1 b o e).2, ?_⟩) ((Below.refl _ _).alloc (Nat.le_refl _) _) b2 (fun h => (nil2 h).1) own2_ (KeptK.set_ (S := fun b => b = w1.heap.size) (KeptK.set_ (S := fun b => b = w1.heap.size) (KeptK.refl _ _) (.inl rfl) _) (.inl rfl) _) (fun hp => (by simp)) hb1.below.size ((oz.set_ 0 _).set_ 1 _)⟩
      have := (n1 b o e).2; omega
    · refine ⟨_, A1, A2, rfl, cp_mid hb1 v1 (fun b o e => ⟨?_, (n1 b o e).2, ?_⟩) (Below.refl _ _) b2 (fun h => (nil2 h).1) own2_ (KeptK.set_ (S := fun b => b = V.heap.size) (KeptK.set_ (S := fun b => b = V.heap.size) (KeptK.refl _ _) (.inl rfl) _) (.inl rfl) _) (fun hp => ?_) (Nat.le_refl _) ((oz.set_ 0 _).set_ 1 _)⟩
      · have := (n1 b o e).1; simp at this; omega
      · have := (n1 b o e).1; simp at this; omega
      · have := oz1.inside; omega
  case rest =>
    obtain ⟨P, A1, A2, rfl, hm⟩ := hcut
    have hbv := hm.below
    have hP := hm.hp
    have HM := Lib.hid hm
    have hvz := H.out.2.2.2.2.2.2
    have hzi := hvz.inside
    obtain ⟨p0, p1⟩ := own2 hm.own
    by_cases hL : s.L = []
    · have hA2 := hm.nil hL
      have hL0 : s.L.length = 0 := by rw [hL]; rfl
      rw [hA2, hL0] at p1
      have oz := hvz.past hbv hzi
      obtain ⟨z0, z1⟩ := own2 oz
      have f0 := oz.open_ 0
      have f1 := oz.open_ 1
      have hX := (oz.set_ 0 (.slice A1 s.f.length s.f.length)).set_ 1 (.slice none 0 0)
      obtain ⟨x0, x1⟩ := own2 hX
      have HX := Lib.hid (cp_out H.out.2.1 hL hm (w.heap.size + 1) hzi)
      have HB := Lib.hid (show Below w.heap.size w ((wc.setCell ⟨w.heap.size + 1, 0, none⟩ (.slice A1 s.f.length s.f.length)).setCell ⟨w.heap.size + 1, 1, none⟩ (.slice none 0 0)) from ((H.out.2.2.2.2.1.trans (hbv.mono H.out.2.2.2.2.1.size)).setCell (p := ⟨w.heap.size + 1, 0, none⟩) (Nat.le_succ _) _).setCell (p := ⟨w.heap.size + 1, 1, none⟩) (Nat.le_succ _) _)
      have hsz := H.out.2.2.2.2.1.size
      clear hm hbv hP hvz hzi hL hA2 hL0 oz hX y1 y2
      go_wp2_with fail
      go_loopw [16] (fun v16 wr => v16 = .int .i64 0 ∧ wc = wr) (fun _ _ => 0)
      case atStart => exact ⟨rfl, rfl⟩
      case round =>
      obtain ⟨rfl, rfl⟩ := hrel
      go_wp2_with fail
      exact bodyPost_ret (v := .agg #[.slice A1 s.f.length s.f.length, .slice none 0 0]) (by simp [results, Tryz.results28, go_sem, x0, x1]) rfl (HP.out _ _ ⟨A1, s.f.length, s.f, none, 0, []⟩ rfl (HX.out.low hsz) HB.out)
    have hn : 0 < s.L.length := List.length_pos_iff.2 hL
    obtain ⟨G, rfl, oG, hG, hGP, hAG⟩ := hm.lev hn
    have HG := Lib.hid (And.intro hG (And.intro hGP hAG))
    have HC0 := Lib.hid (show CpSt wc wc G 0 s.L [] from ⟨rfl, rfl, oG, fun l hl => (by cases hl), KeptK.refl _ _⟩)
    clear hm hbv hP hvz hzi oG hG hGP hAG hL y1 y2 hself
    go_wp2_with fail
    go_loopw [16] (fun v16 wr => ∃ (k : Nat) (M : List Lv), v16 = .int .i64 (k : Int) ∧ k ≤ s.L.length ∧ CpSt wc wr G k s.L M)
      (fun v16 _ => s.L.length - (intOf v16).toNat)
    case atStart => exact ⟨0, [], rfl, by omega, HC0.out⟩
    case round =>
      obtain ⟨k, M, rfl, hk, hst⟩ := hrel
      have hbw : Below V.heap.size V wr := HM.out.below.trans (hst.kept.below (fun b e => by rw [e]; exact HG.out.1) HM.out.below.size)
      have oP := hst.kept.own HM.out.own (fun e => HG.out.2.1 e.symm)
      obtain ⟨p0, p1⟩ := own2 oP
      have HST := Lib.hid (And.intro hst (And.intro hbw oP))
      by_cases hlt : k < s.L.length
      · obtain ⟨l, hl⟩ : ∃ l, s.L[k]? = some l := ⟨_, List.getElem?_eq_getElem hlt⟩
        have hlm := List.mem_of_getElem? hl
        have hd : s.L.drop k = l :: s.L.drop (k + 1) := by
          have := List.getElem?_eq_some_iff.1 hl
          rw [List.drop_eq_getElem_cons this.1, this.2]
        have hown := hst.own
        rw [hd] at hown
        have hcell := at_level hown
        rw [hst.len] at hcell
        obtain ⟨c0, c1, c2, c3, c4, c5, c6, c7, c8, c9⟩ := lv_ten hcell
        obtain ⟨V5, hV5, hb5, hs5, ho5⟩ := lvbox wr l
        have hli := (((H.out.1.lev.each_ l hlm).past H.out.2.2.2.2.1 (Nat.le_refl _)).wide H.out.2.2.2.2.1.size).keep (belows hbw hb5)
        have hlo := H.out.2.1.each_ l hlm
        obtain ⟨g1, g2, g3⟩ := good_small (H.out.2.2.1.each l hlm) (Nat.le_trans (wt_leC hlm) H.out.2.2.2.1)
        have z1 := fun W (h : Bl V5 W) => Lib.hid (copyB_any l.b W (hli.b.keep h) hlo.b g1 g2)
        have z2 := fun W (h : Bl V5 W) => Lib.hid (copyM_any l.m W (hli.m.keep h) hlo.m g3)
        have oG5 := hown.past hb5 hown.inside
        have oP5 := oP.past hb5 oP.inside
        have HS5 := Lib.hid (show ∀ W, KeptK V5 W (fun b => b = G) → W.cell? ⟨P, 1, none⟩ = some (.slice (some ⟨G, 0, none⟩) s.L.length s.L.length) ∧ W.cell? ⟨wr.heap.size, 2, none⟩ = some (.slice l.b.sA l.b.f.length l.b.sc) ∧ W.cell? ⟨wr.heap.size, 3, none⟩ = some (.slice l.b.uA l.b.l.length l.b.uc) ∧ W.cell? ⟨wr.heap.size, 4, none⟩ = some (.slice l.m.aA l.m.a.length l.m.ac) ∧ W.cell? ⟨wr.heap.size, 5, none⟩ = some (.slice l.m.bA l.m.b.length l.m.bc) ∧ W.cell? ⟨wr.heap.size, 6, none⟩ = some (.int .i64 l.m.i) ∧ W.cell? ⟨wr.heap.size, 7, none⟩ = some (.int .i64 l.m.j) ∧ W.cell? ⟨wr.heap.size, 8, none⟩ = some (.slice l.m.sA l.m.f.length l.m.sc) ∧ W.cell? ⟨wr.heap.size, 9, none⟩ = some (.slice l.m.oA l.m.o.length l.m.oc) from fun W h => by
          have o1 := h.own oP5 (fun e => HG.out.2.1 e.symm)
          have o2 := h.own ho5 (fun e => by have := hown.inside; omega)
          exact ⟨o1.at_ 1, o2.at_ 2, o2.at_ 3, o2.at_ 4, o2.at_ 5, o2.at_ 6, o2.at_ 7, o2.at_ 8, o2.at_ 9⟩)
        have hkself : KeptK V5 V5 (fun b => b = G) := KeptK.refl _ _
        have hself := Bl.refl V5
        have HL := Lib.hid (And.intro hl (And.intro oG5 (And.intro hb5 (And.intro hlo (And.intro hown.inside hst.len)))))
        obtain ⟨r0, r1, r2, r3, r4, r5, r6, r7, r8, r9⟩ := own10 ho5
        have q0 : (0 : Int) ≤ (k : Int) := by omega
        have q1 : (k : Int) < (s.L.length : Int) := by omega
        unfold Bt.val at z1
        unfold Mg.val at z2
        clear hst hbw oP hlm hd hown hcell hli hlo g1 g2 g3 oG5 oP5 hb5 hs5 ho5 hl
        go_upto_region 5 with fail
        rw [← hV5]
        clear hV5
        go_region_held3 (fun w' => KeptK V5 w' (fun b => b = G) ∧ (w'.cell? ⟨P, 1, none⟩ = some (.slice (some ⟨G, 0, none⟩) s.L.length s.L.length) ∧ w'.cell? ⟨wr.heap.size, 2, none⟩ = some (.slice l.b.sA l.b.f.length l.b.sc) ∧ w'.cell? ⟨wr.heap.size, 3, none⟩ = some (.slice l.b.uA l.b.l.length l.b.uc) ∧ w'.cell? ⟨wr.heap.size, 4, none⟩ = some (.slice l.m.aA l.m.a.length l.m.ac) ∧ w'.cell? ⟨wr.heap.size, 5, none⟩ = some (.slice l.m.bA l.m.b.length l.m.bc) ∧ w'.cell? ⟨wr.heap.size, 6, none⟩ = some (.int .i64 l.m.i) ∧ w'.cell? ⟨wr.heap.size, 7, none⟩ = some (.int .i64 l.m.j) ∧ w'.cell? ⟨wr.heap.size, 8, none⟩ = some (.slice l.m.sA l.m.f.length l.m.sc) ∧ w'.cell? ⟨wr.heap.size, 9, none⟩ = some (.slice l.m.oA l.m.o.length l.m.oc)))
          ((refine (fun h => And.intro h (HS5.out _ h)) ?_; repeat (first | with_reducible exact hk7 | with_reducible exact hk6 | with_reducible exact hkself | with_reducible refine KeptK.set_ (S := fun b => b = G) ?_ (.inl rfl) _ | with_reducible refine KeptK.drew ?_)))
          (first | (go_at_call 64; refine (z2 _ hb6).out.mono ?_; rintro _ w7 ⟨m', rfl, sm, im, om, lm, b7, am⟩; unfold Mg.val; have hb7 : Bl V5 w7 := Bl.call hb6 b7; have hk7 : KeptK V5 w7 (fun b => b = G) := KeptK.of_below hb7.below (Nat.le_refl _) _; have oG7 := HL.out.2.1.past hb7.below HL.out.2.1.inside; have gg := fun j => oG7.open_ j; have hc7 := at_level oG7; rw [HL.out.2.2.2.2.2] at hc7; obtain ⟨c0, c1, c2, c3, c4, c5, c6, c7, c8, c9⟩ := lv_ten hc7; have g2 := gg (k * 10 + 2); have g3 := gg (k * 10 + 3); have g4 := gg (k * 10 + 4); have g5 := gg (k * 10 + 5); have g6 := gg (k * 10 + 6); have g7 := gg (k * 10 + 7); have g8 := gg (k * 10 + 8); have g9 := gg (k * 10 + 9); clear gg hc7 oG7) | (go_at_call 63; refine (z1 _ hself.drew).out.mono ?_; rintro _ w6 ⟨b', rfl, sb, ib, ob, lb, b6⟩; unfold Bt.val; have hb6 : Bl V5 w6 := Bl.call hself.drew b6; have hk6 : KeptK V5 w6 (fun b => b = G) := KeptK.of_below hb6.below (Nat.le_refl _) _))
        have ib7 := ib.keep b7
        have HN := Lib.hid (cp_next (l' := ⟨l.cls, l.busy, b', m'⟩) (w7 := w7) HST.out.1 HL.out.1 (belows HL.out.2.2.1 hb7.below) rfl rfl rfl (LvEq.to ⟨rfl, rfl, sb.f, sb.l, sm.a, sm.b, sm.i, sm.j, sm.f, sm.o⟩) ⟨ib7, im⟩ ⟨HL.out.2.2.2.1.c, ob, om, mc_of om ⟨am.ac, am.bc⟩⟩ ⟨lb.mono (by have h1 := HL.out.2.2.2.2.1; have h2 := HL.out.2.2.1.size; show G + 1 ≤ V5.heap.size; omega), lm.mono (by have h1 := HL.out.2.2.2.2.1; have h2 := HL.out.2.2.1.size; have h3 := hb6.below.size; show G + 1 ≤ w6.heap.size; omega)⟩)
        clear z1 z2 sm im om lm am b7 sb ib ob lb b6 ib7 hk6 hk7 hb6 hb7
        go_wp2_with fail
        go_roundw
        case rel => exact ⟨k + 1, _, by go_num, by omega, HN.out⟩
        case measure => simp [intOf]; omega
      · have hkn : k = s.L.length := by omega
        subst hkn
        have hbwc := HM.out.below
        have hsz := H.out.2.2.2.2.1.size
        have hvz := H.out.2.2.2.2.2.2
        have hzi := hvz.inside
        have hE := (cp_end hst H.out.2.1 HM.out.since HM.out.lo1 HG.out.2.2 HG.out.1 HM.out.below)
        have hlen : M.length = s.L.length := hst.len
        have oz := hvz.past HST.out.2.1 hzi
        obtain ⟨z0, z1⟩ := own2 oz
        have f0 := oz.open_ 0
        have f1 := oz.open_ 1
        have hX := (oz.set_ 0 (.slice A1 s.f.length s.f.length)).set_ 1 (.slice (some ⟨G, 0, none⟩) s.L.length s.L.length)
        obtain ⟨x0, x1⟩ := own2 hX
        have HX := Lib.hid ((hE.kept (KeptK.set_ (S := fun b => b = w.heap.size + 1) (KeptK.set_ (S := fun b => b = w.heap.size + 1) (KeptK.refl wr _) (.inl rfl) (.slice A1 s.f.length s.f.length) (o := 0)) (.inl rfl) (.slice (some ⟨G, 0, none⟩) s.L.length s.L.length) (o := 1)) hzi).low hsz)
        have HB := Lib.hid (((H.out.2.2.2.2.1.trans (HST.out.2.1.mono hsz)).setCell (p := ⟨w.heap.size + 1, 0, none⟩) (Nat.le_succ _) (.slice A1 s.f.length s.f.length)).setCell (p := ⟨w.heap.size + 1, 1, none⟩) (Nat.le_succ _) (.slice (some ⟨G, 0, none⟩) s.L.length s.L.length))
        have HLN := Lib.hid hlen
        have hn1 : ¬ ((s.L.length : Int) < (s.L.length : Int)) := by omega
        clear hst hbw oP hbwc hsz hvz hzi hE hlen oz hX
        go_wp2_with fail
        exact bodyPost_ret (v := .agg #[.slice A1 s.f.length s.f.length, .slice (some ⟨G, 0, none⟩) s.L.length s.L.length]) (by simp [results, Tryz.results28, go_sem, x0, x1]) rfl (HP.out _ _ ⟨A1, s.f.length, s.f, some ⟨G, 0, none⟩, s.L.length, M⟩ (by show _ = Ending.returned (.agg #[.slice A1 s.f.length s.f.length, .slice (some ⟨G, 0, none⟩) M.length s.L.length]); rw [HLN.out]) HX.out HB.out)
def HasI (s s' : Sp) (X : List Up) : Prop := (busyN s.L ≤ 1 → consL [advL s.f X] ≠ [] → HasB s'.L (consL [advL s.f X]).length) ∧ (AllFr s.f s.L → AllFr s.f s'.L)
theorem fr_pl {f : List Tm} {L1 L : List Lv} (pl : L1.map Lv.pl = L.map Lv.pl) (h : AllFr f L) : AllFr f L1 := fun l hl hb => by
  obtain ⟨k, hk, e⟩ := pl_mem pl.symm hl
  have h1 := h k hk (by rw [e.busy]; exact hb)
  exact ⟨by rw [← e.i]; exact h1.1, by rw [← e.j]; exact h1.2.1, by have h2 := e.o; rw [h1.2.2.1] at h2; exact List.map_eq_nil_iff.1 h2.symm, by rw [← e.f]; exact h1.2.2.2⟩
def WhyI (s : Sp) (X : List Up) : Prop := bldE s.f X ≠ 0 ∨ busyN s.L ≠ 0 ∧ (busyN s.L ≤ 1 → ∃ l : Lv, l.pl ∈ s.L.map Lv.pl ∧ l.busy = true ∧ consE [advL l.m.f (partsM l.m)] = 10)
theorem why_pl {s : Sp} {X : List Up} {L1 : List Lv} (pl : L1.map Lv.pl = s.L.map Lv.pl) (h : FailS L1) : WhyI s X := by
  refine .inr ⟨by rw [← (pl_parts pl).2.2.2]; exact h.1, fun hb => ?_⟩
  obtain ⟨l, hl, h1, h2⟩ := h.2 (by rw [(pl_parts pl).2.2.2]; exact hb)
  exact ⟨l, by rw [← pl]; exact List.mem_map_of_mem hl, h1, h2⟩
def InsertedS (s : Sp) (X : List Up) (w : World) (x : Ending) (w' : World) : Prop :=
  ∃ (s' : Sp) (E : Int), x = .returned (.tuple #[s'.val, .int .i64 E]) ∧ (¬ SpGood s.f s.L ∧ E = 8 ∧ s' = Sp.nil ∨ SpGood s.f s.L ∧ s'.f = s.f ∧ (E = 0 ∧ consE [advL s.f X] = 0 ∧ PutTo s.f s.L s'.L X 1 X.length ∧ HasI s s' X ∨ E ≠ 0 ∧ s'.L.map Lv.pl = s.L.map Lv.pl ∧ WhyI s X)) ∧ SpIn w' w'.heap.size s' ∧ SpOk s' ∧ SpLo w.heap.size s' ∧ Below w.heap.size w w'
theorem wk_of_copy {s s1 : Sp} {B base : Nat} {w : World} (h : CopyS s s1 B w) (hb : base ≤ B) (hB : B ≤ w.heap.size) (V : World) (hV : V = w.alloc (.cells #[.slice s1.sA s1.f.length s1.sc, .slice s1.lA s1.L.length s1.lc] 137)) :
    Wk V base w.heap.size s1 ∧ Below w.heap.size w V := by
  have hbv : Below w.heap.size w V := by rw [hV]; exact (Below.refl _ _).alloc (Nat.le_refl _) _
  have h1 := h.low hb
  have hi := h.in_.keep hbv
  have hS : ∀ k, SpS w.heap.size s1.lA k → w.heap.size ≤ k ∨ blkS s1.lA = some k := fun k hk => by
    rcases hk with rfl | hk
    · exact .inl (Nat.le_refl _)
    · exact .inr hk
  have hrl : ∀ k, blkS s1.lA = some k → k < w.heap.size := fun k hk => (h1.row.lt k (by rw [blkS_own]; exact hk)).2
  refine ⟨⟨by rw [hV]; exact Own.made w _ _, own_below h1.row hbv, fun e => by have := hrl _ e; omega, hi.since, ?_, hi.lev.each_, fun l hl => ?_, h.ok, h1.lo.f, h1.lo.each_, by omega, by have := hbv.size; omega⟩, hbv⟩
  · exact ((times_in h.in_.since).or h.soff).less hS
  · exact ((lv_in (h.in_.lev.each_ l hl)).or (h.loff l hl)).less hS
theorem PutTo.swap {f : List Tm} {L1 L L' : List Lv} {Y X : List Up} {n : Nat} (h : PutTo f L1 L' Y 1 n) (pl : L1.map Lv.pl = L.map Lv.pl) (e : EqS f Y X) (hn : n ≤ X.length) : PutTo f L L' X 1 X.length := by
  obtain ⟨p1, p2, p3, _⟩ := pl_parts pl
  have hc := (chkUs_parts h.eq.r).1
  refine ⟨h.good, h.eq.trans ((EqS.of_p hc p1).app e), ?_, ?_⟩
  · rw [← p2]; exact h.cnt
  · rw [← p3]; have := h.wt; omega
theorem Wk.lo_ {W : World} {base g : Nat} {s : Sp} (h : Wk W base g s) : SpLo base s := by
  refine ⟨h.slo, fun b o e => ?_, h.lo⟩
  rcases row_ownK h.row with ⟨h0, _⟩ | ⟨G, cur, h0, hb, _⟩
  · rw [h0] at e; cases e
  · rw [h0] at e
    have := at_block rfl e
    omega
theorem Wk.spin {W : World} {base g : Nat} {s : Sp} (h : Wk W base g s) : SpIn W W.heap.size s := ⟨h.since, h.lies⟩
theorem sp_kept {w X : World} {P : Nat} {s : Sp} (h : SpIn w w.heap.size s) (hlo : SpLo (P + 1) s) (k : KeptK w X (fun b => b = P)) : SpIn X X.heap.size s :=
  ⟨times_kept h.since (hlo.f.of (fun b e => by omega)) k, ⟨lies_kept h.lev.head (fun _ b o e hs => by have := hlo.l b o e; omega) k, fun l hl => lv_kept (h.lev.each_ l hl) ((hlo.each_ l hl).of (fun b e => by omega)) k⟩⟩
theorem SpLo.mono {B B' : Nat} {s : Sp} (h : SpLo B s) (hB : B' ≤ B) : SpLo B' s := ⟨h.f.mono hB, h.l.mono hB, fun l hl => (h.each_ l hl).mono hB⟩
theorem kept_two {w : World} {P : Nat} (x y : Value) : KeptK w ((w.setCell ⟨P, 0, none⟩ x).setCell ⟨P, 1, none⟩ y) (fun b => b = P) := KeptK.set_ (S := fun b => b = P) (KeptK.set_ (S := fun b => b = P) (KeptK.refl w _) (.inl rfl) x) (.inl rfl) y
theorem below_two {w W : World} {P B : Nat} (h : Below B w W) (hP : B ≤ P) (x y : Value) : Below B w ((W.setCell ⟨P, 0, none⟩ x).setCell ⟨P, 1, none⟩ y) := (h.setCell (p := ⟨P, 0, none⟩) hP x).setCell (p := ⟨P, 1, none⟩) hP y
def gcell (b : Bt) : List Value := [.slice b.uA b.l.length b.uc]
theorem gcell_len (b : Bt) : (gcell b).length = 1 := rfl
structure KLs (w : World) (B : Nat) (A : Option Addr) (ks : List (Rw Vl)) : Prop where
  head : Lies 1 Rw.cells w B A ks
  each_ : ∀ k ∈ ks, Vals w B k.A k.l
theorem KLs.keep {w w' : World} {A : Option Addr} {ks : List (Rw Vl)} (h : KLs w w.heap.size A ks) (hb : Below w.heap.size w w') : KLs w' w'.heap.size A ks := ⟨(h.head.past hb (Nat.le_refl _)).wide hb.size, fun k hk => ((h.each_ k hk).past hb (Nat.le_refl _)).wide hb.size⟩
def GrpOk (f : List Tm) (L : List Lv) (ks : List (Rw Vl)) (bs : List Bt) : Prop := bs.length = ks.length ∧ ∀ (i : Nat) (k : Rw Vl) (b : Bt), ks[i]? = some k → bs[i]? = some b → bldE f (partsK k.l L) = 0 ∧ b.l.map Up.p = consL [advL f (partsK k.l L)]
theorem GrpOk.snoc {f : List Tm} {L : List Lv} {ks : List (Rw Vl)} {bs : List Bt} {k : Rw Vl} {b : Bt} (h : GrpOk f L ks bs) (h1 : bldE f (partsK k.l L) = 0) (h2 : b.l.map Up.p = consL [advL f (partsK k.l L)]) : GrpOk f L (ks ++ [k]) (bs ++ [b]) := by
  refine ⟨by rw [List.length_append, List.length_append, h.1]; rfl, fun i k' b' hk hb => ?_⟩
  rcases Nat.lt_trichotomy i ks.length with hi | hi | hi
  · rw [List.getElem?_append_left hi] at hk
    rw [List.getElem?_append_left (by rw [h.1]; exact hi)] at hb
    exact h.2 i k' b' hk hb
  · subst hi
    rw [List.getElem?_append_right (Nat.le_refl _), Nat.sub_self] at hk
    rw [List.getElem?_append_right (Nat.le_of_eq h.1), h.1, Nat.sub_self] at hb
    obtain rfl : k = k' := Option.some.inj hk
    obtain rfl : b = b' := Option.some.inj hb
    exact ⟨h1, h2⟩
  · rw [List.getElem?_eq_none (by rw [List.length_append]; exact hi)] at hk
    cases hk
def GroupsS (s : Sp) (ks : List (Rw Vl)) (w : World) (x : Ending) (w' : World) : Prop :=
  ∃ (bs : List Bt) (A' : Option Addr) (c' : Nat) (E : Int), x = .returned (.tuple #[.slice A' bs.length c', .int .i64 E]) ∧ ((¬ SpGood s.f s.L ∧ E = 8 ∧ bs = []) ∨ (SpGood s.f s.L ∧ ((E = 0 ∧ GrpOk s.f s.L ks bs) ∨ (E ≠ 0 ∧ bs = [] ∧ ∃ k ∈ ks, E = bldE s.f (partsK k.l s.L))))) ∧ Lies 1 gcell w' w'.heap.size A' bs ∧ (∀ b ∈ bs, BtIn w' w'.heap.size b ∧ BtOk b) ∧ Below w.heap.size w w'
structure GI (base : Nat) (bs : List Bt) (v : Value) (wr : World) : Prop where
  own : wr.ownsRow base 22 1 v bs.length (bs.flatMap gcell)
  in_ : ∀ b ∈ bs, BtIn wr wr.heap.size b ∧ BtOk b ∧ OfB (fun k => v.ownBlock = some k) b
theorem GI.keep {base : Nat} {bs : List Bt} {v : Value} {w w' : World} (h : GI base bs v w) (hb : Below w.heap.size w w') : GI base bs v w' := ⟨own_below h.own hb, fun b hm => ⟨(h.in_ b hm).1.keep hb, (h.in_ b hm).2.1, (h.in_ b hm).2.2⟩⟩
theorem GI.push {base : Nat} {bs : List Bt} {b : Bt} {v v' : Value} {w w' : World} (h : GI base bs v w) (hb : BtIn w w.heap.size b) (ob : BtOk b) (lb : OfB (fun k => v.ownBlock = some k) b) (ho : w'.ownsRow base 22 1 v' (bs.length + 1) (bs.flatMap gcell ++ #[Value.slice b.uA b.l.length b.uc].toList)) (hv : v'.ownBlock = v.ownBlock ∨ v'.ownBlock = some (w.heap.size + 1)) (hg : w.grownBy w' v.ownBlock) : GI base (bs ++ [b]) v' w' := by
  have hall : ∀ x ∈ bs ++ [b], BtIn w w.heap.size x ∧ BtOk x ∧ OfB (fun k => v.ownBlock = some k) x := fun x hx => by
    rcases List.mem_append.1 hx with hx | hx
    · exact h.in_ x hx
    · rw [List.mem_singleton.1 hx]; exact ⟨hb, ob, lb⟩
  refine ⟨by rw [List.length_append, List.flatMap_append]; exact ho, fun x hx => ?_⟩
  obtain ⟨h1, h2, h3⟩ := hall x hx
  refine ⟨bt_kept h1 h3 (KeptK.of_grown (S := fun k => v.ownBlock = some k) hg fun k e => e), h2, ?_⟩
  rcases hv with e | e
  · rw [e]; exact h3
  · rw [e]
    exact (bt_in h1).less fun k hk => by have : w.heap.size + 1 = k := Option.some.inj hk; omega
set_option maxRecDepth 100000 in
set_option maxHeartbeats 6400000 in
theorem groups_any (s : Sp) (A : Option Addr) (c : Nat) (ks : List (Rw Vl)) (w : World) (hs : SpIn w w.heap.size s) (os : SpOk s) (hr : ∀ l ∈ s.L, LvRm l) (hn : (partsS s.L).length ≤ 1099511627776) (hk : KLs w w.heap.size A ks) (hkl : ∀ k ∈ ks, k.l.length ≤ maxLen) (hkn : ks.length ≤ 1099511627776) :
    Calls Tryz.prog 65 #[s.val, .slice A ks.length c] w (GroupsS s ks w) := by
  obtain ⟨i0, hi, hz0, hz1, hz2⟩ := info_parts infoUl
  have HI := Lib.hid (And.intro Tryz.underlying53 (And.intro hi (And.intro hz0 (And.intro hz1 hz2))))
  obtain ⟨V, hV, hvb, hvs, hvo⟩ := spbox w s
  have hin := hs.keep hvb
  have y1 := Lib.hid (scheck_any s V hin os)
  have hkV := hk.keep hvb
  have H := Lib.hid (And.intro hin (And.intro os (And.intro hvb (And.intro hvo (And.intro hr (And.intro hn (And.intro hkV hkl)))))))
  obtain ⟨d0, d1⟩ := own2 hvo
  rw [show s.val = .agg #[.slice s.sA s.f.length s.sc, .slice s.lA s.L.length s.lc] from rfl] at y1 ⊢
  have hX := Lib.hid (fun W (hb : Below V.heap.size V W) => own2 (hvo.past hb hvo.inside))
  have HP := Lib.hid (show ∀ (bs : List Bt) (A' : Option Addr) (c' : Nat) (E : Int) w', ((¬ SpGood s.f s.L ∧ E = 8 ∧ bs = []) ∨ (SpGood s.f s.L ∧ ((E = 0 ∧ GrpOk s.f s.L ks bs) ∨ (E ≠ 0 ∧ bs = [] ∧ ∃ k ∈ ks, E = bldE s.f (partsK k.l s.L))))) → Lies 1 gcell w' w'.heap.size A' bs → (∀ b ∈ bs, BtIn w' w'.heap.size b ∧ BtOk b) → Below w.heap.size w w' → GroupsS s ks w (.returned (.tuple #[.slice A' bs.length c', .int .i64 E])) w' from fun bs A' c' E w' h1 h2 h3 h4 => ⟨bs, A', c', E, rfl, h1, h2, h3, h4⟩)
  clear hs os hr hn hk hkl hvb hvs hvo hin hkV hi hz0 hz1 hz2
  go_enter Tryz.func65, Tryz.ntmps65
  go_upto_region 1 with fail
  rw [← hV]
  clear hV
  go_wp2_with fail
  refine y1.out.mono ?_
  rintro _ w1 ⟨e, rfl, he, b1⟩
  have H1 := Lib.hid b1
  obtain ⟨d0, d1⟩ := hX.out w1 b1
  by_cases h0 : e = 0
  case neg =>
    have hg : ¬ SpGood s.f s.L ∧ e = 8 := by
      rcases he with ⟨_, h⟩ | h
      · exact absurd h h0
      · exact h
    have t1 : (e != 0) = true := bne_iff_ne.2 h0
    have HG := Lib.hid hg
    clear he b1 hg h0
    go_wp2_with fail
    exact bodyPost_ret (v := .tuple #[.slice none 0 0, .int .i64 e]) (by simp [results, Tryz.results65, go_sem]) rfl (HP.out [] none 0 e _ (.inl ⟨HG.out.1, HG.out.2, rfl⟩) Lies.nil_ (fun b h => by cases h) (belows H.out.2.2.1 H1.out))
  have hg : SpGood s.f s.L := by
    rcases he with ⟨h, _⟩ | ⟨_, h⟩
    · exact h
    · omega
  have HG := Lib.hid hg
  have t1 : (e != 0) = false := by simp [h0]
  have hi0 : GI V.heap.size [] (.slice none 0 0) w1 := ⟨World.ownsRow_nil w1 V.heap.size 22 1, fun b h => by cases h⟩
  clear he b1 hg h0 y1
  go_wp2_with fail
  go_loopw [7, 19] (fun v i wr => ∃ (k : Nat) (bs : List Bt), i = .int .i64 (k : Int) ∧ k ≤ ks.length ∧ GI V.heap.size bs v wr ∧ GrpOk s.f s.L (ks.take k) bs ∧ Below V.heap.size V wr)
    (fun _ i _ => ks.length - (intOf i).toNat)
  case atStart => exact ⟨0, [], rfl, by omega, hi0, ⟨rfl, fun i k b h _ => by simp at h⟩, H1.out⟩
  case round =>
    obtain ⟨k, bs, rfl, hk, hgi, hgo, hb⟩ := hrel
    obtain ⟨d0, d1⟩ := hX.out wr hb
    by_cases hlt : k < ks.length
    · obtain ⟨q, hq⟩ : ∃ q, ks[k]? = some q := ⟨_, List.getElem?_eq_getElem hlt⟩
      obtain ⟨b, o, hA, hB, hc⟩ := H.out.2.2.2.2.2.2.1.head (by omega)
      have z0 := (hb.cell (p := ⟨b, o + k * 1 + 0, none⟩) hB).trans (hc k q hq 0 _ rfl)
      rw [show o + k * 1 + 0 = o + k by omega] at z0
      have hqm := List.mem_of_getElem? hq
      have hvq := ((H.out.2.2.2.2.2.2.1.each_ q hqm).past hb (Nat.le_refl _)).wide hb.size
      obtain ⟨V5, hV5, hs5, bb5, o5⟩ := boxd wr [.slice q.A q.l.length q.c] 47
      have hbV5 := belows hb bb5
      have u1 := Lib.hid (collect_key wr.heap.size q.A q.c q.l s V5 o5 ((hvq.past bb5 (Nat.le_refl _)).wide bb5.size) (H.out.2.2.2.2.2.2.2 q hqm) H.out.2.2.2.2.1 (H.out.1.keep hbV5) H.out.2.1 HG.out H.out.2.2.2.2.2.1)
      rw [show s.val = .agg #[.slice s.sA s.f.length s.sc, .slice s.lA s.L.length s.lc] from rfl] at u1
      have htk : ks.take (k + 1) = ks.take k ++ [q] := by rw [List.take_add_one, hq]; rfl
      have HA := Lib.hid hA
      have hbl : bs.length = k := by rw [hgo.1, List.length_take]; omega
      have HK := Lib.hid (And.intro hgi (And.intro hgo (And.intro hb (And.intro bb5 (And.intro hqm htk)))))
      have q0 : (0 : Int) ≤ (k : Int) := by omega
      have q1 : (k : Int) < (ks.length : Int) := by omega
      obtain ⟨d0, d1⟩ := hX.out V5 hbV5
      clear hgi hgo hb bb5 hqm htk hvq o5 hs5 hbV5 hq hc
      go_upto_region 8 with fail
      rw [← hV5]
      clear hV5
      go_wp2_with fail
      refine u1.out.mono ?_
      rintro _ w2 ⟨bt, rfl, r1, r2, r3, r4, r5, b2⟩
      obtain ⟨E, hE⟩ : ∃ E, bldE s.f (partsK q.l s.L) = E := ⟨_, rfl⟩
      rw [hE] at r1 r2 ⊢
      have b02 := belows HK.out.2.2.2.1 b2
      have hb2 := belows HK.out.2.2.1 b02
      by_cases h0 : E = 0
      · have t2 : (E != 0) = false := by simp [h0]
        have hgi2 := HK.out.1.keep b02
        have hlb := r5.of (S := fun k => Value.ownBlock _ = some k) fun k hk => Nat.lt_of_lt_of_le (HK.out.1.own.lt k hk).2 HK.out.2.2.2.1.size
        have HM := Lib.hid (And.intro hgi2 (And.intro r3 (And.intro r4 (And.intro hlb (And.intro (hE.trans h0) (And.intro (r1 h0).2.2 hb2))))))
        clear r1 r2 r3 r4 r5 b2 b02 hb2 hgi2 hlb u1 hE h0
        go_wp2_with (at_builtin; refine wpList_push _ rfl _ _ 53 rfl V.heap.size 22 i0 _ 1 24 HI.out.1 HI.out.2.1 HI.out.2.2.1 HI.out.2.2.2.1 HI.out.2.2.2.2 rfl (by decide) _ _ _ rfl HM.out.1.own #[.slice bt.uA bt.l.length bt.uc] rfl rfl ?k1 ?k2 ?k3 ?k4 ?_)
        case k1 => rfl
        case k2 => unfold maxLen; omega
        case k3 => omega
        case k4 => exact HM.out.2.2.2.2.2.2.size
        intro v4 w4 ho4 hb4 hv4 hg4
        rw [← hbl] at ho4
        have hp4 := HM.out.1.push HM.out.2.1 HM.out.2.2.1 HM.out.2.2.2.1 ho4 hv4 hg4
        have H4 := Lib.hid (And.intro hp4 (HM.out.2.2.2.2.2.2.trans hb4))
        clear ho4 hb4 hv4 hg4 hp4
        go_wp2_with fail
        clear hA
        rw [← HA.out]
        go_roundw
        case rel => exact ⟨k + 1, bs ++ [bt], by go_num, by omega, H4.out.1, by rw [HK.out.2.2.2.2.2]; exact HK.out.2.1.snoc HM.out.2.2.2.2.1 HM.out.2.2.2.2.2.1, H4.out.2⟩
        case measure => simp [intOf]; omega
      · have t2 : (E != 0) = true := bne_iff_ne.2 h0
        have HM := Lib.hid (And.intro h0 (And.intro hE.symm (belows H.out.2.2.1 hb2)))
        clear r1 r2 r3 r4 r5 b2 b02 hb2 u1 hE h0
        go_wp2_with fail
        exact bodyPost_ret (v := .tuple #[.slice none 0 0, .int .i64 E]) (by simp [results, Tryz.results65, go_sem]) rfl (HP.out [] none 0 E _ (.inr ⟨HG.out, .inr ⟨HM.out.1, rfl, q, HK.out.2.2.2.2.1, HM.out.2.1⟩⟩) Lies.nil_ (fun b h => by cases h) HM.out.2.2)
    · have hk2 : k = ks.length := by omega
      subst hk2
      rw [List.take_length] at hgo
      obtain ⟨A7, k7, hv7, _, _, hl7⟩ := lies_of_own (l := bs) (by decide) gcell_len rfl hgi.own
      subst hv7
      have HM := Lib.hid (And.intro hl7 (And.intro hgo (And.intro (fun b hm => And.intro (hgi.in_ b hm).1 (hgi.in_ b hm).2.1) (belows H.out.2.2.1 hb))))
      clear hgi hgo hb hl7
      go_wp2_with fail
      exact bodyPost_ret (v := .tuple #[.slice A7 bs.length k7, .int .i64 0]) (by simp [results, Tryz.results65, go_sem]) rfl (HP.out bs A7 k7 0 _ (.inr ⟨HG.out, .inl ⟨rfl, HM.out.2.1⟩⟩) HM.out.1 HM.out.2.2.1 HM.out.2.2.2)
end Go.Proofs.YtjffohpdjicfpaaGreat
namespace Go.Proofs.YtjffohpdjicfpaaGreat
open Go Go.RowKit Go.Sort Go.Lib Go.Shelf
section
variable {α : Type} [Inhabited α] {enc : α → Value} {w : World} {blk off m : Nat} {dk : Array α} {os : Array Obj}
theorem sortWorld1_other {b : Nat} (hb : b ≠ blk) (hlt : b < w.heap.size) : (sortWorld enc w blk off m dk os).heap[b]? = w.heap[b]? := by
  unfold sortWorld putRow mapBlock
  show (_ ++ os)[b]? = _
  rw [Array.getElem?_append_left (by simp [ahead]; omega), Array.getElem?_modify, if_neg (Ne.symm hb)]
  rfl
theorem sortWorld1_size : w.heap.size ≤ (sortWorld enc w blk off m dk os).heap.size := by
  unfold sortWorld putRow mapBlock
  show _ ≤ (_ ++ os).size
  simp [ahead]
theorem sortWorld1_below {B : Nat} (hB : B ≤ blk) (hlt : blk < w.heap.size) : RowKit.Below B w (sortWorld enc w blk off m dk os) :=
  ⟨rfl, rfl, rfl, sortWorld1_size, fun b hb => sortWorld1_other (by omega) (by omega)⟩
def RowV (enc : α → Value) (w : World) (g : Nat) (l : List α) : Prop := ∀ (i : Nat) (x : α), l[i]? = some x → w.cell? ⟨g, i, none⟩ = some (enc x) ∧ w.frozen? ⟨g, i, none⟩ = false
theorem holds_rowV {g : Nat} {l : List α} (h : RowV enc w g l) : Holds enc w g 0 l.toArray := fun j hj => by
  have hj : j < l.length := by simpa using hj
  have hx : l[j]? = some l[j] := List.getElem?_eq_getElem hj
  rw [Nat.zero_add, list_get!_some hx]
  exact h j _ hx
theorem rowV_holds {g : Nat} {d : Array α} (h : Holds enc w g 0 d) : RowV enc w g d.toList := fun i x hx => by
  have hi : i < d.size := by have := (List.getElem?_eq_some_iff.1 hx).1; simpa using this
  have hxi : d[i]! = x := by
    have := list_get!_some hx
    simpa using this
  have := h i hi
  rw [Nat.zero_add, hxi] at this
  exact this
end
theorem sort_gen1 {P : Program} {ρ : Ren} {α : Type} [Inhabited α] (L : SlLaysF.n6 P ρ) (enc : α → Value) (h1 : OneCell enc)
    (cf : α → α → Int) (hO : SWO (ltOf cf)) (fn : Nat) (cb : Array Value) (g cap : Nat) (l : List α) (w : World) (eg : ∀ args w, (callFunc fn args).run P w = .ok (.enter fn args) w) (hcmp : CmpLays1 P fn cb enc cf g 0 l.length w) (hrow : RowV enc w g l) (hg : g < w.heap.size) (hn : l.length < 4611686018427387904) :
    Calls P (ρ.f 6) #[.slice (some ⟨g, 0, none⟩) l.length cap, .func (.func fn) #[] cb] w fun e w' => e = .returned (.tuple #[]) ∧ ∃ l' : List α, l'.Perm l ∧ l'.Pairwise (fun x y => ¬ cf y x < 0) ∧ RowV enc w' g l' ∧ RowKit.Below g w w' ∧ ∀ b, b ≠ g → b < w.heap.size → w'.heap[b]? = w.heap[b]? := by
  have hcon := Any.slices_SortFunc L enc h1 cf hO fn cb g 0 cap l.toArray w eg (by simpa using hcmp) (holds_rowV hrow) hg (by simpa using hn)
  simp only [List.size_toArray] at hcon
  refine hcon.mono ?_
  rintro e w' ⟨rfl, d', n, os, hp, hs, rfl⟩
  have hsz : d'.size = l.length := by have := hp.1; simpa using this
  refine ⟨rfl, d'.toList, ?_, ?_, ?_, sortWorld1_below (Nat.le_refl _) hg, fun b hb hlt => sortWorld1_other hb hlt⟩
  · have := perm_all (d := l.toArray) (by simp) hp
    simpa using this
  · exact (sorted_all hsz hs).imp fun h => by unfold ltOf at h; simpa using h
  · exact rowV_holds (holds_sortWorld enc w g 0 n l.toArray d' os hg (holds_rowV hrow) (by simpa using hsz))
def kval (r : Rw Vl) : Value := .slice r.A r.l.length r.c
structure KeyIn (w : World) (g : Nat) (r : Rw Vl) : Prop where
  in_ : Vals w w.heap.size r.A r.l
  off : OfT (fun b => b = g) r.A r.l.length
  n : r.l.length ≤ maxLen
set_option maxRecDepth 100000 in
set_option maxHeartbeats 3200000 in
theorem sortV_any (g cap : Nat) (l : List (Rw Vl)) (w : World) (hrow : RowV kval w g l) (hg : g < w.heap.size) (hin : ∀ r ∈ l, KeyIn w g r) (hpos : 0 < l.length) (hn : l.length < 4611686018427387904) :
    Calls Tryz.prog 101 #[.slice (some ⟨g, 0, none⟩) l.length cap, .func (.func 73) #[] #[]] w fun e w' => e = .returned (.tuple #[]) ∧ ∃ l' : List (Rw Vl), l'.Perm l ∧ l'.Pairwise (fun x y => cmpRows x.l y.l ≤ 0) ∧ RowV kval w' g l' ∧ RowKit.Below g w w' ∧ ∀ b, b ≠ g → b < w.heap.size → w'.heap[b]? = w.heap[b]? := by
  obtain ⟨m, rfl⟩ := map_pick (p := fun x : Rw Vl => KeyIn w g x) l fun x hx => hin x hx
  have eg : ∀ args w, (callFunc 73 args).run Tryz.prog w = .ok (.enter 73 args) w := enters_of Tryz.func73 (by kernel_rfl) rfl
  have hlen : (m.map (·.1)).length = m.length := List.length_map ..
  letI : Inhabited {x : Rw Vl // KeyIn w g x} := ⟨m[0]'(by rw [hlen] at hpos; exact hpos)⟩
  have hcon := sort_gen1 (α := {x : Rw Vl // KeyIn w g x}) Tryz.sortV (fun x => kval x.1) (fun x => rfl)
    (fun x y => cmpRows x.1.l y.1.l) (swo_lin row_lin fun x : {x : Rw Vl // KeyIn w g x} => x.1.l) 73 #[] g cap m w eg
    (fun mm os dk _ x y => by
      have hb := sortWorld1_below (enc := fun x : {x : Rw Vl // KeyIn w g x} => kval x.1) (off := 0) (m := mm) (dk := dk) (os := os) (Nat.le_refl g) hg
      have hk : KeptK w (sortWorld (fun x : {x : Rw Vl // KeyIn w g x} => kval x.1) w g 0 mm dk os) (fun b => b = g) := ⟨hb.os, hb.tape, hb.output, hb.size, fun k hk h1 => sortWorld1_other h1 hk⟩
      exact rows_gr x.1.A y.1.A x.1.c y.1.c x.1.l y.1.l _ (vals_kept x.2.in_ x.2.off hk) (vals_kept y.2.in_ y.2.off hk) x.2.n y.2.n)
    (fun i x hx => hrow i x.1 (by rw [List.getElem?_map, hx]; rfl)) hg (by rw [hlen] at hn; exact hn)
  change Calls Tryz.prog 101 _ _ _ at hcon
  rw [hlen]
  refine hcon.mono ?_
  rintro e w' ⟨rfl, l', hp, hs, hr, hb, ho⟩
  refine ⟨rfl, l'.map (·.1), hp.map _, ?_, fun i x hx => ?_, hb, ho⟩
  · rw [List.pairwise_map]
    exact hs.imp fun {a b} h => by
      have := row_lin.swap a.1.l b.1.l
      omega
  · rw [List.getElem?_map] at hx
    obtain ⟨y, hy, rfl⟩ := Option.map_eq_some_iff.1 hx
    exact hr i y hy
end Go.Proofs.YtjffohpdjicfpaaGreat
namespace Go.Proofs.YtjffohpdjicfpaaGreat
open Go Go.RowKit
set_option maxRecDepth 100000 in
set_option maxHeartbeats 400000 in
theorem rows_any (A A' : Option Addr) (c c' : Nat) (l m : List Vl) (w : World) (hl : Vals w w.heap.size A l) (hm : Vals w w.heap.size A' m) (hn : l.length ≤ maxLen) (hn' : m.length ≤ maxLen) :
    Calls Tryz.prog 73 #[.slice A l.length c, .slice A' m.length c'] w fun e w' => e = .returned (.int .i64 (cmpRows l m)) ∧ Below w.heap.size w w' := by
  have hcall := Lib.hid (cmpFunc_any A A' c c' l m w hl hm hn hn')
  clear hl hm
  generalize cmpRows l m = r at *
  go_enter Tryz.func73, Tryz.ntmps73
  go_wp2_with fail
  refine hcall.out.mono ?_
  rintro e w1 ⟨rfl, h1⟩
  go_wp2_with fail
  go_ret
  exact ⟨rfl, h1⟩

def ddp (p : Rw Vl) : List (Rw Vl) → List (Rw Vl)
  | [] => []
  | x :: l => if cmpRows x.l p.l = 0 then ddp x l else x :: ddp x l
def dedK : List (Rw Vl) → List (Rw Vl)
  | [] => []
  | x :: l => x :: ddp x l
theorem ddp_snoc (x q : Rw Vl) : ∀ (l : List (Rw Vl)) (p : Rw Vl), (p :: l)[l.length]? = some q → ddp p (l ++ [x]) = ddp p l ++ (if cmpRows x.l q.l = 0 then [] else [x])
  | [], p, h => by
    obtain rfl : p = q := by simpa using h
    show (if cmpRows x.l p.l = 0 then ddp x [] else x :: ddp x []) = _
    split <;> rfl
  | y :: l, p, h => by
    have ih := ddp_snoc x q l y (by simpa using h)
    show (if cmpRows y.l p.l = 0 then ddp y (l ++ [x]) else y :: ddp y (l ++ [x])) = (if cmpRows y.l p.l = 0 then ddp y l else y :: ddp y l) ++ _
    rw [ih]
    split
    · rfl
    · rfl
theorem ded_step {L : List (Rw Vl)} {k : Nat} {x q : Rw Vl} (hx : L[k + 1]? = some x) (hq : L[k]? = some q) : dedK (L.take (k + 2)) = dedK (L.take (k + 1)) ++ (if cmpRows x.l q.l = 0 then [] else [x]) := by
  have e : L.take (k + 2) = L.take (k + 1) ++ [x] := by rw [List.take_add_one, hx]; rfl
  rw [e]
  have hk := (List.getElem?_eq_some_iff.1 hq).1
  cases L with
  | nil => simp at hq
  | cons p l =>
    rw [List.take_succ_cons]
    show p :: ddp p (l.take k ++ [x]) = p :: ddp p (l.take k) ++ _
    rw [ddp_snoc x q (l.take k) p ?_]
    · rfl
    · have hl : (l.take k).length = k := by rw [List.length_take]; simp at hk; omega
      rw [hl]
      have : (p :: l.take k)[k]? = ((p :: l).take (k + 1))[k]? := by rw [List.take_succ_cons]
      rw [this, List.getElem?_take, if_pos (Nat.lt_succ_self k)]
      exact hq
theorem ded_le : ∀ L : List (Rw Vl), (dedK L).length ≤ L.length := by
  have h : ∀ (l : List (Rw Vl)) (p : Rw Vl), (ddp p l).length ≤ l.length := fun l => by
    induction l with
    | nil => exact fun _ => Nat.le_refl _
    | cons x l ih =>
      intro p
      show (if cmpRows x.l p.l = 0 then ddp x l else x :: ddp x l).length ≤ _
      have := ih x
      split
      · rw [List.length_cons]; omega
      · rw [List.length_cons, List.length_cons]; omega
  intro L
  cases L with
  | nil => exact Nat.le_refl _
  | cons p l => exact Nat.succ_le_succ (h l p)
theorem setCells_sets (g : Nat) : ∀ (vs : List Value) (o : Nat) (w : World), w.setCells g o vs = setsAt w g o vs
  | [], _, _ => rfl
  | v :: vs, o, w => setCells_sets g vs (o + 1) (w.setCell ⟨g, o, none⟩ v)
theorem flat_kval (L : List (Rw Vl)) : L.flatMap Rw.cells = L.map kval := by
  induction L with
  | nil => rfl
  | cons x L ih => rw [List.flatMap_cons, ih]; rfl
theorem keys1_any (x q : Rw Vl) (w : World) (hx : Vals w w.heap.size x.A x.l) (hq : Vals w w.heap.size q.A q.l) (nx : x.l.length ≤ maxLen) (nq : q.l.length ≤ maxLen) :
    Calls Tryz.prog 103 #[.slice x.A x.l.length x.c, .slice q.A q.l.length q.c] w fun e w' => e = .returned (.bool (decide (cmpRows x.l q.l = 0))) ∧ Below w.heap.size w w' := by
  have y1 := Lib.hid (rows_any x.A q.A x.c q.c x.l q.l w hx hq nx nq)
  obtain ⟨z, hz⟩ : ∃ z, cmpRows x.l q.l = z := ⟨_, rfl⟩
  rw [hz] at y1 ⊢
  clear hx hq nx nq hz
  go_enter Tryz.func103, Tryz.ntmps103
  go_wp2_with fail
  refine y1.out.mono ?_
  rintro _ w1 ⟨rfl, b1⟩
  have HB := Lib.hid b1
  clear b1 y1
  go_wp2_with fail
  go_ret
  exact ⟨by first | rfl | (congr 2; simp), HB.out⟩
theorem RowV.past {w w' : World} {G : Nat} {L : List (Rw Vl)} (h : RowV kval w G L) (hb : Below w.heap.size w w') (hG : G < w.heap.size) : RowV kval w' G L := fun i x hx => by
  obtain ⟨h1, h2⟩ := h i x hx
  refine ⟨(hb.cell (p := ⟨G, i, none⟩) hG).trans h1, ?_⟩
  unfold World.frozen? at h2 ⊢
  rw [hb.block G hG]
  exact h2
theorem RowV.set {w : World} {G kl : Nat} {L : List (Rw Vl)} {x : Rw Vl} (h : RowV kval w G L) (hk : kl < L.length) : RowV kval (w.setCell ⟨G, kl, none⟩ (kval x)) G (L.set kl x) := fun i y hy => by
  rw [World.frozen?_setCell]
  by_cases e : i = kl
  · subst e
    rw [List.getElem?_set_self hk] at hy
    obtain rfl : x = y := Option.some.inj hy
    obtain ⟨h1, h2⟩ := h i _ (List.getElem?_eq_getElem hk)
    exact ⟨World.cell?_setCell_same _ _ _ h1, h2⟩
  · rw [List.getElem?_set_ne (Ne.symm e)] at hy
    obtain ⟨h1, h2⟩ := h i y hy
    refine ⟨?_, h2⟩
    rw [World.cell?_setCell_other (h := fun e2 => by simp only [Addr.mk.injEq] at e2; omega)]
    exact h1
structure CfSt (w wr : World) (G : Nat) (L R : List (Rw Vl)) (j kl : Nat) : Prop where
  row : RowV kval wr G R
  len : R.length = L.length
  kl_ : kl = (dedK (L.take j)).length
  front : R.take kl = dedK (L.take j)
  le : kl < j
  rest : ∀ i, j ≤ i + 1 → R[i]? = L[i]?
  kept : KeptK w wr (fun b => b = G)
theorem CfSt.skip {w wr X : World} {G j kl : Nat} {L R : List (Rw Vl)} {x q : Rw Vl} (h : CfSt w wr G L R (j + 1) kl) (hx : L[j + 1]? = some x) (hq : L[j]? = some q) (hc : cmpRows x.l q.l = 0) (hb : Below wr.heap.size wr X) (hG : G < w.heap.size) : CfSt w X G L R (j + 2) kl := by
  have e := ded_step hx hq
  rw [if_pos hc, List.append_nil] at e
  refine ⟨h.row.past hb (Nat.lt_of_lt_of_le hG h.kept.size), h.len, by rw [e]; exact h.kl_, by rw [e]; exact h.front, by have := h.le; omega, fun i hi => h.rest i (by omega), h.kept.trans (KeptK.of_below hb (Nat.le_refl _) (fun b => b = G)) (fun _ _ e => e)⟩
theorem CfSt.keep {w wr X : World} {G j kl : Nat} {L R : List (Rw Vl)} {x q : Rw Vl} (h : CfSt w wr G L R (j + 1) kl) (hx : L[j + 1]? = some x) (hq : L[j]? = some q) (hc : cmpRows x.l q.l ≠ 0) (hb : Below wr.heap.size wr X) (hG : G < w.heap.size) : CfSt w (X.setCell ⟨G, kl, none⟩ (.slice x.A x.l.length x.c)) G L (R.set kl x) (j + 2) (kl + 1) := by
  have e := ded_step hx hq
  rw [if_neg hc] at e
  have hlt : kl < R.length := by rw [h.len]; have := (List.getElem?_eq_some_iff.1 hx).1; have := h.le; omega
  refine ⟨(h.row.past hb (Nat.lt_of_lt_of_le hG h.kept.size)).set hlt, by rw [List.length_set]; exact h.len, by rw [e, List.length_append, ← h.kl_]; rfl, ?_, by have := h.le; omega, fun i hi => ?_, (h.kept.trans (KeptK.of_below hb (Nat.le_refl _) (fun b => b = G)) (fun _ _ e => e)).set_ (.inl rfl) _⟩
  · rw [e, ← h.front, List.take_add_one, List.getElem?_set_self hlt, List.take_set_of_le (Nat.le_refl _)]
    rfl
  · rw [List.getElem?_set_ne (by have := h.le; omega)]
    exact h.rest i (by omega)
theorem CfSt.done {w wr : World} {G kl : Nat} {L R : List (Rw Vl)} (h : CfSt w wr G L R L.length kl) (hG : G < w.heap.size) :
    Lies 1 Rw.cells (wr.setCells G kl (List.replicate (L.length - kl) (.slice none 0 0))) (wr.setCells G kl (List.replicate (L.length - kl) (.slice none 0 0))).heap.size (some ⟨G, 0, none⟩) (dedK L) ∧ KeptK w (wr.setCells G kl (List.replicate (L.length - kl) (.slice none 0 0))) (fun b => b = G) ∧ kl = (dedK L).length := by
  have hfr := h.front
  have hkl := h.kl_
  rw [List.take_length] at hfr hkl
  have hk : KeptK w (wr.setCells G kl (List.replicate (L.length - kl) (.slice none 0 0))) (fun b => b = G) := by
    rw [setCells_sets]
    exact setsAt_kept (S := fun b => b = G) (.inl rfl) _ _ _ h.kept
  refine ⟨fun hp => ⟨G, 0, rfl, Nat.lt_of_lt_of_le hG hk.size, fun i x hi j u hj => ?_⟩, hk, hkl⟩
  obtain rfl : j = 0 := by have := (List.getElem?_eq_some_iff.1 hj).1; simpa [Rw.cells] using this
  have hiK : i < kl := by rw [hkl]; exact (List.getElem?_eq_some_iff.1 hi).1
  have hu : u = kval x := by
    have : [kval x][0]? = some u := hj
    simpa using this.symm
  have hR : R[i]? = some x := by
    rw [← hfr, List.getElem?_take, if_pos hiK] at hi
    exact hi
  rw [Nat.zero_add, Nat.mul_one, Nat.add_zero, World.cell?_setCells_out G _ kl wr ⟨G, i, none⟩ (fun _ _ => .inl hiK), hu]
  exact (h.row i x hR).1
theorem infoKs : (Tryz.prog.info? 47).map (fun i => (i.zero, i.size, i.bytes)) = some (some (.slice none 0 0), 1, 24) := by kernel_rfl
theorem zeroOfVs (w : World) : (zeroValue 47).run Tryz.prog w = .ok (.slice none 0 0) w := by
  obtain ⟨i0, hi, hz0, _⟩ := info_parts infoKs
  simp [zeroValue, typeInfo, hi, hz0]
theorem rowV_lies {w : World} {G : Nat} {L : List (Rw Vl)} (h : RowV kval w G L) (hG : G < w.heap.size) : Lies 1 Rw.cells w w.heap.size (some ⟨G, 0, none⟩) L := fun _ => ⟨G, 0, rfl, hG, fun i x hi j u hj => by
  obtain rfl : j = 0 := by have := (List.getElem?_eq_some_iff.1 hj).1; simpa [Rw.cells] using this
  have hu : u = kval x := by
    have : [kval x][0]? = some u := hj
    simpa using this.symm
  rw [Nat.zero_add, Nat.mul_one, Nat.add_zero, hu]
  exact (h i x hi).1⟩
theorem CfSt.first {w wr : World} {G k : Nat} {L : List (Rw Vl)} {x q : Rw Vl} (hr : RowV kval wr G L) (hk : KeptK w wr (fun b => b = G)) (hd : dedK (L.take (k + 1)) = L.take (k + 1)) (hx : L[k + 1]? = some x) (hq : L[k]? = some q) (hc : cmpRows x.l q.l = 0) : CfSt w wr G L L (k + 2) (k + 1) := by
  have e := ded_step hx hq
  rw [if_pos hc, List.append_nil, hd] at e
  have hlt := (List.getElem?_eq_some_iff.1 hx).1
  exact ⟨hr, rfl, by rw [e, List.length_take]; omega, e.symm, Nat.lt_succ_self _, fun i _ => rfl, hk⟩
theorem ded_next {L : List (Rw Vl)} {k : Nat} {x q : Rw Vl} (hd : dedK (L.take (k + 1)) = L.take (k + 1)) (hx : L[k + 1]? = some x) (hq : L[k]? = some q) (hc : cmpRows x.l q.l ≠ 0) : dedK (L.take (k + 2)) = L.take (k + 2) := by
  rw [ded_step hx hq, if_neg hc, hd, List.take_add_one (i := k + 1), hx]
  rfl
set_option maxRecDepth 100000 in
set_option maxHeartbeats 12800000 in
theorem compact_row (G c : Nat) (L : List (Rw Vl)) (w : World) (ho : RowV kval w G L) (hGi : G < w.heap.size) (hl : L.length ≤ c) (hc : c ≤ maxLen) (h2 : 2 ≤ L.length) (hin : ∀ r ∈ L, KeyIn w G r) :
    Calls Tryz.prog 102 #[.slice (some ⟨G, 0, none⟩) L.length c, .func (.func 103) #[] #[]] w fun e w' => e = .returned (.slice (some ⟨G, 0, none⟩) (dedK L).length c) ∧ Lies 1 Rw.cells w' w'.heap.size (some ⟨G, 0, none⟩) (dedK L) ∧ KeptK w w' (fun b => b = G) := by
  unfold maxLen at hc
  have t1 : decide ((L.length : Int) < 2) = false := decide_eq_false (by omega)
  have yk := fun (W : World) (x q : Rw Vl) (hb : KeptK w W (fun b => b = G)) (hx : x ∈ L) (hq : q ∈ L) => Lib.hid (fun p : Past W => calls_past (keys1_any x q p.w (((vals_kept (hin x hx).in_ (hin x hx).off hb).past p.h (Nat.le_refl _)).wide p.h.size) (((vals_kept (hin q hq).in_ (hin q hq).off hb).past p.h (Nat.le_refl _)).wide p.h.size) (hin x hx).n (hin q hq).n))
  have H := Lib.hid (And.intro ho hl)
  clear ho hin
  go_enter Tryz.func102, Tryz.ntmps102
  go_wp2_with fail
  go_loopw [5] (fun v5 wr => ∃ k : Nat, v5 = .int .i64 ((k : Int) + 1) ∧ k + 1 ≤ L.length ∧ dedK (L.take (k + 1)) = L.take (k + 1) ∧ Below w.heap.size w wr)
    (fun v5 _ => L.length - (intOf v5).toNat)
  case atStart =>
    refine ⟨0, rfl, by omega, ?_, Below.refl _ _⟩
    cases L with
    | nil => rfl
    | cons x l => rfl
  case round =>
    obtain ⟨k, rfl, hk, hd, hb⟩ := hrel
    by_cases hlt : k + 1 < L.length
    · obtain ⟨x, hx⟩ : ∃ x, L[k + 1]? = some x := ⟨_, List.getElem?_eq_getElem hlt⟩
      obtain ⟨q, hq⟩ : ∃ q, L[k]? = some q := ⟨_, List.getElem?_eq_getElem (by omega)⟩
      have kb : KeptK w wr (fun b => b = G) := KeptK.of_below hb (Nat.le_refl _) _
      have hrow := H.out.1.past hb hGi
      have hGr : G < wr.heap.size := Nat.lt_of_lt_of_le hGi hb.size
      have u1 := (yk wr x q kb (List.mem_of_getElem? hx) (List.mem_of_getElem? hq)).out
      obtain ⟨Bv, hBv⟩ : ∃ Bv, decide (cmpRows x.l q.l = 0) = Bv := ⟨_, rfl⟩
      rw [hBv] at u1
      have c1 := fun p : Past wr => (hrow.past p.h hGr (k + 1) x hx).1
      have c0 := fun p : Past wr => (hrow.past p.h hGr k q hq).1
      unfold kval at c0 c1
      have q0 : (0 : Int) ≤ (k : Int) := by omega
      have q1 : (k : Int) < (L.length : Int) := by omega
      have q2 : (0 : Int) ≤ (k : Int) + 1 := by omega
      have q3 : (k : Int) + 1 < (L.length : Int) := by omega
      have q4 : IntKind.i64.wrap ((k : Int) + 1 - 1) = (k : Int) := by rw [IntKind.wrap_i64]; omega
      have q5 : ((k : Int) + 1).toNat = k + 1 := by omega
      have HK := Lib.hid (And.intro hb (And.intro hd (And.intro hx (And.intro hq (And.intro hBv hrow)))))
      clear hb hd hx hq hBv kb hrow
      go_upto_region 6 with fail
      refine wp_region_past wr (by kernel_rfl) (by kernel_rfl) (Below.refl _ _) ?_
      repeat (first | go_big_quiet_step ((go_at_call 103; exact u1 _)) | quiet_step ((go_at_call 103; exact u1 _)))
      refine wpQuiet_nil ?_
      intro wz hw'
      obtain ⟨⟨wy, hbz⟩, hw''⟩ := hw'
      dsimp only at hw''
      subst hw''
      have HZ := Lib.hid (And.intro hbz (HK.out.1.trans (hbz.mono HK.out.1.size)))
      clear hbz c0 c1 u1
      cases Bv with
      | false =>
        have hc := of_decide_eq_false HK.out.2.2.2.2.1
        go_wp2_with fail
        go_roundw
        case rel => exact ⟨k + 1, by go_num, by omega, ded_next HK.out.2.1 HK.out.2.2.1 HK.out.2.2.2.1 hc, HZ.out.2⟩
        case measure => simp [intOf]; omega
      | true =>
        have hc := of_decide_eq_true HK.out.2.2.2.2.1
        have HC := Lib.hid (CfSt.first (HK.out.2.2.2.2.2.past HZ.out.1 hGr) (KeptK.of_below HZ.out.2 (Nat.le_refl _) _) HK.out.2.1 HK.out.2.2.1 HK.out.2.2.2.1 hc)
        clear hc
        go_wp2_with fail
        go_loopw [5, 7] (fun v5 v7 wi => ∃ (k2 kl : Nat) (R : List (Rw Vl)), v7 = .int .i64 ((k2 : Int) + 1) ∧ v5 = .int .i64 (kl : Int) ∧ k + 2 + k2 ≤ L.length ∧ CfSt w wi G L R (k + 2 + k2) kl)
          (fun _ v7 _ => L.length - (intOf v7).toNat)
        case atStart => exact ⟨0, k + 1, L, rfl, by first | rfl | simp, by omega, HC.out⟩
        case round =>
          obtain ⟨k2, kl, R, rfl, rfl, hk2, hst⟩ := hrel
          by_cases hlt2 : k + 2 + k2 < L.length
          · obtain ⟨x2, hx2⟩ : ∃ x2, L[k + 1 + k2 + 1]? = some x2 := ⟨_, List.getElem?_eq_getElem (by omega)⟩
            obtain ⟨q2, hq2⟩ : ∃ q2, L[k + 1 + k2]? = some q2 := ⟨_, List.getElem?_eq_getElem (by omega)⟩
            have hGw : G < wr.heap.size := Nat.lt_of_lt_of_le hGi hst.kept.size
            have u2 := (yk wr x2 q2 hst.kept (List.mem_of_getElem? hx2) (List.mem_of_getElem? hq2)).out
            obtain ⟨Bw, hBw⟩ : ∃ Bw, decide (cmpRows x2.l q2.l = 0) = Bw := ⟨_, rfl⟩
            rw [hBw] at u2
            have hr1 : R[k + 1 + k2 + 1]? = some x2 := (hst.rest _ (by omega)).trans hx2
            have hr0 : R[k + 1 + k2]? = some q2 := (hst.rest _ (by omega)).trans hq2
            have c1 := fun p : Past wr => (hst.row.past p.h hGw _ x2 hr1).1
            have c0 := fun p : Past wr => (hst.row.past p.h hGw _ q2 hr0).1
            unfold kval at c0 c1
            rw [show k + 1 + k2 + 1 = k + 1 + (k2 + 1) by omega] at c1
            have p0 : (0 : Int) ≤ (k2 : Int) := by omega
            have p1 : (k2 : Int) < ((L.length - (k + 1) : Nat) : Int) := by omega
            have p2 : (0 : Int) ≤ (k2 : Int) + 1 := by omega
            have p3 : (k2 : Int) + 1 < ((L.length - (k + 1) : Nat) : Int) := by omega
            have p4 : IntKind.i64.wrap ((k2 : Int) + 1 - 1) = (k2 : Int) := by rw [IntKind.wrap_i64]; omega
            have p5 : ((k2 : Int) + 1).toNat = k2 + 1 := by omega
            have HS := Lib.hid (And.intro hst (And.intro hx2 (And.intro hq2 hBw)))
            have hj : k + 2 + k2 = k + 1 + k2 + 1 := by omega
            have HJJ := Lib.hid hj
            clear hst hx2 hq2 hBw hr1 hr0 hj
            go_upto_region 11 with fail
            refine wp_region_past wr (by kernel_rfl) (by kernel_rfl) (Below.refl _ _) ?_
            repeat (first | go_big_quiet_step ((go_at_call 103; exact u2 _)) | quiet_step ((go_at_call 103; exact u2 _)))
            refine wpQuiet_nil ?_
            intro wy2 hw'
            obtain ⟨⟨wy3, hby⟩, hw''⟩ := hw'
            dsimp only at hw''
            subst hw''
            have HY := Lib.hid hby
            have hc1 := c1 ⟨wy2, hby⟩
            dsimp only at hc1
            clear hby c0 c1 u2
            cases Bw with
            | true =>
              have hcc := of_decide_eq_true HS.out.2.2.2
              have hs2 := HS.out.1
              rw [HJJ.out] at hs2
              have HN := Lib.hid (hs2.skip HS.out.2.1 HS.out.2.2.1 hcc HY.out hGi)
              clear hcc hs2 hc1
              go_wp2_with fail
              go_roundw
              case rel => exact ⟨k2 + 1, kl, R, by go_num, rfl, by omega, by rw [show k + 2 + (k2 + 1) = k + 1 + k2 + 2 by omega]; exact HN.out⟩
              case measure => simp [intOf]; omega
            | false =>
              have hcc := of_decide_eq_false HS.out.2.2.2
              have hs2 := HS.out.1
              rw [HJJ.out] at hs2
              have hkl : kl < R.length := by rw [hs2.len]; have := hs2.le; omega
              obtain ⟨rk, hrk⟩ : ∃ rk, R[kl]? = some rk := ⟨_, List.getElem?_eq_getElem hkl⟩
              obtain ⟨h1, h2'⟩ := hs2.row.past HY.out hGw kl rk hrk
              unfold kval at h1
              have HN := Lib.hid (hs2.keep HS.out.2.1 HS.out.2.2.1 hcc HY.out hGi)
              have p6 : (0 : Int) ≤ (kl : Int) := by omega
              have p7 : (kl : Int) < (L.length : Int) := by have := hs2.le; omega
              have HKL := Lib.hid (And.intro hs2.le hs2.len)
              clear hcc hs2 hkl hrk
              go_wp2_with fail
              go_roundw
              case rel => exact ⟨k2 + 1, kl + 1, R.set kl x2, by go_num, by go_num, by omega, by rw [show k + 2 + (k2 + 1) = k + 1 + k2 + 2 by omega]; exact HN.out⟩
              case measure => simp [intOf]; omega
          · have hkn : k + 2 + k2 = L.length := by omega
            rw [hkn] at hst
            have hGw : G < wr.heap.size := Nat.lt_of_lt_of_le hGi hst.kept.size
            have hkl : kl < L.length := hst.le
            have hcl := fun ty cc => Lib.hid (Go.Lib.run_clear_slice (P := Tryz.prog) wr 114 47 ty (.slice none 0 0) Tryz.underlying114 zeroOfVs rfl rfl G kl (L.length - kl) cc (by omega) (fun j hj => by
              have h9 : kl + j < R.length := by rw [hst.len]; omega
              rw [(hst.row (kl + j) _ (List.getElem?_eq_getElem h9)).1]; rfl) (fun j hj => by
              have h9 : kl + j < R.length := by rw [hst.len]; omega
              exact (hst.row (kl + j) _ (List.getElem?_eq_getElem h9)).2))
            have HD := Lib.hid (hst.done hGi)
            obtain ⟨W2, hW2⟩ : ∃ W2, W2 = wr.setCells G kl (List.replicate (L.length - kl) (.slice none 0 0)) := ⟨_, rfl⟩
            rw [← hW2] at HD hcl
            have hcl2 := fun ty cc => (hcl ty cc).out
            have p6 : (0 : Int) ≤ (kl : Int) := by omega
            have p7 : (kl : Int) ≤ (L.length : Int) := by omega
            have p8 : (kl : Int) ≤ (c : Int) := by omega
            have p9 : ¬ ((k2 : Int) + 1 < ((L.length - (k + 1) : Nat) : Int)) := by omega
            clear hst hcl hW2
            go_wp2_with fail
            go_ret
            exact ⟨by rw [← HD.out.2.2]; rfl, HD.out.1, HD.out.2.1⟩
    · have hkn : k + 1 = L.length := by omega
      rw [hkn, List.take_length] at hd
      have HD := Lib.hid (And.intro hd hb)
      have q9 : ¬ ((k : Int) + 1 < (L.length : Int)) := by omega
      clear hd hb
      go_wp2_with fail
      go_ret
      rw [HD.out.1]
      exact ⟨rfl, rowV_lies (H.out.1.past HD.out.2 hGi) (Nat.lt_of_lt_of_le hGi HD.out.2.size), KeptK.of_below HD.out.2 (Nat.le_refl _) _⟩
structure KeysOf (l : List Up) (ks : List (Rw Vl)) : Prop where
  asc : ks.Pairwise fun a b => cmpRows a.l b.l < 0
  all : ∀ u ∈ l, ∃ k ∈ ks, cmpRows k.l u.key = 0
  sub : ∀ k ∈ ks, ∃ u ∈ l, k.l = u.key
  len : ks.length ≤ l.length
theorem ddp_sub : ∀ (l : List (Rw Vl)) (p : Rw Vl), ∀ k ∈ ddp p l, k ∈ l
  | [], _, _, h => by cases h
  | x :: l, p, k, h => by
    have h : k ∈ (if cmpRows x.l p.l = 0 then ddp x l else x :: ddp x l) := h
    split at h
    · exact List.mem_cons_of_mem _ (ddp_sub l x k h)
    · rcases List.mem_cons.1 h with rfl | h
      · exact List.mem_cons_self
      · exact List.mem_cons_of_mem _ (ddp_sub l x k h)
theorem ded_sub {L : List (Rw Vl)} : ∀ k ∈ dedK L, k ∈ L := fun k hk => by
  cases L with
  | nil => cases hk
  | cons p l =>
    rcases List.mem_cons.1 hk with rfl | hk
    · exact List.mem_cons_self
    · exact List.mem_cons_of_mem _ (ddp_sub l p k hk)
theorem rows_tr {a b c : List Vl} (h : cmpRows a b ≤ 0) (k : cmpRows b c < 0) : cmpRows a c < 0 := row_lin.le_lt h k
theorem ddp_asc : ∀ (l : List (Rw Vl)) (p : Rw Vl), (p :: l).Pairwise (fun x y => cmpRows x.l y.l ≤ 0) → (∀ k ∈ ddp p l, cmpRows p.l k.l < 0) ∧ (ddp p l).Pairwise fun a b => cmpRows a.l b.l < 0
  | [], _, _ => ⟨fun _ h => (by cases h), List.Pairwise.nil⟩
  | x :: l, p, h => by
    have h1 := List.pairwise_cons.1 h
    obtain ⟨i1, i2⟩ := ddp_asc l x h1.2
    have hpx := h1.1 x List.mem_cons_self
    show (∀ k ∈ (if cmpRows x.l p.l = 0 then ddp x l else x :: ddp x l), _) ∧ (if cmpRows x.l p.l = 0 then ddp x l else x :: ddp x l).Pairwise _
    split
    · exact ⟨fun k hk => rows_tr hpx (i1 k hk), i2⟩
    · rename_i hne
      have hlt : cmpRows p.l x.l < 0 := by
        have := row_lin.swap p.l x.l
        omega
      refine ⟨fun k hk => ?_, List.pairwise_cons.2 ⟨i1, i2⟩⟩
      rcases List.mem_cons.1 hk with rfl | hk
      · exact hlt
      · exact rows_tr hpx (i1 k hk)
theorem ded_asc {L : List (Rw Vl)} (h : L.Pairwise fun x y => cmpRows x.l y.l ≤ 0) : (dedK L).Pairwise fun a b => cmpRows a.l b.l < 0 := by
  cases L with
  | nil => exact List.Pairwise.nil
  | cons p l => exact List.pairwise_cons.2 (ddp_asc l p h)
theorem rows_eq0 {a b c : List Vl} (h : cmpRows a b = 0) (k : cmpRows b c = 0) : cmpRows a c = 0 := (row_lin.zero h).2 k
theorem ddp_all : ∀ (l : List (Rw Vl)) (p : Rw Vl), ∀ r ∈ l, ∃ k ∈ p :: ddp p l, cmpRows k.l r.l = 0
  | [], _, _, h => by cases h
  | x :: l, p, r, h => by
    have e : ddp p (x :: l) = (if cmpRows x.l p.l = 0 then ddp x l else x :: ddp x l) := rfl
    rw [e]
    have hx : ∃ k ∈ p :: (if cmpRows x.l p.l = 0 then ddp x l else x :: ddp x l), cmpRows k.l x.l = 0 := by
      split
      · rename_i h0
        exact ⟨p, List.mem_cons_self, by have := row_lin.swap p.l x.l; omega⟩
      · exact ⟨x, List.mem_cons_of_mem _ List.mem_cons_self, row_lin.self _⟩
    rcases List.mem_cons.1 h with rfl | h
    · exact hx
    · obtain ⟨k, hk, hc⟩ := ddp_all l x r h
      rcases List.mem_cons.1 hk with rfl | hk
      · obtain ⟨q, hq, hq2⟩ := hx
        exact ⟨q, hq, rows_eq0 hq2 hc⟩
      · refine ⟨k, List.mem_cons_of_mem _ ?_, hc⟩
        split
        · exact hk
        · exact List.mem_cons_of_mem _ hk
theorem ded_all {L : List (Rw Vl)} : ∀ r ∈ L, ∃ k ∈ dedK L, cmpRows k.l r.l = 0 := fun r hr => by
  cases L with
  | nil => cases hr
  | cons p l =>
    rcases List.mem_cons.1 hr with rfl | hr
    · exact ⟨r, List.mem_cons_self, row_lin.self _⟩
    · exact ddp_all l p r hr
theorem keys_of {l : List Up} {ks ls : List (Rw Vl)} (h : ks.map Rw.l = l.map Up.key) (hp : ls.Perm ks) (hs : ls.Pairwise fun x y => cmpRows x.l y.l ≤ 0) : KeysOf l (dedK ls) := by
  refine ⟨ded_asc hs, fun u hu => ?_, fun k hk => ?_, ?_⟩
  · have h1 : u.key ∈ ks.map Rw.l := by rw [h]; exact List.mem_map_of_mem hu
    obtain ⟨r, hr, hr2⟩ := List.mem_map.1 h1
    obtain ⟨k, hk, hc⟩ := ded_all r (hp.mem_iff.2 hr)
    exact ⟨k, hk, by rw [← hr2]; exact hc⟩
  · have h1 : k.l ∈ l.map Up.key := by rw [← h]; exact List.mem_map_of_mem (hp.mem_iff.1 (ded_sub k hk))
    obtain ⟨u, hu, e⟩ := List.mem_map.1 h1
    exact ⟨u, hu, e.symm⟩
  · have h1 := ded_le ls
    have h2 := hp.length_eq
    have h3 := congrArg List.length h
    rw [List.length_map, List.length_map] at h3
    omega
theorem take_while_len (q : Up → Bool) : ∀ l : List Up, l.take (l.takeWhile q).length = l.takeWhile q
  | [] => rfl
  | x :: l => by
    by_cases hx : q x = true
    · rw [List.takeWhile_cons_of_pos hx, List.length_cons, List.take_succ_cons, take_while_len q l]
    · rw [List.takeWhile_cons_of_neg hx]; rfl
theorem while_congr {p q : Up → Bool} : ∀ {l : List Up}, (∀ u ∈ l, p u = q u) → l.takeWhile p = l.takeWhile q
  | [], _ => rfl
  | x :: l, h => by
    have ih := while_congr (p := p) (q := q) (l := l) fun u hu => h u (List.mem_cons_of_mem _ hu)
    have hx := h x List.mem_cons_self
    by_cases hp : p x = true
    · rw [List.takeWhile_cons_of_pos hp, List.takeWhile_cons_of_pos (hx ▸ hp), ih]
    · rw [List.takeWhile_cons_of_neg hp, List.takeWhile_cons_of_neg (hx ▸ hp)]
theorem keyR_eq {r : Rw Up} {key : List Vl} (hk : KeysUp r.l) : (keyR r key).l = r.l.filter fun u => decide (cmpRows u.key key = 0) := by
  rw [← group_filter hk]
  show (r.l.drop (keyN r.l key)).take (keyM r.l key) = _
  unfold keyM seekQ
  rw [take_while_len]
  show _ = (r.l.drop (keyN r.l key)).takeWhile _
  refine while_congr fun u hu => ?_
  obtain ⟨i, hi⟩ := List.getElem?_of_mem hu
  rw [List.getElem?_drop] at hi
  have h1 := seekQ_ge (key_mono1 (key := key) hk) (show seekQ r.l (fun u => decide (cmpRows u.key key < 0)) ≤ keyN r.l key + i from Nat.le_add_right _ _) hi
  have h2 := of_decide_eq_false h1
  by_cases h3 : cmpRows u.key key = 0
  · rw [decide_eq_true h3, decide_eq_true (by omega)]
  · rw [decide_eq_false h3, decide_eq_false (by omega)]
theorem partsK_eq {f : List Tm} {L : List Lv} (key : List Vl) (h : ∀ l ∈ L, LvGood f l) : partsK key L = (partsS L).filter fun u => decide (cmpRows u.key key = 0) := by
  induction L with
  | nil => rfl
  | cons l L ih =>
    have ih := ih fun x hx => h x (List.mem_cons_of_mem _ hx)
    have e : partsK key (l :: L) = flatR ((partsR l).map (keyR · key)) ++ partsK key L := by
      unfold partsK listsK flatR
      rw [List.flatMap_cons, List.flatMap_append]
    have e2 : ∀ R : List (Rw Up), (∀ r ∈ R, KeysUp r.l) → flatR (R.map (keyR · key)) = (flatR R).filter fun u => decide (cmpRows u.key key = 0) := fun R => by
      induction R with
      | nil => exact fun _ => rfl
      | cons r R ih2 =>
        intro hr
        show (keyR r key).l ++ flatR (R.map (keyR · key)) = (r.l ++ flatR R).filter _
        rw [List.filter_append, keyR_eq (hr r List.mem_cons_self), ih2 fun x hx => hr x (List.mem_cons_of_mem _ hx)]
    rw [e, partsS_cons, List.filter_append, ih, e2 _ (partsR_keys (h l List.mem_cons_self)), partsR_flat]
section
variable {K : Type} {cmp : K → K → Int} {R : K → Prop}
theorem sum_filter (L : Lin cmp R) (p : K → Bool) {k : K} (hk : R k) : ∀ {l : List (K × Int)}, (∀ x ∈ l, R x.1) → sumOf cmp (l.filter fun x => p x.1) k = if p k = true then sumOf cmp l k else 0
  | [], _ => by simp [sumOf]
  | x :: l, hl => by
    have ih := sum_filter L p hk (l := l) fun y hy => hl y (List.mem_cons_of_mem _ hy)
    rw [List.filter_cons]
    by_cases h0 : cmp x.1 k = 0
    · obtain rfl : x.1 = k := (L.eq _ _ (hl x List.mem_cons_self) hk).1 h0
      by_cases hp : p x.1 = true
      · rw [if_pos hp] at ih ⊢
        rw [if_pos hp]
        simp only [sumOf, ih]
      · rw [if_neg hp] at ih ⊢
        rw [if_neg hp]
        exact ih
    · have hs : sumOf cmp (x :: l) k = sumOf cmp l k := by simp only [sumOf, if_neg h0]; omega
      rw [hs, ← ih]
      split
      · simp only [sumOf, if_neg h0]; omega
      · rfl
theorem nz_filter (L : Lin cmp R) (p : K → Bool) {l : List (K × Int)} (hl : ∀ x ∈ l, R x.1) : nz cmp (l.filter fun x => p x.1) = (nz cmp l).filter fun x => p x.1 := by
  refine srt_ext L _ _ (nz_srt L _) ((nz_srt L l).filter _) fun y => ?_
  rw [nz_mem L (fun x hx => hl x (List.mem_filter.1 hx).1), List.mem_filter, nz_mem L hl]
  constructor
  · rintro ⟨h1, h2, h3⟩
    rw [sum_filter L p h1 hl] at h2
    split at h2
    · rename_i hp; exact ⟨⟨h1, h2, h3⟩, hp⟩
    · exact absurd h2 h3
  · rintro ⟨⟨h1, h2, h3⟩, hp⟩
    exact ⟨h1, by rw [sum_filter L p h1 hl, if_pos hp]; exact h2, h3⟩
theorem res_filter (L : Lin cmp R) (p : K → Bool) {l : List (K × Int)} (hl : ∀ x ∈ l, R x.1) (h : resE cmp l = 0) : resE cmp (l.filter fun x => p x.1) = 0 ∧ resL cmp (l.filter fun x => p x.1) = (resL cmp l).filter fun x => p x.1 := by
  have hz := resE_zero h
  have ha : (asm cmp (l.filter fun x => p x.1)).all (fun x => fits x.2) = true := by
    have h2 := hz.2
    rw [fit_all] at h2 ⊢
    rw [nz_filter L p hl, List.all_eq_true]
    exact fun x hx => List.all_eq_true.1 h2 x (List.mem_filter.1 hx).1
  have h0 : resE cmp (l.filter fun x => p x.1) = 0 := by unfold resE; rw [if_pos ha]
  exact ⟨h0, by rw [(resE_zero h0).1, hz.1, nz_filter L p hl]⟩
end
def ofKey (k : List Vl) (l : List Up) : List Up := l.filter fun u => decide (cmpRows u.key k = 0)
theorem ofKey_append (k : List Vl) (a b : List Up) : ofKey k (a ++ b) = ofKey k a ++ ofKey k b := List.filter_append ..
theorem ofKey_p (k : List Vl) (l : List Up) : (ofKey k l).map Up.p = (l.map Up.p).filter fun x => decide (cmpRows x.1.key k = 0) := by
  unfold ofKey
  rw [List.filter_map]
  rfl
theorem ofKey_adv (f : List Tm) (k : List Vl) (l : List Up) : advL f (ofKey k l) = ofKey k (advL f l) := by
  unfold ofKey advL
  rw [List.filter_map]
  rfl
theorem group_all {f : List Tm} {X e : List Up} (k : List Vl) (h : consE [advL f X] = 0) (he : e.map Up.p = consL [advL f X]) : consE [advL f (ofKey k X)] = 0 ∧ consL [advL f (ofKey k X)] = (ofKey k e).map Up.p := by
  obtain ⟨h1, h2, h3⟩ := cons_chk h
  have hl : chkUs (advL f X) = 0 := chkLs_all.1 h1 _ (by simp)
  simp only [List.flatten_cons, List.flatten_nil, List.append_nil] at h2 h3
  have hR := keys_right (chkUs_all.1 hl)
  have hc : chkLs [advL f (ofKey k X)] = 0 := chkLs_all.2 fun m hm => by
    obtain rfl : m = advL f (ofKey k X) := (by simpa using hm)
    rw [ofKey_adv]
    exact chkUs_all.2 fun u hu => chkUs_all.1 hl u (List.mem_filter.1 hu).1
  obtain ⟨r1, r2⟩ := res_filter uk_lin (fun x : Uk => decide (cmpRows x.key k = 0)) hR h2
  unfold consE consL
  rw [if_pos hc, if_pos hc]
  simp only [List.flatten_cons, List.flatten_nil, List.append_nil]
  rw [ofKey_adv, ofKey_p, ofKey_p, r1, r2, he, h3]
  exact ⟨rfl, rfl⟩
theorem ofKey_idem (k : List Vl) (l : List Up) : ofKey k (ofKey k l) = ofKey k l := by unfold ofKey; rw [List.filter_filter]; congr 1; funext u; simp
theorem ofKey_like {k k' : List Vl} (h : cmpRows k k' = 0) (l : List Up) : ofKey k l = ofKey k' l := by
  unfold ofKey
  refine List.filter_congr fun u _ => ?_
  have h1 := row_lin.zero (c := u.key) h
  have s1 := row_lin.swap u.key k
  have s2 := row_lin.swap u.key k'
  have e : cmpRows u.key k = 0 ↔ cmpRows u.key k' = 0 := by constructor <;> intro h2 <;> omega
  simp only [e]
theorem grp_key {f : List Tm} {P e : List Up} {k : List Vl} (h : consE [advL f (ofKey k P)] = 0) (he : e.map Up.p = consL [advL f (ofKey k P)]) : ∀ u ∈ e, cmpRows u.key k = 0 := by
  have h1 := (group_all k h he).2
  rw [ofKey_idem] at h1
  have h2 := congrArg List.length (he.trans h1)
  rw [List.length_map, List.length_map] at h2
  intro u hu
  have h3 := (List.length_filter_eq_length_iff (p := fun u : Up => decide (cmpRows u.key k = 0)) (l := e)).1 h2.symm u hu
  exact of_decide_eq_true h3
theorem ofKey_none {key : List Vl} : ∀ {l : List Up}, (∀ u ∈ l, cmpRows u.key key ≠ 0) → ofKey key l = [] := fun {l} h => List.filter_eq_nil_iff.2 fun u hu => by simp [h u hu]
theorem ofKey_every {key : List Vl} : ∀ {l : List Up}, (∀ u ∈ l, cmpRows u.key key = 0) → ofKey key l = l := fun {l} h => List.filter_eq_self.2 fun u hu => by simp [h u hu]
theorem match_flat : ∀ (ks : List (Rw Vl)) (bs : List Bt), bs.length = ks.length → (∀ (i : Nat) (k : Rw Vl) (b : Bt), ks[i]? = some k → bs[i]? = some b → ∀ u ∈ b.l, cmpRows u.key k.l = 0) → ks.Pairwise (fun a b => cmpRows a.l b.l < 0) → ∀ (key : List Vl) (i : Nat) (k : Rw Vl) (b : Bt), ks[i]? = some k → bs[i]? = some b → cmpRows k.l key = 0 → ofKey key (bs.flatMap Bt.l) = b.l
  | [], _, _, _, _, _, _, _, _, hk, _, _ => by simp at hk
  | _ :: _, [], h, _, _, _, _, _, _, _, _, _ => by simp at h
  | k0 :: ks, b0 :: bs, hl, hg, hp, key, i, k, b, hk, hb, hc => by
    have h1 := List.pairwise_cons.1 hp
    have hl' : bs.length = ks.length := by simpa using hl
    have hg' : ∀ (i : Nat) (k : Rw Vl) (b : Bt), ks[i]? = some k → bs[i]? = some b → ∀ u ∈ b.l, cmpRows u.key k.l = 0 := fun i k b h2 h3 => hg (i + 1) k b h2 h3
    rw [List.flatMap_cons, ofKey_append]
    have hg0 := hg 0 k0 b0 rfl rfl
    match i, hk, hb with
    | 0, hk, hb =>
      obtain rfl : k0 = k := by simpa using hk
      obtain rfl : b0 = b := by simpa using hb
      rw [ofKey_every fun u hu => rows_eq0 (hg0 u hu) hc, ofKey_none, List.append_nil]
      intro u hu h0
      obtain ⟨bj, hbj, hu⟩ := List.mem_flatMap.1 hu
      obtain ⟨j, hj⟩ := List.getElem?_of_mem hbj
      have hjl : j < ks.length := by rw [← hl']; exact (List.getElem?_eq_some_iff.1 hj).1
      have hkj : ks[j]? = some ks[j] := List.getElem?_eq_getElem hjl
      have h3 := hg' j _ bj hkj hj u hu
      have h4 := h1.1 ks[j] (List.getElem_mem hjl)
      have s1 := row_lin.swap u.key key
      have h5 : cmpRows k0.l ks[j].l = 0 := rows_eq0 (rows_eq0 hc (show cmpRows key u.key = 0 by omega)) h3
      omega
    | i + 1, hk, hb =>
      have hk' : ks[i]? = some k := hk
      have hb' : bs[i]? = some b := hb
      rw [match_flat ks bs hl' hg' h1.2 key i k b hk' hb' hc, ofKey_none, List.nil_append]
      intro u hu h0
      have h3 := hg0 u hu
      have h4 := h1.1 k (List.mem_of_getElem? hk')
      have s1 := row_lin.swap u.key k0.l
      have s2 := row_lin.swap k.l key
      have h5 : cmpRows k0.l k.l = 0 := rows_eq0 (rows_eq0 (show cmpRows k0.l u.key = 0 by omega) h0) (show cmpRows key k.l = 0 by omega)
      omega
theorem match_len : ∀ (ks : List (Rw Vl)) (bs : List Bt) (P : List Up), bs.length = ks.length → (∀ (i : Nat) (k : Rw Vl) (b : Bt), ks[i]? = some k → bs[i]? = some b → b.l.length ≤ (ofKey k.l P).length) → ks.Pairwise (fun a b => cmpRows a.l b.l < 0) → (bs.flatMap Bt.l).length ≤ P.length
  | [], [], _, _, _, _ => Nat.zero_le _
  | [], _ :: _, _, h, _, _ => by simp at h
  | _ :: _, [], _, h, _, _ => by simp at h
  | k0 :: ks, b0 :: bs, P, hl, hg, hp => by
    have h1 := List.pairwise_cons.1 hp
    have hl' : bs.length = ks.length := by simpa using hl
    have hg0 := hg 0 k0 b0 rfl rfl
    have ih := match_len ks bs (P.filter fun u => !decide (cmpRows u.key k0.l = 0)) hl' (fun i k b hk hb => by
      have h2 := hg (i + 1) k b hk hb
      have e : ofKey k.l (P.filter fun u => !decide (cmpRows u.key k0.l = 0)) = ofKey k.l P := by
        unfold ofKey
        rw [List.filter_filter]
        refine List.filter_congr fun u _ => ?_
        by_cases h3 : cmpRows u.key k.l = 0
        · have h4 := h1.1 k (List.mem_of_getElem? hk)
          have h5 : cmpRows u.key k0.l ≠ 0 := fun h6 => by
            have s1 := row_lin.swap u.key k0.l
            have : cmpRows k0.l k.l = 0 := rows_eq0 (show cmpRows k0.l u.key = 0 by omega) h3
            omega
          simp [h3, h5]
        · simp [h3]
      rw [e]
      exact h2) h1.2
    have h2 : P.length = (P.filter fun u => decide (cmpRows u.key k0.l = 0)).length + (P.filter fun u => !decide (cmpRows u.key k0.l = 0)).length := by
      rw [← List.countP_eq_length_filter, ← List.countP_eq_length_filter]
      have e : (fun u : Up => !decide (cmpRows u.key k0.l = 0)) = (fun u : Up => decide ¬ (decide (cmpRows u.key k0.l = 0)) = true) := by
        funext u
        by_cases h : cmpRows u.key k0.l = 0 <;> simp [h]
      rw [e]
      exact List.length_eq_countP_add_countP _
    rw [List.flatMap_cons, List.length_append]
    have h3 : b0.l.length ≤ (P.filter fun u => decide (cmpRows u.key k0.l = 0)).length := hg0
    omega
def MatchOk (f : List Tm) (P l oth : List Up) : Prop := ∀ x ∈ l, consE [advL f (ofKey x.key P)] = 0 ∧ (ofKey x.key oth).map Up.p = consL [advL f (ofKey x.key P)]
theorem match_ok {f : List Tm} {L : List Lv} {l : List Up} {ks : List (Rw Vl)} {bs : List Bt} (hg : SpGood f L) (hk : KeysOf l ks) (hb : GrpOk f L ks bs) : MatchOk f (partsS L) l (bs.flatMap Bt.l) ∧ (bs.flatMap Bt.l).length ≤ (partsS L).length ∧ chkUs (bs.flatMap Bt.l) = 0 := by
  have hp : ∀ k : Rw Vl, partsK k.l L = ofKey k.l (partsS L) := fun k => partsK_eq k.l hg.each
  have hall : ∀ (i : Nat) (k : Rw Vl) (b : Bt), ks[i]? = some k → bs[i]? = some b → consE [advL f (ofKey k.l (partsS L))] = 0 ∧ b.l.map Up.p = consL [advL f (ofKey k.l (partsS L))] := fun i k b h1 h2 => by
    obtain ⟨h3, h4⟩ := hb.2 i k b h1 h2
    rw [hp] at h3 h4
    unfold bldE at h3
    rw [if_pos (show chk f = 0 ∧ frontL f = f from hg.front)] at h3
    exact ⟨h3, h4⟩
  refine ⟨fun x hx => ?_, match_len ks bs (partsS L) hb.1 (fun i k b h1 h2 => ?_) hk.asc, chkUs_all.2 fun u hu => ?_⟩
  · obtain ⟨k, hkm, hc⟩ := hk.all x hx
    obtain ⟨i, hi⟩ := List.getElem?_of_mem hkm
    have hib : i < bs.length := by rw [hb.1]; exact (List.getElem?_eq_some_iff.1 hi).1
    have hbi : bs[i]? = some bs[i] := List.getElem?_eq_getElem hib
    obtain ⟨h1, h2⟩ := hall i k _ hi hbi
    rw [match_flat ks bs hb.1 (fun i k b h3 h4 => grp_key (hall i k b h3 h4).1 (hall i k b h3 h4).2) hk.asc x.key i k _ hi hbi hc, ← ofKey_like hc]
    exact ⟨h1, h2⟩
  · have h3 := congrArg List.length (hall i k b h1 h2).2
    have h4 := consL_len [advL f (ofKey k.l (partsS L))]
    rw [List.length_map] at h3
    simp only [List.flatten_cons, List.flatten_nil, List.append_nil] at h4
    have h5 : (advL f (ofKey k.l (partsS L))).length = (ofKey k.l (partsS L)).length := List.length_map ..
    omega
  · obtain ⟨b, hb', hu⟩ := List.mem_flatMap.1 hu
    obtain ⟨i, hi⟩ := List.getElem?_of_mem hb'
    have hik : i < ks.length := by rw [← hb.1]; exact (List.getElem?_eq_some_iff.1 hi).1
    obtain ⟨h1, h2⟩ := hall i _ b (List.getElem?_eq_getElem hik) hi
    exact chkUs_all.1 (cons_even h1 h2).2.2 u hu
structure KI (base : Nat) (ks : List (Rw Vl)) (v : Value) (wr : World) : Prop where
  own : wr.ownsRow base 47 1 v ks.length (ks.flatMap Rw.cells)
  in_ : ∀ k ∈ ks, Vals wr wr.heap.size k.A k.l ∧ OfT (fun b => v.ownBlock = some b) k.A k.l.length
theorem KI.keep {base : Nat} {ks : List (Rw Vl)} {v : Value} {w w' : World} (h : KI base ks v w) (hb : Below w.heap.size w w') : KI base ks v w' := ⟨own_below h.own hb, fun k hk => ⟨((h.in_ k hk).1.past hb (Nat.le_refl _)).wide hb.size, (h.in_ k hk).2⟩⟩
theorem KI.push {base : Nat} {ks : List (Rw Vl)} {k : Rw Vl} {v v' : Value} {w w' : World} (h : KI base ks v w) (hk : Vals w w.heap.size k.A k.l) (lk : OfT (fun b => v.ownBlock = some b) k.A k.l.length) (ho : w'.ownsRow base 47 1 v' (ks.length + 1) (ks.flatMap Rw.cells ++ #[Value.slice k.A k.l.length k.c].toList)) (hv : v'.ownBlock = v.ownBlock ∨ v'.ownBlock = some (w.heap.size + 1)) (hg : w.grownBy w' v.ownBlock) : KI base (ks ++ [k]) v' w' := by
  have hall : ∀ x ∈ ks ++ [k], Vals w w.heap.size x.A x.l ∧ OfT (fun b => v.ownBlock = some b) x.A x.l.length := fun x hx => by
    rcases List.mem_append.1 hx with hx | hx
    · exact h.in_ x hx
    · rw [List.mem_singleton.1 hx]; exact ⟨hk, lk⟩
  refine ⟨by rw [List.length_append, List.flatMap_append]; exact ho, fun x hx => ?_⟩
  obtain ⟨h1, h2⟩ := hall x hx
  refine ⟨vals_kept h1 h2 (KeptK.of_grown (S := fun k => v.ownBlock = some k) hg fun k e => e), ?_⟩
  rcases hv with e | e
  · rw [e]; exact h2
  · rw [e]
    exact (vals_in h1).less fun k hk => by have : w.heap.size + 1 = k := Option.some.inj hk; omega
def KeysSays (l : List Up) (w : World) (x : Ending) (w' : World) : Prop :=
  ∃ (A' : Option Addr) (c' : Nat) (ks : List (Rw Vl)), x = .returned (.slice A' ks.length c') ∧ KLs w' w'.heap.size A' ks ∧ KeysOf l ks ∧ Below w.heap.size w w'
theorem sortV_none (A : Option Addr) (c : Nat) (w : World) :
    Calls Tryz.prog 101 #[.slice A 0 c, .func (.func 73) #[] #[]] w fun e w' => e = .returned (.tuple #[]) ∧ w' = w :=
  AnyF.slices_SortFunc_none { Tryz.sortV with } A c _ w
theorem compact_small (A : Option Addr) (n c : Nat) (w : World) (h2 : n < 2) :
    Calls Tryz.prog 102 #[.slice A n c, .func (.func 103) #[] #[]] w fun e w' => e = .returned (.slice A n c) ∧ w' = w := by
  have t1 : decide ((n : Int) < 2) = true := decide_eq_true (by omega)
  go_enter Tryz.func102, Tryz.ntmps102
  go_wp2_with fail
  go_ret
  exact ⟨rfl, rfl⟩
theorem compact_all (G c : Nat) (L : List (Rw Vl)) (w : World) (ho : RowV kval w G L) (hGi : G < w.heap.size) (hl : L.length ≤ c) (hc : c ≤ maxLen) (hin : ∀ r ∈ L, KeyIn w G r) :
    Calls Tryz.prog 102 #[.slice (some ⟨G, 0, none⟩) L.length c, .func (.func 103) #[] #[]] w fun e w' => e = .returned (.slice (some ⟨G, 0, none⟩) (dedK L).length c) ∧ Lies 1 Rw.cells w' w'.heap.size (some ⟨G, 0, none⟩) (dedK L) ∧ KeptK w w' (fun b => b = G) := by
  by_cases h2 : 2 ≤ L.length
  · exact compact_row G c L w ho hGi hl hc h2 hin
  · have e : dedK L = L := by
      match L, h2 with
      | [], _ => rfl
      | [x], _ => rfl
      | _ :: _ :: _, h2 => simp at h2
    refine (compact_small (some ⟨G, 0, none⟩) L.length c w (by omega)).mono ?_
    rintro x w' ⟨rfl, rfl⟩
    rw [e]
    exact ⟨rfl, rowV_lies ho hGi, KeptK.refl _ _⟩
theorem row_rowV {w : World} {base n c G : Nat} {ks : List (Rw Vl)} (h : w.ownsRow base 47 1 (.slice (some ⟨G, 0, none⟩) n c) n (ks.flatMap Rw.cells)) (hn : n = ks.length) : RowV kval w G ks ∧ G < w.heap.size := by
  subst hn
  rcases row_ownK h with ⟨h0, _⟩ | ⟨G', cur, hA, hb, hg, _, _, _, ht⟩
  · cases h0
  · obtain rfl : G = G' := by simpa using hA
    refine ⟨fun i x hx => ⟨?_, hg.open_ i⟩, hg.inside⟩
    have hi := (List.getElem?_eq_some_iff.1 hx).1
    rw [flat_kval] at ht
    have e : (cur.take (ks.length * 1))[i]? = some (kval x) := by rw [ht, List.getElem?_map, hx]; rfl
    rw [List.getElem?_take] at e
    split at e
    · rw [hg.at_]; exact e
    · cases e
set_option maxRecDepth 100000 in
set_option maxHeartbeats 12800000 in
theorem keys_any (A : Option Addr) (c : Nat) (l : List Up) (w : World) (hl : Ups w w.heap.size A l) (ol : ∀ u ∈ l, UOk u) (hn : l.length ≤ 1099511627776) (h8 : ∀ u ∈ l, u.key.length ≤ 1099511627776) :
    Calls Tryz.prog 66 #[.slice A l.length c] w (KeysSays l w) := by
  obtain ⟨i0, hi, hz0, hz1, hz2⟩ := info_parts infoKs
  have HI := Lib.hid (And.intro Tryz.underlying114 (And.intro hi (And.intro hz0 (And.intro hz1 hz2))))
  have H := Lib.hid (And.intro hl ol)
  have HP := Lib.hid (show ∀ (A' : Option Addr) (c' : Nat) (ks : List (Rw Vl)) w', KLs w' w'.heap.size A' ks → KeysOf l ks → Below w.heap.size w w' → KeysSays l w (.returned (.slice A' ks.length c')) w' from fun A' c' ks w' h1 h2 h3 => ⟨A', c', ks, rfl, h1, h2, h3⟩)
  clear hl ol hi hz0 hz1 hz2
  go_enter Tryz.func66, Tryz.ntmps66
  go_wp2_with fail
  go_loopw [3, 8] (fun v i wr => ∃ (k : Nat) (ks : List (Rw Vl)), i = .int .i64 (k : Int) ∧ k ≤ l.length ∧ KI w.heap.size ks v wr ∧ ks.map Rw.l = (l.take k).map Up.key ∧ Below w.heap.size w wr)
    (fun _ i _ => l.length - (intOf i).toNat)
  case atStart => exact ⟨0, [], rfl, by omega, ⟨World.ownsRow_nil w w.heap.size 47 1, fun k hk => by cases hk⟩, rfl, Below.refl _ _⟩
  case round =>
    obtain ⟨k, ks, rfl, hk, hki, hkm, hb⟩ := hrel
    have hkl : ks.length = k := by have := congrArg List.length hkm; rw [List.length_map, List.length_map, List.length_take] at this; omega
    by_cases hlt : k < l.length
    · obtain ⟨u, hu⟩ : ∃ u, l[k]? = some u := ⟨_, List.getElem?_eq_getElem hlt⟩
      have hum := List.mem_of_getElem? hu
      obtain ⟨b, o, hA, hB, hc⟩ := lies_up H.out.1.head (by omega)
      obtain ⟨c0, c1, c2, c3, c4, c5⟩ := (hc k u hu).six
      have g0 := (hb.cell (p := ⟨b, o + k * 6, none⟩) hB).trans c0
      have g1 := (hb.cell (p := ⟨b, o + k * 6 + 1, none⟩) hB).trans c1
      have g2 := (hb.cell (p := ⟨b, o + k * 6 + 2, none⟩) hB).trans c2
      have g3 := (hb.cell (p := ⟨b, o + k * 6 + 3, none⟩) hB).trans c3
      have g4 := (hb.cell (p := ⟨b, o + k * 6 + 4, none⟩) hB).trans c4
      have g5 := (hb.cell (p := ⟨b, o + k * 6 + 5, none⟩) hB).trans c5
      obtain ⟨V5, hV5, hs5, bb5, o5⟩ := boxd wr [.slice u.kA u.key.length u.kc, .slice u.rA u.row.length u.rc, .int .u64 (u.t.e : Int), .int .u64 (u.t.a : Int), .int .u64 (u.t.b : Int), .int .i64 u.d] 49
      have hv5 : Vals V5 V5.heap.size u.kA u.key := (((H.out.1.each_ u hum).key.past (belows hb bb5) (Nat.le_refl _)).wide (belows hb bb5).size)
      have u1 := Lib.hid (listV_any u.kA u.kc u.key V5 hv5 (by have := h8 u hum; omega))
      have htk : (l.take (k + 1)).map Up.key = (l.take k).map Up.key ++ [u.key] := by rw [List.take_add_one, hu, List.map_append]; rfl
      have HA := Lib.hid hA
      have HK := Lib.hid (And.intro hki (And.intro hkm (And.intro hb (And.intro bb5 htk))))
      have q0 : (0 : Int) ≤ (k : Int) := by omega
      have q1 : (k : Int) < (l.length : Int) := by omega
      obtain ⟨d0, d1, d2, d3, d4, d5⟩ := own6 o5
      rw [hA]
      clear hki hkm hb bb5 htk hv5 o5 hs5 hu hum hc c0 c1 c2 c3 c4 c5 hA hB
      go_upto_region 5 with fail
      rw [← hV5]
      clear hV5 g0 g1 g2 g3 g4 g5
      go_wp2_with fail
      refine u1.out.mono ?_
      rintro _ w6 ⟨A6, c6, rfl, v6, n6, b6⟩
      have b56 := belows HK.out.2.2.2.1 b6
      have hki6 := HK.out.1.keep b56
      have hlk : OfT (fun b => Value.ownBlock _ = some b) A6 u.key.length := fun _ b o e hs => by
        have h1 := (n6 b o e).1
        have h2 := (HK.out.1.own.lt b hs).2
        have h3 := HK.out.2.2.2.1.size
        omega
      have HM := Lib.hid (And.intro hki6 (And.intro v6 (And.intro hlk (HK.out.2.2.1.trans (b56.mono HK.out.2.2.1.size)))))
      clear v6 n6 b6 b56 hki6 hlk u1 d0 d1 d2 d3 d4 d5
      go_wp2_with (at_builtin; refine wpList_push _ rfl _ _ 114 rfl w.heap.size 47 i0 _ 1 24 HI.out.1 HI.out.2.1 HI.out.2.2.1 HI.out.2.2.2.1 HI.out.2.2.2.2 rfl (by decide) _ _ _ rfl HM.out.1.own #[.slice A6 u.key.length c6] rfl rfl ?k1 ?k2 ?k3 ?k4 ?_)
      case k1 => rfl
      case k2 => unfold maxLen; omega
      case k3 => omega
      case k4 => exact HM.out.2.2.2.size
      intro v4 w4 ho4 hb4 hv4 hg4
      rw [← hkl] at ho4
      have hp4 := HM.out.1.push (k := ⟨A6, c6, u.key⟩) HM.out.2.1 HM.out.2.2.1 ho4 hv4 hg4
      have H4 := Lib.hid (And.intro hp4 (HM.out.2.2.2.trans hb4))
      clear ho4 hb4 hv4 hg4 hp4
      go_wp2_with fail
      go_roundw
      case rel => exact ⟨k + 1, ks ++ [⟨A6, c6, u.key⟩], by go_num, by omega, H4.out.1, by rw [List.map_append, HK.out.2.1, HK.out.2.2.2.2]; rfl, H4.out.2⟩
      case measure => simp [intOf]; omega
    · have hk2 : k = l.length := by omega
      subst hk2
      rw [List.take_length] at hkm
      obtain ⟨A7, k7, hv7, hle7, hm7, hl7⟩ := lies_of_own (size := 1) (cells := Rw.cells) (l := ks) (by decide) (fun _ => rfl) rfl hki.own
      subst hv7
      by_cases h0 : ks = []
      · subst h0
        have y1 := Lib.hid (sortV_none A7 k7 wr)
        have y2 := Lib.hid (compact_small A7 0 k7 wr (by decide))
        have hl0 : l.length = 0 := hkl.symm
        have HB := Lib.hid (And.intro hb (List.eq_nil_of_length_eq_zero hl0))
        have hn1 : ¬ ((l.length : Int) < (l.length : Int)) := by omega
        clear hki hkm hl7 hb hl0 hkl hk hlt hle7
        go_wp2_with fail
        refine y1.out.mono ?_
        rintro _ w2 ⟨rfl, rfl⟩
        go_wp2_with fail
        refine y2.out.mono ?_
        rintro _ w3 ⟨rfl, rfl⟩
        go_wp2_with fail
        go_ret
        have hl0 := HB.out.2
        subst hl0
        exact HP.out A7 k7 [] _ ⟨Lies.nil_, fun k hk => by cases hk⟩ ⟨List.Pairwise.nil, fun u hu => (by cases hu), fun k hk => (by cases hk), Nat.le_refl _⟩ HB.out.1
      · have hpos : 0 < ks.length := List.length_pos_iff.2 h0
        rcases row_ownK hki.own with ⟨_, h9, _⟩ | ⟨G, cur, hA, hGb, _⟩
        · omega
        subst hA
        obtain ⟨hrow, hG⟩ := row_rowV hki.own rfl
        have hkin : ∀ r ∈ ks, KeyIn wr G r := fun r hr => ⟨(hki.in_ r hr).1, (hki.in_ r hr).2.less fun b e => by rw [e]; rfl, by
          have h1 : r.l ∈ l.map Up.key := by rw [← hkm]; exact List.mem_map_of_mem hr
          obtain ⟨u, hu, e⟩ := List.mem_map.1 h1
          rw [← e]
          have := h8 u hu
          unfold maxLen; omega⟩
        have y1 := Lib.hid (sortV_any G k7 ks wr hrow hG hkin hpos (by omega))
        have HM := Lib.hid (And.intro hb (And.intro hkm (And.intro hkin (And.intro hle7 (And.intro hm7 (And.intro hG hGb))))))
        have hn1 : ¬ ((l.length : Int) < (l.length : Int)) := by omega
        clear hki hkm hl7 hb hrow hG hkin hle7 hm7 hGb hkl hk hlt
        go_wp2_with fail
        refine y1.out.mono ?_
        rintro _ w2 ⟨rfl, ls, hp, hs, hr2, hb2, ho2⟩
        have hk2 : KeptK wr w2 (fun b => b = G) := ⟨hb2.os, hb2.tape, hb2.output, hb2.size, fun k hk h1 => ho2 k h1 hk⟩
        have hlen := hp.length_eq
        have hkin2 : ∀ r ∈ ls, KeyIn w2 G r := fun r hr => by
          have h1 := HM.out.2.2.1 r (hp.mem_iff.1 hr)
          exact ⟨vals_kept h1.in_ h1.off hk2, h1.off, h1.n⟩
        have y2 := Lib.hid (compact_all G k7 ls w2 hr2 (Nat.lt_of_lt_of_le HM.out.2.2.2.2.2.1 hb2.size) (by rw [hlen]; exact HM.out.2.2.2.1) HM.out.2.2.2.2.1 hkin2)
        rw [hlen] at y2
        have H2 := Lib.hid (And.intro hk2 (And.intro hkin2 (keys_of HM.out.2.1 hp hs)))
        clear hp hs hr2 hb2 ho2 hk2 hlen hkin2 y1
        go_wp2_with fail
        refine y2.out.mono ?_
        rintro _ w3 ⟨rfl, hl3, hk3⟩
        have HF := Lib.hid (show KLs w3 w3.heap.size (some ⟨G, 0, none⟩) (dedK ls) from ⟨hl3, fun k hk => vals_kept (H2.out.2.1 k (ded_sub k hk)).in_ (H2.out.2.1 k (ded_sub k hk)).off hk3⟩)
        have hbb : Below w.heap.size w w3 := HM.out.1.trans ((H2.out.1.below (fun b e => by rw [e]; exact HM.out.2.2.2.2.2.2) HM.out.1.size).trans (hk3.below (fun b e => by rw [e]; exact HM.out.2.2.2.2.2.2) (Nat.le_trans HM.out.1.size H2.out.1.size)))
        have HBB := Lib.hid hbb
        clear hl3 hk3 hbb y2
        go_wp2_with fail
        go_ret
        exact HP.out _ _ (dedK ls) _ HF.out H2.out.2.2 HBB.out
end Go.Proofs.YtjffohpdjicfpaaGreat
