/- The schema of a plan, as Infer tells it. -/
import Derived.Test.YtjidjpmdmcleoaaPInC
namespace Go.Proofs.Ytjidjpmdmcleoaa
open Go Go.RowKit

theorem pinfer_all (M : Nat) (srcL : List (Sl Int)) (A0 : Option Addr) (c0 : Nat) : ∀ n, PInC M srcL A0 c0 n
  | 0 => fun p _ _ _ _ _ _ _ _ _ hp => by have := hp.good; cases this
  | n + 1 => fun p ls lA lc L u b o g w hp hat hbg hsr hlp hML htb ho => by
    by_cases h1 : p.kind = 1
    · exact pinfer_leaf M srcL A0 c0 n p (.inl h1) ls lA lc L u b o g w hat hbg hsr hlp ho
    by_cases h2 : p.kind = 2
    · exact pinfer_leaf M srcL A0 c0 n p (.inr h2) ls lA lc L u b o g w hat hbg hsr hlp ho
    by_cases h3 : p.kind = 10
    · exact pinfer_iter M srcL A0 c0 n (pinfer_all M srcL A0 c0 n) p h3 ls lA lc L u b o g w hp hat hbg hsr hlp hML htb ho
    exact pinfer_node M srcL A0 c0 n (pinfer_all M srcL A0 c0 n) p ⟨h1, h2, h3⟩ ls lA lc L u b o g w hp hat hbg hsr hlp hML htb ho
/-- a plan whose numbers fit, that lies in the memory, and is not too great -/
structure PFine (M : Nat) (p : Px) (w : World) : Prop where
  ok : PxOk 17 p
  in_ : PxIn w w.heap.size 17 p
  sm : PSm M 16 p
  wm : PWm M 16 p
  cnt : cntP 17 p < 4611686018427387904
theorem PFine.next {M : Nat} {p : Px} {w w' : World} (h : PFine M p w) (hb : Below w.heap.size w w') : PFine M p w' := ⟨h.ok, pxIn_keep h.in_ hb, h.sm, h.wm, h.cnt⟩
structure SFine (M : Nat) (srcL : List (Sl Int)) (A0 : Option Addr) (w : World) : Prop where
  ll : LL 1 tcell w w.heap.size A0 srcL
  len : ∀ s ∈ srcL, s.l.length ≤ M
  many : srcL.length ≤ 1099511627776
theorem SFine.next {M : Nat} {srcL : List (Sl Int)} {A0 : Option Addr} {w w' : World} (h : SFine M srcL A0 w) (hb : Below w.heap.size w w') : SFine M srcL A0 w' := ⟨(h.ll.past hb (Nat.le_refl _)).wide hb.size, h.len, h.many⟩
def InferPost (src : List (List Int)) (p : Px) (w : World) (x : Ending) (w' : World) : Prop :=
  ∃ A' c', x = .returned (.tuple #[.slice A' (inferP src p).1.length c', .int .i64 (inferP src p).2]) ∧ Tys w' w'.heap.size A' (inferP src p).1 ∧ Below w.heap.size w w'
theorem inferPost_no {src : List (List Int)} {p : Px} {w w' : World} {e : Int} (h : inferP src p = ([], e)) (hb : Below w.heap.size w w') : InferPost src p w (.returned (.tuple #[.slice none 0 0, .int .i64 e])) w' :=
  ⟨none, 0, by rw [h]; rfl, by rw [h]; exact fun h => absurd h (by simp), hb⟩
theorem inferPost_of {src : List (List Int)} {p : Px} {w w' : World} {l : List Int} {A' : Option Addr} {c' : Nat} (h : inferP src p = (l, 0)) (ht : Tys w' w'.heap.size A' l) (hb : Below w.heap.size w w') : InferPost src p w (.returned (.tuple #[.slice A' l.length c', .int .i64 0])) w' :=
  ⟨A', c', by rw [h], by rw [h]; exact ht, hb⟩
theorem ptbox (w : World) (u : Int) (A : Option Addr) (n c : Nat) : ∃ W, W = w.alloc (.cells #[.int .i64 u, .slice A n c] 80) ∧ Below w.heap.size w W ∧ W.heap.size = w.heap.size + 1 ∧ Own W w.heap.size 80 (evL u A n c) :=
  ⟨_, rfl, (Below.refl _ _).alloc (Nat.le_refl _) _, by simp, by have := Own.made w 80 (evL u A n c); simpa [evL] using this⟩
set_option maxRecDepth 100000 in
set_option maxHeartbeats 6400000 in
theorem inferP_any (M : Nat) (hM : M ≤ 8388608) (p : Px) (srcL : List (Sl Int)) (A0 : Option Addr) (c0 : Nat) (w : World) (hp : PFine M p w) (hs : SFine M srcL A0 w) :
    Calls Try.prog 20 #[p.val, .slice A0 srcL.length c0] w (InferPost (schs srcL) p w) := by
  have hC := fun W (h : SFine M srcL A0 W) => Lib.hid (chkS_any A0 c0 srcL W h.ll (fun s hs => by have := h.len s hs; unfold maxLen; omega) (by have := h.many; unfold maxLen; omega))
  have hK := fun W (h : PFine M p W) => Lib.hid (checkP_any p W h.ok h.in_)
  obtain ⟨W, hW, fb, hsz, fk⟩ := pxbox w p
  have HB := Lib.hid (And.intro fb (And.intro (hp.next fb) (And.intro (hs.next fb) fk)))
  have hI := Lib.hid (show inferP (schs srcL) p = if chkS (schs srcL) = 0 then (if checkP p = 0 then (if (pinf (schs srcL) 17 p [] 0).2 = 0 then ((pinf (schs srcL) 17 p [] 0).1, 0) else ([], (pinf (schs srcL) 17 p [] 0).2)) else ([], checkP p)) else ([], chkS (schs srcL)) from rfl)
  have hck := fun h => ((checkP_ok p hp.cnt).1.1 h)
  have Hck := Lib.hid hck
  obtain ⟨S, hS⟩ : ∃ S, chkS (schs srcL) = S := ⟨_, rfl⟩
  obtain ⟨K, hKe⟩ : ∃ K, checkP p = K := ⟨_, rfl⟩
  have hCS := hC
  unfold schs at hS
  simp only [hS] at hC
  rw [hKe] at Hck
  simp only [hKe] at hK
  rw [show chkS (schs srcL) = S from hS, hKe] at hI
  clear hp hs fb fk hck hCS hS hKe
  unfold Px.val at hK ⊢
  go_enter Try.func20, Try.ntmps20
  go_upto_region 1 with fail
  rw [← hW]
  clear hW
  go_wp2_with fail
  refine (hC _ HB.out.2.2.1).out.mono ?_
  rintro _ w1 ⟨rfl, b1⟩
  have H1 := Lib.hid (And.intro (belows HB.out.1 b1) (And.intro (HB.out.2.1.next b1) (And.intro (HB.out.2.2.1.next b1) (HB.out.2.2.2.past b1 HB.out.2.2.2.inside))))
  have hb1 := hsz
  clear b1 hC
  by_cases hS : S = 0
  case neg =>
    have t1 : (S != 0) = true := bne_iff_ne.2 hS
    have HR := Lib.hid (hI.out.trans (if_neg hS))
    clear hS hI
    go_wp2_with fail
    go_ret2
    exact inferPost_no HR.out H1.out.1
  have hI1 := Lib.hid (hI.out.trans (if_pos hS))
  subst hS
  clear hI
  obtain ⟨x0, x1, x2, x3, x4, x5, x6, x7⟩ := (pxAt_own H1.out.2.2.2).eight
  simp only [Nat.zero_add] at x0 x1 x2 x3 x4 x5 x6 x7
  go_wp2_with fail
  refine (hK _ H1.out.2.1).out.mono ?_
  rintro _ w2 ⟨rfl, b2⟩
  have H2 := Lib.hid (And.intro (belows H1.out.1 b2) (And.intro (H1.out.2.1.next b2) (And.intro (H1.out.2.2.1.next b2) (H1.out.2.2.2.past b2 H1.out.2.2.2.inside))))
  clear b2 hK x0 x1 x2 x3 x4 x5 x6 x7
  by_cases hK0 : K = 0
  case neg =>
    have t1 : (K != 0) = true := bne_iff_ne.2 hK0
    have HR := Lib.hid (hI1.out.trans (if_neg hK0))
    clear hK0 hI1
    go_wp2_with fail
    go_ret2
    exact inferPost_no HR.out H2.out.1
  have hI2 := Lib.hid (hI1.out.trans (if_pos hK0))
  have hg := Hck.out hK0
  subst hK0
  obtain ⟨V, hV, vb, vs, vo⟩ := ptbox w2 0 A0 srcL.length c0
  have hfu := pinf_fuel (schs srcL) 16 17 p [] 0 (by omega) hg.1
  rw [hfu] at hI2
  have hin2 := H2.out.2.1.in_
  have hll2 := H2.out.2.2.1.ll
  have hbx := H2.out.2.2.2.inside
  have htb : tb (cntP 16 p) * M ≤ 1099511627776 := Nat.le_trans (Nat.mul_le_mul (Nat.le_trans (tb_mono hg.2.1 (Nat.le_refl _)) tb_most) hM) (by decide)
  have hlen := pinf_len (schs srcL) M 16 p [] 0 M (fun s hs => by obtain ⟨y, hy, rfl⟩ := List.mem_map.1 hs; exact H2.out.2.2.1.len y hy) (fun s hs => by cases hs) (Nat.le_refl _) H2.out.2.1.sm hg.1 hg.2.1
  have hcall := Lib.hid (pinfer_all M srcL A0 c0 16 p [] none 0 M 0 w.heap.size 0 w2.heap.size V ⟨hg.1, H2.out.2.1.ok.less (by omega), (hin2.less (by omega)).past vb (Nat.le_refl _), hg.2.1, H2.out.2.1.sm, H2.out.2.1.wm⟩
    ((pxAt_own H2.out.2.2.2).past vb hbx) hbx ⟨⟨LN.of_lies (hll2.head.past vb (Nat.le_refl _)) (by omega), fun s hs => LN.of_lies ((hll2.each_ s hs).past vb (Nat.le_refl _)) (by omega)⟩, H2.out.2.2.1.len, H2.out.2.2.1.many⟩ ⟨⟨LN.nil_, (fun _ h => by cases h)⟩, (fun _ h => by cases h), (by simp)⟩ (Nat.le_refl _) htb vo)
  have hlen := Nat.le_trans hlen htb
  rw [show schs [] = [] from rfl] at hcall
  generalize pinf (schs srcL) 16 p [] 0 = r at *
  obtain ⟨rl, ru⟩ := r
  dsimp only at hI2 hlen
  have HV := Lib.hid (And.intro (H2.out.1.trans (vb.mono H2.out.1.size)) vs)
  have hszw := H2.out.1.size
  clear hg vb vo hfu hin2 hll2 htb hI1 Hck
  go_upto_region 8 with fail
  rw [← hV]
  clear hV
  go_wp2_with fail
  refine hcall.out.mono ?_
  rintro _ w3 ⟨A3, c3, rfl, ⟨ht3, _⟩, hu3⟩
  have d0 := hu3.own.at_ 0
  simp only [evL, List.getElem?_cons_zero] at d0
  have H3 := Lib.hid (And.intro (HV.out.1.trans (hu3.below (B := w.heap.size) (by omega) (by omega))) ht3)
  have hsz3 := hu3.grow.size
  clear ht3 hu3 hcall
  by_cases hr : ru = 0
  case neg =>
    have t1 : (ru != 0) = true := bne_iff_ne.2 hr
    have HR := Lib.hid (hI2.out.trans (if_neg hr))
    clear hr hI2
    go_wp2_with fail
    go_quiet (fail)
    go_wp2_with fail
    go_ret2
    exact inferPost_no HR.out (below_draws H3.out.1 _)
  have HR := Lib.hid (hI2.out.trans (if_pos hr))
  subst hr
  clear hI2
  have hls := Lib.hid (listT_any A3 c3 rl w3 H3.out.2.tys (by omega))
  go_wp2_with fail
  refine hls.out.mono ?_
  rintro _ w4 ⟨A4, c4, rfl, ht4, b4⟩
  have H4 := Lib.hid (And.intro ht4 (H3.out.1.trans (b4.mono H3.out.1.size)))
  clear ht4 b4
  go_wp2_with fail
  go_ret2
  exact inferPost_of HR.out H4.out.1 H4.out.2
end Go.Proofs.Ytjidjpmdmcleoaa
