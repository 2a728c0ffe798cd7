/- The schema of a plan: sources and variables. -/
import Derived.Test.YtjidjpmdmcleoaaPTyp
namespace Go.Proofs.Ytjidjpmdmcleoaa
open Go Go.RowKit

/-- the second columns in a plan are at most M long, n deep -/
def PWm (M : Nat) : Nat → Px → Prop
  | 0, _ => True
  | n + 1, p => p.wit.length ≤ M ∧ ∀ k ∈ p.kids, PWm M n k
/-- a plan that is well-formed and not too great, as it lies below block g -/
structure Pt (M n : Nat) (p : Px) (w : World) (g : Nat) : Prop where
  good : goodP n p = true
  ok : PxOk n p
  in_ : PxIn w g n p
  cnt : cntP n p ≤ 64
  sm : PSm M n p
  wm : PWm M n p
theorem Pt.past {M n : Nat} {p : Px} {w w' : World} {g : Nat} (h : Pt M n p w g) (hb : Below g w w') : Pt M n p w' g := ⟨h.good, h.ok, h.in_.past hb (Nat.le_refl _), h.cnt, h.sm, h.wm⟩
theorem Pt.kid {M n : Nat} {p k : Px} {w : World} {g : Nat} (h : Pt M (n + 1) p w g) (hk : k ∈ p.kids) : Pt M n k w g :=
  ⟨good_kid h.good hk, h.ok.2.2.2 k hk, h.in_.2.2 k hk, by have := cnt_kid (n := n) hk; have := h.cnt; omega, h.sm.2 k hk, h.wm.2 k hk⟩
/-- the sources, and how long schemas may get -/
structure Sr (M : Nat) (srcL : List (Sl Int)) (A0 : Option Addr) (g : Nat) (w : World) : Prop where
  sn : SN g w A0 srcL
  len : ∀ s ∈ srcL, s.l.length ≤ M
  many : srcL.length ≤ 1099511627776
theorem Sr.next {M : Nat} {srcL : List (Sl Int)} {A0 : Option Addr} {g : Nat} {w w' : World} (h : Sr M srcL A0 g w) (k : w.grownBy w' (some g)) : Sr M srcL A0 g w' := ⟨h.sn.next k, h.len, h.many⟩
theorem Sr.more {M : Nat} {srcL : List (Sl Int)} {A0 : Option Addr} {g : Nat} {w w' : World} (h : Sr M srcL A0 g w) (k : Below w.heap.size w w') : Sr M srcL A0 g w' := ⟨h.sn.more k, h.len, h.many⟩
/-- the loops around -/
structure Lp (L n : Nat) (ls : List (Sl Int)) (lA : Option Addr) (g : Nat) (w : World) : Prop where
  sn : SN g w lA ls
  len : ∀ s ∈ ls, s.l.length ≤ L
  many : ls.length + n ≤ 1000
theorem Lp.next {L n : Nat} {ls : List (Sl Int)} {lA : Option Addr} {g : Nat} {w w' : World} (h : Lp L n ls lA g w) (k : w.grownBy w' (some g)) : Lp L n ls lA g w' := ⟨h.sn.next k, h.len, h.many⟩
theorem Lp.more {L n : Nat} {ls : List (Sl Int)} {lA : Option Addr} {g : Nat} {w w' : World} (h : Lp L n ls lA g w) (k : Below w.heap.size w w') : Lp L n ls lA g w' := ⟨h.sn.more k, h.len, h.many⟩
theorem Lp.less {L n m : Nat} {ls : List (Sl Int)} {lA : Option Addr} {g : Nat} {w : World} (h : Lp L n ls lA g w) (hm : m ≤ n) : Lp L m ls lA g w := ⟨h.sn, h.len, by have := h.many; omega⟩
def schs (L : List (Sl Int)) : List (List Int) := L.map Sl.l
def InPost (P : Nat → Prop) (r : List Int × Int) (A0 : Option Addr) (n0 c0 g : Nat) (w : World) (x : Ending) (w' : World) : Prop :=
  ∃ A' c', x = .returned (.slice A' r.1.length c') ∧ (TN g w' A' r.1 ∧ ∀ b o, 0 < r.1.length → A' = some ⟨b, o, none⟩ → w.heap.size ≤ b ∨ P b) ∧ Upd w w' g 80 (evL r.2 A0 n0 c0)
theorem inPost_of {P : Nat → Prop} {r q : List Int × Int} {A0 : Option Addr} {n0 c0 g : Nat} {w w' : World} (he : r = q) {A' : Option Addr} {n c' : Nat} (hn : n = q.1.length) (ht : TN g w' A' q.1) (hb : ∀ b o, 0 < q.1.length → A' = some ⟨b, o, none⟩ → w.heap.size ≤ b ∨ P b) (hu : Upd w w' g 80 (evL q.2 A0 n0 c0)) : InPost P r A0 n0 c0 g w (.returned (.slice A' n c')) w' := by
  subst he hn; exact ⟨_, _, rfl, ⟨ht, hb⟩, hu⟩
def PInC (M : Nat) (srcL : List (Sl Int)) (A0 : Option Addr) (c0 n : Nat) : Prop := ∀ (p : Px) (ls : List (Sl Int)) (lA : Option Addr) (lc L : Nat) (u : Int) (b o g : Nat) (w : World),
  Pt M n p w g → PAt w b o p → b < g → Sr M srcL A0 g w → Lp L n ls lA g w → M ≤ L → tb (cntP n p) * L ≤ 1099511627776 → Own w g 80 (evL u A0 srcL.length c0) →
  Calls Try.prog 32 #[.pointer (some ⟨g, 0, none⟩), .pointer (some ⟨b, o, none⟩), .slice lA ls.length lc] w (InPost (fun b => OldB srcL b ∨ OldB ls b) (pinf (schs srcL) n p (schs ls) u) A0 srcL.length c0 g w)
set_option maxRecDepth 100000 in
set_option maxHeartbeats 6400000 in
theorem pinfer_leaf (M : Nat) (srcL : List (Sl Int)) (A0 : Option Addr) (c0 n : Nat) (p : Px) (hk : p.kind = 1 ∨ p.kind = 2) (ls : List (Sl Int)) (lA : Option Addr) (lc L : Nat) (u : Int) (b o g : Nat) (w : World)
    (hat : PAt w b o p) (hbg : b < g) (hsr : Sr M srcL A0 g w) (hlp : Lp L (n + 1) ls lA g w) (ho : Own w g 80 (evL u A0 srcL.length c0)) :
    Calls Try.prog 32 #[.pointer (some ⟨g, 0, none⟩), .pointer (some ⟨b, o, none⟩), .slice lA ls.length lc] w (InPost (fun b => OldB srcL b ∨ OldB ls b) (pinf (schs srcL) (n + 1) p (schs ls) u) A0 srcL.length c0 g w) := by
  have hgi := ho.inside
  obtain ⟨e0, e1, _, _, _, _, _, _⟩ := hat.eight
  have c1 := ho.at_ 1
  simp only [evL, List.getElem?_cons_zero, List.getElem?_cons_succ] at c1
  have hms := hsr.many
  have hml := hlp.many
  have hp1 := fun W h1 h2 => Lib.hid (pick_any A0 srcL.length c0 u A0 c0 srcL p.n g W h1 (by unfold maxLen; omega) h2)
  have hp2 := fun W h1 h2 => Lib.hid (pick_any A0 srcL.length c0 u lA lc ls p.n g W h1 (by unfold maxLen; omega) h2)
  have HH := Lib.hid (And.intro hsr (And.intro hlp ho))
  have HR1 := fun (h : p.kind = 1) => Lib.hid (show pinf (schs srcL) (n + 1) p (schs ls) u = pickS (srcL.map Sl.l) p.n u by unfold pinf; rw [if_pos h]; rfl)
  have HR2 := fun (h : p.kind = 2) => Lib.hid (show pinf (schs srcL) (n + 1) p (schs ls) u = pickS (ls.map Sl.l) p.n u by unfold pinf; rw [if_neg (show ¬ p.kind = 1 by omega), if_pos h]; rfl)
  generalize pinf (schs srcL) (n + 1) p (schs ls) u = R at *
  clear hat hsr hlp ho
  rcases hk with hk | hk
  · have HR := HR1 hk
    rw [hk] at e0
    clear hk HR1 HR2 hp2
    go_enter Try.func32, Try.ntmps32
    go_upto_region 3 with fail
    go_cut [6] (fun s6 wx => ∃ A' c', s6 = .slice A' (pickS (srcL.map Sl.l) p.n u).1.length c' ∧ (TN g wx A' (pickS (srcL.map Sl.l) p.n u).1 ∧ ∀ b o, 0 < (pickS (srcL.map Sl.l) p.n u).1.length → A' = some ⟨b, o, none⟩ → OldB srcL b) ∧ Upd w wx g 80 (evL (pickS (srcL.map Sl.l) p.n u).2 A0 srcL.length c0))
    case first =>
      have HK := Lib.hid (fun (w2 : World) (r : Int) (h : Upd w w2 g 80 (evL r A0 srcL.length c0)) => (⟨((h.below (Nat.le_refl _) (Nat.le_of_lt hgi)).cell (p := ⟨b, o + 1, none⟩) hbg).trans e1, h.own.at_ 1⟩ : w2.cell? ⟨b, o + 1, none⟩ = some (.int .i64 p.n) ∧ w2.cell? ⟨g, 1, none⟩ = some (.slice A0 srcL.length c0)))
      go_region_held3 (fun w' => w'.cell? ⟨b, o + 1, none⟩ = some (.int .i64 p.n) ∧ w'.cell? ⟨g, 1, none⟩ = some (.slice A0 srcL.length c0))
        ((first | exact ⟨e1, c1⟩ | exact HK.out _ _ hu))
        ((go_at_call 45; refine (hp1 _ (HH.out.1.sn.more (Below.refl _ _).drew) HH.out.2.2).out.mono ?_; rintro _ w2 ⟨A', c', rfl, ht, hu0⟩; have hu := Upd.after (Below.refl _ _).drew hu0))
      all_goals
        go_wp2_with fail
        go_meet
        exact ⟨A', c', rfl, ht, hu⟩
    case rest =>
      obtain ⟨A', c', rfl, ht, hu⟩ := hcut
      have HF := Lib.hid (And.intro ht hu)
      clear ht hu
      go_wp2_with fail
      go_ret
      exact inPost_of HR.out rfl HF.out.1.1 (fun b o hp e => .inr (.inl (HF.out.1.2 b o hp e))) HF.out.2
  · have HR := HR2 hk
    rw [hk] at e0
    clear hk HR1 HR2 hp1
    go_enter Try.func32, Try.ntmps32
    go_wp2_with fail
    refine (hp2 _ HH.out.2.1.sn HH.out.2.2).out.mono ?_
    rintro _ w2 ⟨A', c', rfl, ht, hu⟩
    have HF := Lib.hid (And.intro ht hu)
    clear ht hu
    go_wp2_with fail
    go_ret
    exact inPost_of HR.out rfl HF.out.1.1 (fun b o hp e => .inr (.inr (HF.out.1.2 b o hp e))) HF.out.2
end Go.Proofs.Ytjidjpmdmcleoaa
namespace Go.Proofs.Ytjidjpmdmcleoaa
open Go Go.RowKit

def ExP (W w' : World) (g : Nat) : Prop := ∃ l, Upd W w' g 80 l
theorem ExP.mk {W w' : World} {g : Nat} {l : List Value} (h : Upd W w' g 80 l) : ExP W w' g := ⟨l, h⟩
theorem ExP.more {W w' : World} {g : Nat} (h : ExP W w' g) (o : Obj) : ExP W (w'.alloc o) g := let ⟨_, k⟩ := h; ⟨_, k.more o⟩
theorem ExP.drew {W w' : World} {g : Nat} (h : ExP W w' g) : ExP W w'.drew g := let ⟨_, k⟩ := h; ⟨_, k.drew⟩
theorem flat_two (x : Sl Int) (ls : List (Sl Int)) (A : Option Addr) (c : Nat) (lA : Option Addr) (lc : Nat) : flatS [(⟨A, c, [x]⟩ : Sl (Sl Int)), ⟨lA, lc, ls⟩] = x :: ls ∧ lensS [(⟨A, c, [x]⟩ : Sl (Sl Int)), ⟨lA, lc, ls⟩] = (x :: ls).length := by
  constructor
  · simp [flatS]
  · simp [lensS]; omega
/-- one schema ahead of others -/
theorem cat_any (x : Sl Int) (ls : List (Sl Int)) (lA : Option Addr) (lc g : Nat) (w : World) (hg : g < w.heap.size) (hl : LN g 1 Sl.cells w lA ls) (hm : ls.length ≤ 1000) :
    Calls Try.prog 47 #[.slice (some ⟨w.heap.size + 1, 0, none⟩) 2 2]
      ((w.alloc (.cells #[.slice x.A x.l.length x.c] 34)).alloc (.cells #[.slice (some ⟨w.heap.size, 0, none⟩) 1 1, .slice lA ls.length lc] 53)) fun e w' => ∃ A' c', e = .returned (.slice A' (x :: ls).length c') ∧ LN g 1 Sl.cells w' A' (x :: ls) ∧ Below w.heap.size w w' := by
  obtain ⟨W, hW⟩ : ∃ W, W = (w.alloc (.cells #[.slice x.A x.l.length x.c] 34)).alloc (.cells #[.slice (some ⟨w.heap.size, 0, none⟩) 1 1, .slice lA ls.length lc] 53) := ⟨_, rfl⟩
  have hb : Below w.heap.size w W := by rw [hW]; exact ((Below.refl _ _).alloc (Nat.le_refl _) _).alloc (by simp) _
  have hs : W.heap.size = w.heap.size + 2 := by rw [hW]; simp
  have h1 : Own W w.heap.size 34 [.slice x.A x.l.length x.c] := by rw [hW]; exact (own_at rfl).more _
  have h2 : Own W (w.heap.size + 1) 53 [.slice (some ⟨w.heap.size, 0, none⟩) 1 1, .slice lA ls.length lc] := by rw [hW]; exact own_at (by simp)
  rw [← hW]
  obtain ⟨f1, f2⟩ := flat_two x ls (some ⟨w.heap.size, 0, none⟩) 1 lA lc
  have hLL : LL 1 Sl.cells W W.heap.size (some ⟨w.heap.size + 1, 0, none⟩) [(⟨some ⟨w.heap.size, 0, none⟩, 1, [x]⟩ : Sl (Sl Int)), ⟨lA, lc, ls⟩] := by
    refine ⟨fun _ => ⟨_, _, rfl, by omega, fun i y hy j v hv => ?_⟩, fun s hs' => ?_⟩
    · match i, hy with
      | 0, hy =>
        obtain rfl : (⟨some ⟨w.heap.size, 0, none⟩, 1, [x]⟩ : Sl (Sl Int)) = y := by simpa using hy
        match j, hv with
        | 0, hv => have := h2.at_ 0
                   rw [← hv]; exact this
      | 1, hy =>
        obtain rfl : (⟨lA, lc, ls⟩ : Sl (Sl Int)) = y := by simpa using hy
        match j, hv with
        | 0, hv => have := h2.at_ 1
                   rw [← hv]; exact this
    · rcases List.mem_cons.1 hs' with rfl | hs'
      · refine fun _ => ⟨w.heap.size, 0, rfl, by omega, fun i y hy j v hv => ?_⟩
        match i, hy with
        | 0, hy =>
          obtain rfl : x = y := by simpa using hy
          match j, hv with
          | 0, hv => have := h1.at_ 0
                     rw [← hv]; exact this
      · rcases List.mem_cons.1 hs' with rfl | hs'
        · exact (hl.lies.past hb (Nat.le_refl _)).wide (by omega)
        · cases hs'
  refine (concat_sc (some ⟨w.heap.size + 1, 0, none⟩) 2 _ W hLL (by unfold maxLen; simp) (by rw [f2, List.length_cons]; omega)).mono ?_
  rintro _ w' ⟨v, rfl, ho, hb'⟩
  rw [f1, f2] at ho
  obtain ⟨A', c', rfl, _, _, hlies⟩ := lies_of_own (by decide) scell_len rfl ho
  refine ⟨A', c', rfl, ⟨hlies, fun _ b o e => ?_⟩, hb.trans (hb'.mono (by omega))⟩
  subst e
  have := (ho.lt b rfl).1
  omega
theorem map_cons (x : Sl Int) (ls : List (Sl Int)) : schs (x :: ls) = x.l :: schs ls := rfl
theorem pinf_iter (src : List (List Int)) (n : Nat) {p : Px} (hk : p.kind = 10) (ls : List (List Int)) (u : Int) : pinf src (n + 1) p ls u = ((pinf src n (pkid p 0) ls u).1, sameS (pinf src n (pkid p 0) ls u).1 (pinf src n (pkid p 1) ((pinf src n (pkid p 0) ls u).1 :: ls) (pinf src n (pkid p 0) ls u).2).1 (pinf src n (pkid p 1) ((pinf src n (pkid p 0) ls u).1 :: ls) (pinf src n (pkid p 0) ls u).2).2) := by
  conv => lhs; unfold pinf
  rw [if_neg (by omega), if_neg (by omega), if_pos hk]
theorem pkid_at {p : Px} {i : Nat} (h : i < p.kids.length) : p.kids[i]? = some (pkid p i) := by
  unfold pkid
  rw [List.getD_eq_getElem?_getD, List.getElem?_eq_getElem h]
  rfl
set_option maxRecDepth 100000 in
set_option maxHeartbeats 6400000 in
theorem pinfer_iter (M : Nat) (srcL : List (Sl Int)) (A0 : Option Addr) (c0 n : Nat) (hE : PInC M srcL A0 c0 n) (p : Px) (hk : p.kind = 10) (ls : List (Sl Int)) (lA : Option Addr) (lc L : Nat) (u : Int) (b o g : Nat) (w : World)
    (hp : Pt M (n + 1) p w g) (hat : PAt w b o p) (hbg : b < g) (hsr : Sr M srcL A0 g w) (hlp : Lp L (n + 1) ls lA g w) (hML : M ≤ L) (htb : tb (cntP (n + 1) p) * L ≤ 1099511627776) (ho : Own w g 80 (evL u A0 srcL.length c0)) :
    Calls Try.prog 32 #[.pointer (some ⟨g, 0, none⟩), .pointer (some ⟨b, o, none⟩), .slice lA ls.length lc] w (InPost (fun b => OldB srcL b ∨ OldB ls b) (pinf (schs srcL) (n + 1) p (schs ls) u) A0 srcL.length c0 g w) := by
  have hgi := ho.inside
  have hf := (fits_kids (good_fits hp.good)).2.1 (.inr hk)
  obtain ⟨e0, e1, e2, _, _, _, _, _⟩ := hat.eight
  obtain ⟨b', o', hA, hB', hxs⟩ := lies_px hp.in_.1.1 (by omega)
  have hk0 := hxs 0 _ (pkid_at (by omega))
  have hk1 := hxs 1 _ (pkid_at (by omega))
  rw [Nat.zero_mul, Nat.add_zero] at hk0
  rw [Nat.one_mul] at hk1
  have m0 := pkid_mem (p := p) (i := 0) (by omega)
  have m1 := pkid_mem (p := p) (i := 1) (by omega)
  have p0 := hp.kid m0
  have p1 := hp.kid m1
  have hct := cnt_two_kids (n := n) hf
  have hc64 := hp.cnt
  have q0 := cnt_pos p0.good
  have q1 := cnt_pos p1.good
  have hst := (tb_step (cntP (n + 1) p) (by omega) (cntP n (pkid p 0)) (by omega) q0 (by omega)).2
  rw [show cntP (n + 1) p - 1 - cntP n (pkid p 0) = cntP n (pkid p 1) by omega] at hst
  have hmo := tb_mono (a := cntP n (pkid p 0)) (b := cntP (n + 1) p) (by omega) hc64
  have hb0 : tb (cntP n (pkid p 0)) * L ≤ 1099511627776 := Nat.le_trans (Nat.mul_le_mul_right L hmo) htb
  have hb1 : tb (cntP n (pkid p 1)) * (tb (cntP n (pkid p 0)) * L) ≤ 1099511627776 := by
    have := Nat.mul_le_mul_right L hst
    rw [← Nat.mul_assoc, Nat.mul_comm (tb (cntP n (pkid p 1)))]
    omega
  have hL1 : L ≤ tb (cntP n (pkid p 0)) * L := by have := Nat.mul_le_mul_right L (tb_pos (cntP n (pkid p 0)) (by omega)); rwa [Nat.one_mul] at this
  have hlen1 := pinf_len (schs srcL) M n (pkid p 0) (schs ls) u L (fun s hs => by obtain ⟨y, hy, rfl⟩ := List.mem_map.1 hs; exact Nat.le_trans (hsr.len y hy) hML) (fun s hs => by obtain ⟨y, hy, rfl⟩ := List.mem_map.1 hs; exact hlp.len y hy) hML p0.sm p0.good p0.cnt
  have hcall0 := Lib.hid (hE (pkid p 0) ls lA lc L u b' o' g w p0 hk0 hB' hsr (hlp.less (by omega)) hML hb0 ho)
  have HR := Lib.hid (pinf_iter (schs srcL) n hk (schs ls) u)
  have hln2 := fun (l2 : List (List Int)) (h : ∀ s ∈ l2, s.length ≤ tb (cntP n (pkid p 0)) * L) (u : Int) => pinf_len (schs srcL) M n (pkid p 1) l2 u (tb (cntP n (pkid p 0)) * L) (fun s hs => by obtain ⟨y, hy, rfl⟩ := List.mem_map.1 hs; exact Nat.le_trans (hsr.len y hy) (Nat.le_trans hML hL1)) h (Nat.le_trans hML hL1) p1.sm p1.good p1.cnt
  generalize pinf (schs srcL) (n + 1) p (schs ls) u = R at *
  generalize hr1 : pinf (schs srcL) n (pkid p 0) (schs ls) u = r1 at *
  obtain ⟨xl, xu⟩ := r1
  dsimp only at *
  have HP := Lib.hid (And.intro hp (And.intro hat (And.intro hsr (And.intro hlp (And.intro hk1 (And.intro p1 ho))))))
  have HN := Lib.hid (And.intro hML (And.intro hL1 (And.intro hb1 (And.intro hlen1 hln2))))
  have HE := Lib.hid hE
  have hmany := hlp.many
  have hxm : xl.length ≤ 1099511627776 := by omega
  rw [hk] at e0
  rw [hA, hf] at e2
  clear hp hat hsr hlp hML htb ho hf hA hxs hk0 hk1 m0 m1 p0 p1 hct hc64 q0 q1 hst hmo hb0 hb1 hL1 hlen1 hln2 hE hr1 hk e1
  go_enter Try.func32, Try.ntmps32
  go_wp2_with fail
  refine hcall0.out.mono ?_
  rintro _ w1 ⟨A1, c1, rfl, ⟨ht1, hloc⟩, hu1⟩
  have HLOC := Lib.hid hloc
  have hbw := hu1.below (Nat.le_refl _) (Nat.le_of_lt hgi)
  have H1 := Lib.hid (And.intro ht1 (And.intro hu1 (And.intro (HP.out.2.2.1.next hu1.grow) (And.intro (HP.out.2.2.2.1.next hu1.grow) (And.intro (HP.out.2.2.2.2.1.past hbw hB') (HP.out.2.2.2.2.2.1.past hbw))))))
  have e2 := (hbw.cell (p := ⟨b, o + 2, none⟩) hbg).trans e2
  have hg1 := hu1.own.inside
  clear ht1 hu1 hbw hcall0 hloc
  obtain ⟨r2, hr2⟩ : ∃ r2, pinf (schs srcL) n (pkid p 1) (xl :: schs ls) xu = r2 := ⟨_, rfl⟩
  rw [hr2] at HR
  have hl2 := HN.out.2.2.2.2 (xl :: schs ls) (fun s hs => by
    rcases List.mem_cons.1 hs with rfl | hs
    · exact HN.out.2.2.2.1
    · obtain ⟨y, hy, rfl⟩ := List.mem_map.1 hs
      exact Nat.le_trans (HP.out.2.2.2.1.len y hy) HN.out.2.1) xu
  rw [hr2] at hl2
  have hl3 : r2.1.length ≤ 1099511627776 := Nat.le_trans hl2 HN.out.2.2.1
  have HR2 := Lib.hid hr2
  have hdw : Below w1.heap.size w1 w1.drew := (Below.refl _ _).drew
  have hcat := Lib.hid (cat_any ⟨A1, c1, xl⟩ ls lA lc g w1.drew hg1 (H1.out.2.2.2.1.sn.head.more hdw) (by omega))
  have hinf := Lib.hid (fun (W3 : World) (A3 : Option Addr) (c3 : Nat) (hb : Below w1.heap.size w1 W3) (hn3 : LN g 1 Sl.cells W3 A3 (⟨A1, c1, xl⟩ :: ls)) => by
    have h := HE.out (pkid p 1) (⟨A1, c1, xl⟩ :: ls) A3 c3 (tb (cntP n (pkid p 0)) * L) xu b' (o' + 8) g W3 (H1.out.2.2.2.2.2.past (hb.mono (Nat.le_of_lt hg1))) (H1.out.2.2.2.2.1.past hb (by omega)) hB' (H1.out.2.2.1.more hb)
      ⟨⟨hn3, fun s hs => by
        rcases List.mem_cons.1 hs with rfl | hs
        · exact H1.out.1.more hb
        · exact (H1.out.2.2.2.1.sn.each_ s hs).more hb⟩, fun s hs => by
        rcases List.mem_cons.1 hs with rfl | hs
        · exact HN.out.2.2.2.1
        · exact Nat.le_trans (H1.out.2.2.2.1.len s hs) HN.out.2.1, by rw [List.length_cons]; have := H1.out.2.2.2.1.many; omega⟩ (Nat.le_trans HN.out.1 HN.out.2.1) HN.out.2.2.1 (H1.out.2.1.quiet hb).own
    rw [map_cons, HR2.out] at h
    exact h)
  have hsam := Lib.hid (fun (W4 : World) (A4 : Option Addr) (c4 : Nat) (h1 : TN g W4 A1 xl) (h2 : TN g W4 A4 r2.1) (h3 : Own W4 g 80 (evL r2.2 A0 srcL.length c0)) => psame_any A0 srcL.length c0 r2.2 A1 A4 c1 c4 xl r2.1 g W4 h1.tys h2.tys (by unfold maxLen; omega) (by unfold maxLen; omega) h3)
  have HS0 := Lib.hid (Upd.same H1.out.2.1.own)
  have HK := Lib.hid (fun (w' : World) (h : ExP w1 w' g) => (⟨h, ((h.choose_spec.below (Nat.le_refl _) (Nat.le_of_lt hg1)).cell (p := ⟨b, o + 2, none⟩) hbg).trans e2⟩ : ExP w1 w' g ∧ w'.cell? ⟨b, o + 2, none⟩ = some (.slice (some ⟨b', o', none⟩) 2 p.kc)))
  have h0 : ExP w1 w1 g := ExP.mk HS0.out
  clear hl2 hl3 hr2 hdw
  go_upto_region 8 with fail
  go_cut [] (fun wx => Upd w1 wx g 80 (evL (sameS xl r2.1 r2.2) A0 srcL.length c0))
  case first =>
    go_region_held3 (fun w' => ExP w1 w' g ∧ w'.cell? ⟨b, o + 2, none⟩ = some (.slice (some ⟨b', o', none⟩) 2 p.kc))
      ((refine (HK.out _ ?_); repeat (first | with_reducible exact ExP.mk hu5 | with_reducible exact ExP.mk hu4 | with_reducible exact ExP.mk hu3 | with_reducible exact ExP.mk HS0.out | with_reducible refine ExP.more ?_ _ | with_reducible refine ExP.drew ?_)))
      (first | (go_at_call 47; refine hcat.out.mono ?_; rintro _ w3 ⟨A3, c3, rfl, hn3, hb3⟩; have hb3 : Below w1.heap.size w1 w3 := belows (Below.refl _ _).drew hb3; have hu3 := HS0.out.quiet hb3) | (go_at_call 32; refine (hinf.out w3 A3 c3 hb3 hn3).mono ?_; rintro _ w4 ⟨A4, c4, rfl, ⟨ht4, _⟩, hu4⟩; have ht1 := ((H1.out.1.more hb3).next hu4.grow); have hu4 := hu3.trans hu4) | (go_at_call 46; refine (hsam.out w4 A4 c4 ht1 ht4 hu4.own).mono ?_; rintro _ w5 ⟨rfl, hu5⟩; have hu5 := hu4.trans hu5))
    all_goals
      go_wp2_with fail
      go_meet
      exact hu5
  case rest =>
    have HF := Lib.hid (And.intro (H1.out.1.next hcut.grow) (H1.out.2.1.trans hcut))
    clear hcut
    go_wp2_with fail
    go_ret
    exact inPost_of HR.out rfl HF.out.1 HLOC.out HF.out.2
end Go.Proofs.Ytjidjpmdmcleoaa
