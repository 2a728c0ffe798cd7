/- Part 5 of the texts on which DiskTogether rests: facts and contracts. -/
import Derived.Test.YtcgplhmicfmjeaaDiskTogetherM4
import Derived.Test.YtcgplhmicfmjeaaRows
import Derived.WalkKit
import Derived.ProofKit
import Derived.OpenShut
import Derived.JoinedCond
import Derived.Carry
import Derived.ChangeArms
import Derived.Deep.Slices
import Derived.SizedLaws
namespace Go.Proofs.Ytcgplhmicfmjeaa
open Go Go.RowKit

def Mid2 (V wx : World) (s : Value) (k : Dk) : Prop := ∃ G, ∃ z : Dl, s = .pointer (some ⟨G, 0, none⟩) ∧ z.d = k ∧ Own wx G 25 z.cells ∧ DIn wx wx.heap.size z ∧ Below V.heap.size V wx ∧ V.heap.size ≤ G
set_option maxRecDepth 100000 in
set_option maxHeartbeats 6400000 in
theorem together_true (x : Dl) (A : Option Addr) (c : Nat) (ws : List Wr) (t : Int) (w : World) (h : DIn w w.heap.size x) (hf : FOk x.d) (hws : Lies 4 Wr.cells w w.heap.size A ws) (hcap : ws.length ≤ c) (hcm : c ≤ maxLen) (hn : wtD x.d + wtW ws ≤ 1048576) :
    Calls Try.prog 3 #[x.val, .slice A ws.length c, .int .i64 t] w fun e w' => e = .returned (.bool true) ∧ Below w.heap.size w w' := by
  unfold maxLen at hcm
  obtain ⟨V, hV, hVb, hVs, oD⟩ := dbox w x
  have iV := h.keep hVb
  have HV := Lib.hid (And.intro hVb (And.intro oD (And.intro iV (And.intro (lies_keep hws hVb) (And.intro hf hn)))))
  have y0 := Lib.hid (lives_true V)
  unfold Dl.val
  clear h hf hws hVb hVs oD iV
  by_cases ht : 0 ≤ t ∧ t ≤ (ws.length : Int)
  case neg =>
    by_cases h0 : t < 0
    · have t1 : decide (t < 0) = true := decide_eq_true h0
      clear ht h0
      go_enter Try.func3, Try.ntmps3
      go_upto_region 1 with fail
      rw [← hV]
      clear hV
      go_wp2_with fail
      refine y0.out.mono ?_
      rintro _ w1 ⟨rfl, b1⟩
      go_wp2_with fail
      go_ret
      exact ⟨rfl, HV.out.1.trans (b1.mono HV.out.1.size)⟩
    · have t1 : decide (t < 0) = false := decide_eq_false h0
      have t2 : decide ((ws.length : Int) < t) = true := decide_eq_true (by omega)
      clear ht h0
      go_enter Try.func3, Try.ntmps3
      go_upto_region 1 with fail
      rw [← hV]
      clear hV
      go_wp2_with fail
      refine y0.out.mono ?_
      rintro _ w1 ⟨rfl, b1⟩
      go_wp2_with fail
      go_ret
      exact ⟨rfl, HV.out.1.trans (b1.mono HV.out.1.size)⟩
  obtain ⟨q, rfl⟩ : ∃ q : Nat, t = (q : Int) := ⟨t.toNat, by omega⟩
  have hq : q ≤ ws.length := by omega
  have t1 : decide ((q : Int) < 0) = false := decide_eq_false (by omega)
  have t2 : decide ((ws.length : Int) < (q : Int)) = false := decide_eq_false (by omega)
  obtain ⟨k1, n1, hd1⟩ : ∃ k n, doD x.d ws = (k, n) := ⟨_, _, rfl⟩
  obtain ⟨k2, n2, hd2⟩ : ∃ k n, doD x.d (ws.take q) = (k, n) := ⟨_, _, rfl⟩
  obtain ⟨k3, n3, hd3⟩ : ∃ k n, doD k2 (ws.drop q) = (k, n) := ⟨_, _, rfl⟩
  have hsum : wtW (ws.take q) + wtW (ws.drop q) = wtW ws := by rw [← wtW_append, List.take_append_drop]
  have td1 : DTold x.d (wtW ws) := ⟨by omega, HV.out.2.2.2.2.1⟩
  have td2 : DTold x.d (wtW (ws.take q)) := ⟨by omega, HV.out.2.2.2.2.1⟩
  have td3 : DTold k2 (wtW (ws.drop q)) := doD_told hd2 HV.out.2.2.2.2.1 (by omega)
  have tw1 : DTold k1 0 := doD_told hd1 HV.out.2.2.2.2.1 (by omega)
  have tw2 : DTold k2 0 := doD_told hd2 HV.out.2.2.2.2.1 (by omega)
  have htk : (ws.take q).length = q := by rw [List.length_take]; omega
  have hdr : (ws.drop q).length = ws.length - q := List.length_drop
  have HP := Lib.hid (parts_do hd1 hd2 hd3)
  have HD := Lib.hid (And.intro hd1 (And.intro hd2 (And.intro hd3 (And.intro td1 (And.intro td2 (And.intro td3 (And.intro tw1 tw2)))))))
  have HL := Lib.hid (And.intro htk hdr)
  have q0 : (0 : Int) ≤ (q : Int) := by omega
  have q1 : (q : Int) ≤ (c : Int) := by omega
  have q2 : (q : Int) ≤ (ws.length : Int) := by omega
  have q3 : (q : Int).toNat = q := by omega
  clear ht hd1 hd2 hd3 hsum td1 td2 td3 tw1 tw2 htk hdr
  go_enter Try.func3, Try.ntmps3
  go_upto_region 1 with fail
  rw [← hV]
  clear hV
  go_wp2_with fail
  refine y0.out.mono ?_
  rintro _ w1 ⟨rfl, b1⟩
  have o1 := HV.out.2.1.past b1 HV.out.2.1.inside
  have i1 := HV.out.2.2.1.keep b1
  have l1 := lies_keep HV.out.2.2.2.1 b1
  obtain ⟨d0, d1, d2, d3, d4⟩ := own5 o1
  have hc1 := do_at (B := A) c i1 rfl HD.out.1 l1 HD.out.2.2.2.1
  have H1 := Lib.hid (And.intro (HV.out.1.trans (b1.mono HV.out.1.size)) (And.intro o1 (And.intro i1 l1)))
  clear o1 i1 l1 b1 y0
  go_wp2_with fail
  refine hc1.out.mono ?_
  rintro _ w2 ⟨b2, z1, rfl, hz1, iz1⟩
  obtain ⟨W2, hW2, oW2, iW2, bW2⟩ := var_new iz1
  have o2 := (H1.out.2.1.past b2 H1.out.2.1.inside).past bW2 (H1.out.2.1.past b2 H1.out.2.1.inside).inside
  have i2 := (H1.out.2.2.1.keep b2).keep bW2
  have l2 := lies_keep (lies_keep H1.out.2.2.2 b2) bW2
  have H2 := Lib.hid (And.intro (H1.out.1.trans ((b2.trans (bW2.mono b2.size)).mono H1.out.1.size)) (And.intro o2 (And.intro i2 (And.intro l2 (And.intro oW2 (And.intro iW2 hz1))))))
  have hlt1 := oW2.inside
  have hlt2 := o2.inside
  clear d0 d1 d2 d3 d4
  obtain ⟨d0, d1, d2, d3, d4⟩ := own5 o2
  clear o2 i2 l2 oW2 iW2 bW2 b2 iz1 hz1 hc1
  go_upto_region 6 with fail
  rw [← hW2]
  clear hW2
  go_cut [9, 10] (fun s9 s10 wx => s10 = .int .i64 n2 ∧ Mid2 W2 wx s9 k2)
  case first =>
    have HS := Lib.hid (fun W (h : DkAt x W w.heap.size) => own5 h)
    have hp6 : DkAt x W2 w.heap.size := H2.out.2.1
    have ih := Lib.hid (fun (W : World) (hb : Below W2.heap.size W2 W) => do_at (B := A) c (H2.out.2.2.1.keep hb) rfl HD.out.2.1 (lies_take (q := q) (lies_keep H2.out.2.2.2.1 hb)) HD.out.2.2.2.2.1)
    rw [HL.out.1] at ih
    have bA1 : Below W2.heap.size W2 W2.drew := Below.drew (Below.refl _ _)
    have bA2 : Below W2.heap.size W2 (W2.alloc (.cells #[.slice none 0 0, .slice none 0 0, .int .i64 0, .bool false, .int .i64 0] 25)).drew := Below.drew ((Below.refl _ _).alloc (Nat.le_refl _) _)
    have oA2 : Own (W2.alloc (.cells #[.slice none 0 0, .slice none 0 0, .int .i64 0, .bool false, .int .i64 0] 25)).drew W2.heap.size 25 zero5 := own_drew (Own.made W2 _ _)
    go_region_held3 (fun w' => DkAt x w' w.heap.size ∧ (w'.cell? ⟨w.heap.size, 0, none⟩ = some (.slice x.fA x.files.length x.fc) ∧ w'.cell? ⟨w.heap.size, 1, none⟩ = some (.slice x.wA x.waits.length x.wc) ∧ w'.cell? ⟨w.heap.size, 2, none⟩ = some (.int .i64 x.room) ∧ w'.cell? ⟨w.heap.size, 3, none⟩ = some (.bool x.down) ∧ w'.cell? ⟨w.heap.size, 4, none⟩ = some (.int .i64 x.fuse)))
      ((refine (fun h => And.intro h (HS.out _ h)) ?_; repeat (first | with_reducible exact hp8 | with_reducible exact hp6 | with_reducible refine DkAt.more ?_ _ | with_reducible refine DkAt.drew ?_ | with_reducible refine DkAt.stored ?_ (by omega) _)))
      (first | (go_simp; go_at_call 12; (with_reducible refine (ih.out _ ?_).out.mono ?_); (first | with_reducible exact bA1 | with_reducible exact bA2); rintro _ w8 ⟨b8, z8, rfl, hz8, iz8⟩; have hb8 : Below W2.heap.size W2 w8 := (by first | with_reducible exact undrew1 b8 | with_reducible exact undrew2 b8); have hs8 := hb8.size; have hp8 : DkAt x w8 w.heap.size := DkAt.past hp6 hb8 hlt2; (try (with_reducible (have oT8 := own_after oA2 b8); have z0 := Own.at_ oT8 0; have z1_ := Own.at_ oT8 1; have z2_ := Own.at_ oT8 2; have z3_ := Own.at_ oT8 3; have z4_ := Own.at_ oT8 4; have f0 := Own.open_ oT8 0; have f1 := Own.open_ oT8 1; have f2 := Own.open_ oT8 2; have f3 := Own.open_ oT8 3; have f4 := Own.open_ oT8 4; simp only [zero5, List.getElem?_cons_zero, List.getElem?_cons_succ] at z0 z1_ z2_ z3_ z4_)); clear b8))
    all_goals
      first
      | (obtain ⟨_, rfl, oW, iW, bW⟩ := var_set (y := zeroDl) oT8 iz8
         have HF := Lib.hid (And.intro oW (And.intro iW (hb8.trans (bW _ (Nat.le_refl _)))))
         clear oT8 z0 z1_ z2_ z3_ z4_ f0 f1 f2 f3 f4 oW iW bW)
      | (obtain ⟨_, rfl, oW, iW, bW⟩ := var_new iz8
         have HF := Lib.hid (And.intro oW (And.intro iW (belows hb8 bW)))
         clear oW iW bW)
      go_wp2_with fail
      go_meet
      exact ⟨rfl, _, z8, rfl, hz8, HF.out.1, HF.out.2.1, HF.out.2.2, by first | exact Nat.le_refl _ | exact hs8⟩
  case rest =>
    obtain ⟨rfl, G2, z2, rfl, hz2, oW3, iW3, bW3, hG2⟩ := hcut
    have o3 := H2.out.2.2.2.2.1.past bW3 H2.out.2.2.2.2.1.inside
    have i3 := H2.out.2.2.2.2.2.1.keep bW3
    have l3 := lies_keep H2.out.2.2.2.1 bW3
    have H3 := Lib.hid (And.intro (H2.out.1.trans (bW3.mono H2.out.1.size)) (And.intro o3 (And.intro i3 (And.intro l3 (And.intro oW3 (And.intro iW3 hz2))))))
    have hG2l := oW3.inside
    clear d0 d1 d2 d3 d4
    obtain ⟨d0, d1, d2, d3, d4⟩ := own5 o3
    obtain ⟨g0, g1, g2, g3, g4⟩ := own5 oW3
    clear o3 i3 l3 oW3 iW3 bW3 hz2
    by_cases hm : n2 = 0
    case neg =>
      obtain ⟨rfl, rfl⟩ := HP.out.1 hm
      have t3 : (n1 != 0) = true := bne_iff_ne.2 hm
      have yS := Lib.hid (same_yes z1 z2 wc (H2.out.2.2.2.2.2.2.trans H3.out.2.2.2.2.2.2.symm) H3.out.2.2.1 H3.out.2.2.2.2.2.1 (by rw [H2.out.2.2.2.2.2.2]; have := HD.out.2.2.2.2.2.2.1.wt; omega))
      clear hm
      go_wp2_with fail
      refine yS.out.mono ?_
      rintro _ w4 ⟨rfl, b4⟩
      have HE := Lib.hid (H3.out.1.trans (b4.mono H3.out.1.size))
      clear b4 d0 d1 d2 d3 d4 g0 g1 g2 g3 g4
      go_wp2_with fail
      go_ret
      exact ⟨rfl, HE.out⟩
    subst hm
    obtain ⟨rfl, rfl⟩ := HP.out.2 rfl
    go_upto_region 9 with fail
    clear d0 d1 d2 d3 d4 g0 g1 g2 g3 g4
    obtain ⟨d0, d1, d2, d3, d4⟩ := own5 H3.out.2.2.2.2.1
    go_cut [11, 12] (fun s11 s12 wx => s12 = .int .i64 n1 ∧ Mid2 wc wx s11 k1)
    case first =>
      have HS := Lib.hid (fun W (h : DkAt z2 W G2) => own5 h)
      have hp6 : DkAt z2 wc G2 := H3.out.2.2.2.2.1
      have ih := Lib.hid (fun (W : World) (hb : Below wc.heap.size wc W) (B : Option Addr) (c' : Nat) (hl : Lies 4 Wr.cells W W.heap.size B (ws.drop q)) => do_at (B := B) c' (H3.out.2.2.2.2.2.1.keep hb) H3.out.2.2.2.2.2.2 HD.out.2.2.1 hl HD.out.2.2.2.2.2.1)
      rw [HL.out.2] at ih
      have bA1 : Below wc.heap.size wc wc.drew := Below.drew (Below.refl _ _)
      have bA2 : Below wc.heap.size wc (wc.alloc (.cells #[.slice none 0 0, .slice none 0 0, .int .i64 0, .bool false, .int .i64 0] 25)).drew := Below.drew ((Below.refl _ _).alloc (Nat.le_refl _) _)
      have oA2 : Own (wc.alloc (.cells #[.slice none 0 0, .slice none 0 0, .int .i64 0, .bool false, .int .i64 0] 25)).drew wc.heap.size 25 zero5 := own_drew (Own.made wc _ _)
      obtain ⟨B1, hB1⟩ : ∃ B1, (if c = q then A else Option.map (fun x => x.add (q * 4)) A) = B1 := ⟨_, rfl⟩
      have hlr := Lib.hid (fun (W : World) (hb : Below wc.heap.size wc W) => (show Lies 4 Wr.cells W W.heap.size B1 (ws.drop q) by rw [← hB1]; exact lies_rest (lies_keep H3.out.2.2.2.1 hb) hcap))
      go_region_held3 (fun w' => DkAt z2 w' G2 ∧ (w'.cell? ⟨G2, 0, none⟩ = some (.slice z2.fA z2.files.length z2.fc) ∧ w'.cell? ⟨G2, 1, none⟩ = some (.slice z2.wA z2.waits.length z2.wc) ∧ w'.cell? ⟨G2, 2, none⟩ = some (.int .i64 z2.room) ∧ w'.cell? ⟨G2, 3, none⟩ = some (.bool z2.down) ∧ w'.cell? ⟨G2, 4, none⟩ = some (.int .i64 z2.fuse)))
        ((refine (fun h => And.intro h (HS.out _ h)) ?_; repeat (first | with_reducible exact hp8 | with_reducible exact hp6 | with_reducible refine DkAt.more ?_ _ | with_reducible refine DkAt.drew ?_ | with_reducible refine DkAt.stored ?_ (by omega) _)))
        (first | (go_simp; go_at_call 12; (with_reducible refine (ih.out _ ?_ _ _ ?_).out.mono ?_); (first | with_reducible exact bA1 | with_reducible exact bA2); (first | with_reducible exact hlr.out _ bA1 | with_reducible exact hlr.out _ bA2); rintro _ w8 ⟨b8, z8, rfl, hz8, iz8⟩; have hb8 : Below wc.heap.size wc w8 := (by first | with_reducible exact undrew1 b8 | with_reducible exact undrew2 b8); have hs8 := hb8.size; have hp8 : DkAt z2 w8 G2 := DkAt.past hp6 hb8 hG2l; (try (with_reducible (have oT8 := own_after oA2 b8); have z0 := Own.at_ oT8 0; have z1_ := Own.at_ oT8 1; have z2_ := Own.at_ oT8 2; have z3_ := Own.at_ oT8 3; have z4_ := Own.at_ oT8 4; have f0 := Own.open_ oT8 0; have f1 := Own.open_ oT8 1; have f2 := Own.open_ oT8 2; have f3 := Own.open_ oT8 3; have f4 := Own.open_ oT8 4; simp only [zero5, List.getElem?_cons_zero, List.getElem?_cons_succ] at z0 z1_ z2_ z3_ z4_)); clear b8))
      all_goals
        first
        | (obtain ⟨_, rfl, oW, iW, bW⟩ := var_set (y := zeroDl) oT8 iz8
           have HF := Lib.hid (And.intro oW (And.intro iW (hb8.trans (bW _ (Nat.le_refl _)))))
           clear oT8 z0 z1_ z2_ z3_ z4_ f0 f1 f2 f3 f4 oW iW bW)
        | (obtain ⟨_, rfl, oW, iW, bW⟩ := var_new iz8
           have HF := Lib.hid (And.intro oW (And.intro iW (belows hb8 bW)))
           clear oW iW bW)
        go_wp2_with fail
        go_meet
        exact ⟨rfl, _, z8, rfl, hz8, HF.out.1, HF.out.2.1, HF.out.2.2, by first | exact Nat.le_refl _ | exact hs8⟩
    case rest =>
      obtain ⟨rfl, G4, z4, rfl, hz4, oW4, iW4, bW4, hG4⟩ := hcut
      have o4 := H3.out.2.1.past bW4 H3.out.2.1.inside
      have i4 := H3.out.2.2.1.keep bW4
      clear d0 d1 d2 d3 d4
      obtain ⟨d0, d1, d2, d3, d4⟩ := own5 o4
      obtain ⟨g0, g1, g2, g3, g4⟩ := own5 oW4
      have yS := Lib.hid (same_yes z1 z4 _ (H2.out.2.2.2.2.2.2.trans hz4.symm) i4 iW4 (by rw [H2.out.2.2.2.2.2.2]; have := HD.out.2.2.2.2.2.2.1.wt; omega))
      have HE := Lib.hid (H3.out.1.trans (bW4.mono H3.out.1.size))
      clear o4 i4 oW4 iW4 bW4 hz4
      go_wp2_with fail
      refine yS.out.mono ?_
      rintro _ w9 ⟨rfl, b9⟩
      have HZ := Lib.hid (HE.out.trans (b9.mono HE.out.size))
      clear b9 d0 d1 d2 d3 d4 g0 g1 g2 g3 g4
      go_wp2_with fail
      go_ret
      exact ⟨rfl, HZ.out⟩
theorem together_law (x : Dl) (A : Option Addr) (c : Nat) (ws : List Wr) (t : Int) (w : World) (h : DIn w w.heap.size x) (hf : -9223372036854775808 ≤ x.fuse ∧ x.fuse ≤ 9223372036854775807) (hx : wtD x.d ≤ 524288000) (hcap : ws.length ≤ c) (hcm : c ≤ maxLen) (hws : Lies 4 Wr.cells w w.heap.size A ws) (hw : wtW ws ≤ 524288000) (_ : -9223372036854775808 ≤ t) (_ : t ≤ 9223372036854775807) (hn : wtD x.d + wtW ws ≤ 1048576) :
    Calls Try.prog 3 #[x.val, .slice A ws.length c, .int .i64 t] w fun e w' => e = .returned (.bool true) ∧ Below w.heap.size w w' := together_true x A c ws t w h hf hws hcap hcm hn
end Go.Proofs.Ytcgplhmicfmjeaa
namespace Go.Proofs.Ytcgplhmicfmjeaa
open Go
variable {H : Type}
theorem bulk_pos (d : DataW H) : 1 ≤ Rows.uptoBulk d := by
  cases d with
  | lit l => cases l <;> simp [Rows.uptoBulk]
  | nil => simp [Rows.uptoBulk]
  | ptr d => simp [Rows.uptoBulk]
  | slice es sp => simp [Rows.uptoBulk]
  | agg ps => simp [Rows.uptoBulk]
  | iface t d => simp [Rows.uptoBulk]
  | map es => simp [Rows.uptoBulk]
  | held h => simp [Rows.uptoBulk]
theorem bulk_all : ∀ es : List (DataW H), es.length ≤ Rows.uptoBulkAll es
  | [] => by simp
  | d :: r => by
    have := bulk_all r
    have := bulk_pos d
    simp only [List.length_cons, Rows.uptoBulkAll]
    omega
theorem bulk_slice (es sp : List (DataW H)) : es.length ≤ Rows.uptoBulk (.slice es sp) := by
  have := bulk_all es
  simp only [Rows.uptoBulk]
  omega
end Go.Proofs.Ytcgplhmicfmjeaa
namespace Go.Proofs.Ytcgplhmicfmjeaa
open Go Go.RowKit Go.ChangeShapes Go.WideShapes Go.ChangeAt Go.Deep

section
variable {H : Type} {enc : TypeId × Value → H} {P : Program} {w : World} {base : Nat} {spare : Nat → Bool} {held : Bool}
/-- the slice, its list; and what its reading tells of its length -/
theorem open_list_at {α : Type} [Inhabited α] {size : Nat} {cells : α → List Value} {OK : α → Prop} {t e : TypeId} (ht : P.underlying t = some (.slice e)) (hc : P.cellsOf e = size) (hpos : 0 < size) (hcl : ∀ x, (cells x).length = size)
    (dec : ∀ {n : Nat} {cs : List Value} {x : DataW H × List MemPlace}, DataW.trod enc P w base spare held n e cs = some x → ∃ a, cs = cells a ∧ OK a)
    {fuel : Nat} {cs : List Value} {x : DataW H × List MemPlace} (hf : DataW.trod enc P w base spare held fuel t cs = some x) :
    ∃ (A : Option Addr) (c : Nat) (l : List α), cs = [.slice A l.length c] ∧ l.length ≤ c ∧ c ≤ maxLen ∧ Lies size cells w w.heap.size A l ∧ (∀ a ∈ l, OK a) ∧ (x.1 = .nil ∧ l = [] ∧ c = 0 ∨ ∃ es sp, x.1 = .slice es sp ∧ es.length = l.length) := by
  rcases open_slice ht hf with ⟨e, hx⟩ | ⟨a, len, cap, m, n, D, Pl, e, hb, hl, hm, hmm, hx, hi⟩
  · subst e hx
    exact ⟨none, 0, [], rfl, by simp, by unfold maxLen; omega, fun h => absurd h (by simp), fun a ha => (by cases ha), .inl ⟨rfl, rfl, rfl⟩⟩
  · subst e hx
    obtain ⟨n0, rfl⟩ : ∃ n0, n0 = len := ⟨_, rfl⟩
    obtain ⟨c0, rfl⟩ : ∃ c0, c0 = cap := ⟨_, rfl⟩
    have hlm : n0 ≤ m := by rw [hmm]; split <;> omega
    rw [hc] at hi
    have hT : ∀ i, ∃ x : α, i < n0 → OK x ∧ ∀ (j : Nat) (u : Value), (cells x)[j]? = some u → w.cell? ((a.add (i * size)).add j) = some u := by
      intro i
      by_cases hil : i < n0
      · obtain ⟨cs', hcs, htr⟩ := hi i (by omega)
        obtain ⟨x, rfl, hok⟩ := dec htr
        obtain ⟨_, _, hat⟩ := World.cells?_some hcs
        refine ⟨x, fun _ => ⟨hok, fun j u hj => ?_⟩⟩
        have hjs : j < size := by have := (List.getElem?_eq_some_iff.1 hj).1; rw [hcl] at this; exact this
        rw [hat j hjs]
        exact hj
      · exact ⟨default, fun h => absurd h hil⟩
    obtain ⟨f, hf'⟩ : ∃ f : Nat → α, ∀ i, i < n0 → OK (f i) ∧ ∀ (j : Nat) (u : Value), (cells (f i))[j]? = some u → w.cell? ((a.add (i * size)).add j) = some u :=
      ⟨fun i => Classical.choose (hT i), fun i => Classical.choose_spec (hT i)⟩
    clear hT
    have hlen : ((List.range n0).map f).length = n0 := by simp
    refine ⟨some a, c0, (List.range n0).map f, by rw [hlen], by rw [hlen]; exact hl, hm, fun hp => ?_, fun x hx => ?_, .inr ⟨_, _, rfl, by simp⟩⟩
    · rw [hlen] at hp
      have hz : ((a.add (0 * size)).add 0) = a := by unfold Addr.add; simp
      obtain ⟨v0, h0⟩ : ∃ v0, w.cell? a = some v0 := by
        have h1 : 0 < (cells (f 0)).length := by rw [hcl]; exact hpos
        have := (hf' 0 hp).2 0 _ (List.getElem?_eq_getElem h1)
        rw [hz] at this
        exact ⟨_, this⟩
      have hspot : a.spot = none := by
        cases hs : a.spot with
        | none => rfl
        | some s =>
          unfold World.cell? at h0
          rw [hs] at h0
          split at h0 <;> simp at h0
      obtain ⟨b, o, sp⟩ := a
      simp only at hspot
      subst hspot
      have hadd : ∀ k j, ((⟨b, o, none⟩ : Addr).add k).add j = ⟨b, o + k + j, none⟩ := fun k j => by unfold Addr.add; split <;> split <;> simp_all
      refine ⟨b, o, rfl, World.block_lt_of_cell? w _ h0, fun i x hit j u hj => ?_⟩
      have hil : i < n0 := by have := (List.getElem?_eq_some_iff.1 hit).1; omega
      have hti : f i = x := by simpa [hil] using hit
      subst hti
      have := (hf' i hil).2 j u hj
      rwa [hadd] at this
    · obtain ⟨i, hi1, rfl⟩ := List.mem_map.1 hx
      exact (hf' i (List.mem_range.1 hi1)).1
theorem open_list {α : Type} [Inhabited α] {size : Nat} {cells : α → List Value} {OK : α → Prop} {t e : TypeId} (ht : P.underlying t = some (.slice e)) (hc : P.cellsOf e = size) (hpos : 0 < size) (hcl : ∀ x, (cells x).length = size)
    (dec : ∀ {n : Nat} {cs : List Value} {x : DataW H × List MemPlace}, DataW.trod enc P w base spare held n e cs = some x → ∃ a, cs = cells a ∧ OK a)
    {v : Value} {d : DataW H} {p : List MemPlace} {r : Reach} {b0 : Nat} (hv : Value.okWide P w r b0 t v) (h : DataW.Trod enc P w base spare held t v d p) :
    ∃ (A : Option Addr) (c : Nat) (l : List α), v = .slice A l.length c ∧ l.length ≤ c ∧ c ≤ maxLen ∧ Lies size cells w w.heap.size A l ∧ (∀ a ∈ l, OK a) ∧ (d = .nil ∧ l = [] ∧ c = 0 ∨ ∃ es sp, d = .slice es sp ∧ es.length = l.length) := by
  obtain ⟨a0, n0, c0, rfl⟩ := okWide_slice ht hv
  obtain ⟨fuel, hf⟩ := h
  obtain ⟨A, c, l, e, h1⟩ := open_list_at ht hc hpos hcl dec hf
  exact ⟨A, c, l, by simpa [Value.cells] using e, h1⟩
end
end Go.Proofs.Ytcgplhmicfmjeaa
namespace Go.Proofs.Ytcgplhmicfmjeaa
open Go Go.RowKit Go.ChangeShapes Go.WideShapes Go.ChangeAt Go.Deep

section
variable {H : Type} {enc : TypeId × Value → H} {P : Program} {w : World} {base : Nat} {spare : Nat → Bool} {held : Bool}
theorem lies_gen {α : Type} {size : Nat} {cells : α → List Value} (hcl : ∀ x, 0 < (cells x).length) {len : Nat} {a : Addr} {f : Nat → α} (hp : 0 < len) (hf : ∀ i, i < len → ∀ (j : Nat) (u : Value), (cells (f i))[j]? = some u → w.cell? ((a.add (i * size)).add j) = some u) :
    Lies size cells w w.heap.size (some a) ((List.range len).map f) := fun _ => by
  have hz : ((a.add (0 * size)).add 0) = a := by unfold Addr.add; simp
  obtain ⟨v0, h0⟩ : ∃ v0, w.cell? a = some v0 := by
    have := hf 0 hp 0 _ (List.getElem?_eq_getElem (hcl (f 0)))
    rw [hz] at this
    exact ⟨_, this⟩
  have hspot : a.spot = none := by
    cases hs : a.spot with
    | none => rfl
    | some s =>
      unfold World.cell? at h0
      rw [hs] at h0
      split at h0 <;> simp at h0
  obtain ⟨b, o, sp⟩ := a
  simp only at hspot
  subst hspot
  have hadd : ∀ k j, ((⟨b, o, none⟩ : Addr).add k).add j = ⟨b, o + k + j, none⟩ := fun k j => by unfold Addr.add; split <;> split <;> simp_all
  refine ⟨b, o, rfl, World.block_lt_of_cell? w _ h0, fun i x hit j u hj => ?_⟩
  have hil : i < len := by have := (List.getElem?_eq_some_iff.1 hit).1; simpa using this
  have hti : f i = x := by simpa [hil] using hit
  subst hti
  have := hf i hil j u hj
  rwa [hadd] at this
theorem bulk_sum : ∀ es : List (DataW H × List MemPlace), (es.map (fun z => Rows.uptoBulk z.1)).sum = Rows.uptoBulkAll (es.map (·.1))
  | [] => by simp [Rows.uptoBulkAll]
  | x :: es => by simp only [List.map_cons, List.sum_cons, Rows.uptoBulkAll]; rw [bulk_sum es]
theorem mem_le_sum : ∀ {bs : List Nat} {b : Nat}, b ∈ bs → b ≤ bs.sum
  | [], _, h => by cases h
  | x :: bs, b, h => by
    rw [List.sum_cons]
    rcases List.mem_cons.1 h with rfl | h
    · omega
    · have := mem_le_sum h; omega
theorem len_le_sum : ∀ {bs : List Nat}, (∀ b ∈ bs, 1 ≤ b) → bs.length ≤ bs.sum
  | [], _ => Nat.le_refl _
  | x :: bs, h => by
    have h1 := h x (by simp)
    have h2 := len_le_sum (bs := bs) fun b hb => h b (by simp [hb])
    rw [List.sum_cons, List.length_cons]
    omega
theorem sum_pair {α : Type} {g : α → Nat} : ∀ (l : List α) (bs : List Nat), bs.length = l.length → (∀ (i : Nat) (a : α), l[i]? = some a → ∃ b, bs[i]? = some b ∧ g a ≤ b) → (l.map g).sum ≤ bs.sum
  | [], _, _, _ => Nat.zero_le _
  | x :: l, [], h, _ => by simp at h
  | x :: l, b :: bs, h, hp => by
    obtain ⟨b', h1, h2⟩ := hp 0 x rfl
    obtain rfl : b = b' := by simpa using h1
    have := sum_pair l bs (by simpa using h) fun i a hi => by
      obtain ⟨b2, h3, h4⟩ := hp (i + 1) a (by simpa using hi)
      exact ⟨b2, by simpa using h3, h4⟩
    simp only [List.map_cons, List.sum_cons]
    omega
/-- the slice, its list, and how much each of its elements tells -/
theorem open_list_bulk {α : Type} [Inhabited α] {size : Nat} {cells : α → List Value} {OK : α → Nat → Prop} {t e : TypeId} {fuel : Nat} (ht : P.underlying t = some (.slice e)) (hc : P.cellsOf e = size) (hcl : ∀ x, 0 < (cells x).length)
    (dec : ∀ {n : Nat} {cs : List Value} {x : DataW H × List MemPlace}, n < fuel → DataW.trod enc P w base spare held n e cs = some x → ∃ a, cs = cells a ∧ OK a (Rows.uptoBulk x.1))
    {cs : List Value} {x : DataW H × List MemPlace} (hf : DataW.trod enc P w base spare held fuel t cs = some x) :
    ∃ (A : Option Addr) (c : Nat) (l : List α) (bs : List Nat), cs = [.slice A l.length c] ∧ l.length ≤ c ∧ c ≤ maxLen ∧ Lies size cells w w.heap.size A l ∧ bs.length = l.length ∧ bs.sum + 1 ≤ Rows.uptoBulk x.1 ∧ (∀ b ∈ bs, 1 ≤ b) ∧
      ∀ (i : Nat) (a : α), l[i]? = some a → ∃ b, bs[i]? = some b ∧ OK a b := by
  rcases DataW.trod_slice ht hf with ⟨h1, h2⟩ | ⟨a, len, cap, elems, rest, n, hfu, h1, h2, hb, hl, hm, hlen, hel, hsp, hns⟩
  · subst h1 h2
    exact ⟨none, 0, [], [], rfl, Nat.le_refl _, Nat.zero_le _, Lies.nil_, rfl, by simp [Rows.uptoBulk], fun b h => (by cases h), fun i a h => (by simp at h)⟩
  · rw [hc] at hel
    have hT : ∀ i, i < len → ∃ y : α, (∃ b, (elems.map (fun z => Rows.uptoBulk z.1))[i]? = some b ∧ OK y b) ∧ ∀ (j : Nat) (u : Value), (cells y)[j]? = some u → w.cell? ((a.add (i * size)).add j) = some u := fun i hi => by
      have h1 := hel i hi
      rw [List.getElem?_eq_getElem (by omega)] at h1
      obtain ⟨cs', h2, h3⟩ := Option.bind_eq_some_iff.1 h1
      obtain ⟨y, rfl, hy⟩ := dec (by omega) h3
      obtain ⟨_, hle2, hat⟩ := World.cells?_some h2
      refine ⟨y, ⟨_, by rw [List.getElem?_map, List.getElem?_eq_getElem (by omega)]; rfl, hy⟩, fun j u hj => ?_⟩
      rw [hat j (by have := (List.getElem?_eq_some_iff.1 hj).1; omega)]
      exact hj
    obtain ⟨f, hf'⟩ := choose_lt hT
    have hle : ((List.range len).map f).length = len := by simp
    refine ⟨some a, cap, (List.range len).map f, elems.map (fun z => Rows.uptoBulk z.1), by rw [hle]; exact h1, by rw [hle]; exact hl, hm, ?_, by rw [hle, List.length_map, hlen], ?_, ?_, ?_⟩
    · by_cases hp : 0 < len
      · exact lies_gen hcl hp fun i hi => (hf' i hi).2
      · exact fun h => by rw [hle] at h; omega
    · rw [h2]
      simp only [Rows.uptoBulk]
      rw [bulk_sum]
      omega
    · intro b hb
      obtain ⟨z, _, rfl⟩ := List.mem_map.1 hb
      exact bulk_pos _
    · intro i y hi
      have hil : i < len := by have := (List.getElem?_eq_some_iff.1 hi).1; simpa using this
      have hti : f i = y := by simpa [hil] using hi
      subst hti
      exact (hf' i hil).1
end
end Go.Proofs.Ytcgplhmicfmjeaa
namespace Go.Proofs.Ytcgplhmicfmjeaa
open Go Go.RowKit Go.ChangeShapes Go.WideShapes Go.ChangeAt Go.Deep

set_option maxRecDepth 100000

section
variable {H : Type} {enc : TypeId × Value → H} {w : World} {base : Nat} {spare : Nat → Bool} {held : Bool}
set_option maxRecDepth 100000 in
theorem trod_file {fuel : Nat} {cs : List Value} {x : DataW H × List MemPlace} (h : DataW.trod enc Try.prog w base spare held fuel 42 cs = some x) : ∃ f : Fl, cs = f.cells ∧ 2 + f.d.size ≤ Rows.uptoBulk x.1 := by
  obtain ⟨xs, n, _, hx, hlen, hxs, hf⟩ := DataW.trod_struct Try.underlying42 h
  have hc : Try.prog.cellsOf 42 = 2 := by kernel_rfl
  have hcs : Try.prog.cellsOf 9 = 1 := by kernel_rfl
  rw [hc] at hlen
  match cs, hlen with
  | [c0, c1], _ =>
    have h0 := hf 0 _ rfl
    have h1 := hf 1 _ rfl
    match xs, hxs with
    | [y0, y1], _ =>
      simp only [hcs, List.drop_zero, List.take_succ_cons, List.take_zero, List.drop_succ_cons, List.getElem?_cons_zero, List.getElem?_cons_succ] at h0 h1
      obtain ⟨n0, e0, x0, w0⟩ := DataW.trod_string Try.underlying9 h0
      obtain ⟨n1, e1, x1, w1⟩ := DataW.trod_string Try.underlying9 h1
      obtain rfl := (List.cons.inj e0).1
      obtain rfl := (List.cons.inj e1).1
      refine ⟨⟨n0, n1⟩, rfl, ?_⟩
      rw [hx]
      subst x0 x1
      simp only [List.map_cons, List.map_nil, Rows.uptoBulk, Rows.uptoBulkAll]
      have l1 : n1.data.toList.length = n1.size := by rw [Array.length_toList]; rfl
      first | (dsimp only; omega) | omega | (simp; omega)
set_option maxRecDepth 100000 in
theorem trod_write {fuel : Nat} {cs : List Value} {x : DataW H × List MemPlace} (h : DataW.trod enc Try.prog w base spare held fuel 36 cs = some x) : ∃ f : Wr, cs = f.cells ∧ 2 + f.d.size ≤ Rows.uptoBulk x.1 := by
  obtain ⟨xs, n, _, hx, hlen, hxs, hf⟩ := DataW.trod_struct Try.underlying36 h
  have hc : Try.prog.cellsOf 36 = 4 := by kernel_rfl
  have hcs : Try.prog.cellsOf 9 = 1 := by kernel_rfl
  have hck : Try.prog.cellsOf 34 = 1 := by kernel_rfl
  rw [hc] at hlen
  match cs, hlen with
  | [c0, c1, c2, c3], _ =>
    have h0 := hf 0 _ rfl
    have h1 := hf 1 _ rfl
    have h2 := hf 2 _ rfl
    have h3 := hf 3 _ rfl
    match xs, hxs with
    | [y0, y1, y2, y3], _ =>
      simp only [hcs, hck, List.drop_zero, List.take_succ_cons, List.take_zero, List.drop_succ_cons, List.getElem?_cons_zero, List.getElem?_cons_succ] at h0 h1 h2 h3
      obtain ⟨n0, e0, x0, w0⟩ := DataW.trod_int Try.underlying34 h0
      obtain ⟨n1, e1, x1, w1⟩ := DataW.trod_string Try.underlying9 h1
      obtain ⟨n2, e2, x2, w2⟩ := DataW.trod_string Try.underlying9 h2
      obtain ⟨n3, e3, x3, w3⟩ := DataW.trod_string Try.underlying9 h3
      obtain rfl := (List.cons.inj e0).1
      obtain rfl := (List.cons.inj e1).1
      obtain rfl := (List.cons.inj e2).1
      obtain rfl := (List.cons.inj e3).1
      refine ⟨⟨n0, n1, n2, n3⟩, rfl, ?_⟩
      rw [hx]
      subst x0 x1 x2 x3
      simp only [List.map_cons, List.map_nil, Rows.uptoBulk, Rows.uptoBulkAll]
      have l3 : n3.data.toList.length = n3.size := by rw [Array.length_toList]; rfl
      first | (dsimp only; omega) | omega | (simp; omega)
theorem sum_of {α : Type} {f : α → Nat} : ∀ {l : List α} {bs : List Nat}, bs.length = l.length → (∀ (i : Nat) (a : α), l[i]? = some a → ∃ b, bs[i]? = some b ∧ f a ≤ b) → (l.map f).sum ≤ bs.sum
  | [], _, _, _ => by simp
  | a :: l, [], h, _ => by simp at h
  | a :: l, b :: bs, h, k => by
    have ih := sum_of (f := f) (l := l) (bs := bs) (by simpa using h) (fun i x hi => by have := k (i + 1) x (by simpa using hi); simpa using this)
    obtain ⟨b', hb, hle⟩ := k 0 a rfl
    have : b = b' := by simpa using hb
    simp only [List.map_cons, List.sum_cons]; omega
theorem open_filesC {fuel : Nat} {cs : List Value} {x : DataW H × List MemPlace} (h : DataW.trod enc Try.prog w base spare held fuel 22 cs = some x) :
    ∃ (A : Option Addr) (c : Nat) (l : List Fl), cs = [.slice A l.length c] ∧ Lies 2 Fl.cells w w.heap.size A l ∧ wtF l ≤ Rows.uptoBulk x.1 := by
  obtain ⟨A, c, l, bs, e, h1, h2, h3, h4, h5, h6, h7⟩ := open_list_bulk (size := 2) (cells := Fl.cells) (OK := fun f b => 2 + f.d.size ≤ b) Try.underlying22 (by kernel_rfl) (fun _ => by simp [Fl.cells]) (fun {n cs x} _ ht => trod_file ht) h
  have := sum_of (f := fun f : Fl => 2 + f.d.size) h4 h7
  exact ⟨A, c, l, e, h3, by unfold wtF; omega⟩
theorem open_writesC {fuel : Nat} {cs : List Value} {x : DataW H × List MemPlace} (h : DataW.trod enc Try.prog w base spare held fuel 23 cs = some x) :
    ∃ (A : Option Addr) (c : Nat) (l : List Wr), cs = [.slice A l.length c] ∧ l.length ≤ c ∧ c ≤ maxLen ∧ Lies 4 Wr.cells w w.heap.size A l ∧ wtW l ≤ Rows.uptoBulk x.1 := by
  obtain ⟨A, c, l, bs, e, h1, h2, h3, h4, h5, h6, h7⟩ := open_list_bulk (size := 4) (cells := Wr.cells) (OK := fun f b => 2 + f.d.size ≤ b) Try.underlying23 (by kernel_rfl) (fun _ => by simp [Wr.cells]) (fun {n cs x} _ ht => trod_write ht) h
  have := sum_of (f := fun f : Wr => 2 + f.d.size) h4 h7
  exact ⟨A, c, l, e, h1, h2, h3, by unfold wtW; omega⟩
theorem open_writes {v : Value} {d : DataW H} {p : List MemPlace} {r : Reach} {b0 : Nat} (hv : Value.okWide Try.prog w r b0 23 v) (h : DataW.Trod enc Try.prog w base spare held 23 v d p) :
    ∃ (A : Option Addr) (c : Nat) (l : List Wr), v = .slice A l.length c ∧ l.length ≤ c ∧ c ≤ maxLen ∧ Lies 4 Wr.cells w w.heap.size A l ∧ wtW l ≤ Rows.uptoBulk d := by
  obtain ⟨a0, n0, c0, rfl⟩ := okWide_slice Try.underlying23 hv
  obtain ⟨fuel, hf⟩ := h
  simp only [Value.cells] at hf
  obtain ⟨A, c, l, e, h1⟩ := open_writesC hf
  exact ⟨A, c, l, by simpa using e, h1⟩
set_option maxRecDepth 100000 in
theorem trod_disk {fuel : Nat} {cs : List Value} {x : DataW H × List MemPlace} (h : DataW.trod enc Try.prog w base spare held fuel 25 cs = some x) : ∃ y : Dl, cs = y.cells ∧ DIn w w.heap.size y ∧ (-9223372036854775808 ≤ y.fuse ∧ y.fuse ≤ 9223372036854775807) ∧ wtD y.d ≤ Rows.uptoBulk x.1 := by
  obtain ⟨xs, n, _, hx, hlen, hxs, hf⟩ := DataW.trod_struct Try.underlying25 h
  have hc : Try.prog.cellsOf 25 = 5 := by kernel_rfl
  have hc0 : Try.prog.cellsOf 22 = 1 := by kernel_rfl
  have hc1 : Try.prog.cellsOf 23 = 1 := by kernel_rfl
  have hc2 : Try.prog.cellsOf 3 = 1 := by kernel_rfl
  have hc3 : Try.prog.cellsOf 4 = 1 := by kernel_rfl
  rw [hc] at hlen
  match cs, hlen with
  | [c0, c1, c2, c3, c4], _ =>
    have h0 := hf 0 _ rfl
    have h1 := hf 1 _ rfl
    have h2 := hf 2 _ rfl
    have h3 := hf 3 _ rfl
    have h4 := hf 4 _ rfl
    match xs, hxs with
    | [y0, y1, y2, y3, y4], _ =>
      simp only [hc0, hc1, hc2, hc3, List.drop_zero, List.take_succ_cons, List.take_zero, List.drop_succ_cons, List.getElem?_cons_zero, List.getElem?_cons_succ] at h0 h1 h2 h3 h4
      obtain ⟨A0, k0_, l0, e0, i0, m0⟩ := open_filesC h0
      obtain ⟨A1, k1_, l1, e1, g1, _, i1, m1⟩ := open_writesC h1
      obtain ⟨n2, e2, _, w2⟩ := DataW.trod_int Try.underlying3 h2
      obtain ⟨n3, e3, _⟩ := DataW.trod_bool Try.underlying4 h3
      obtain ⟨n4, e4, _, w4⟩ := DataW.trod_int Try.underlying3 h4
      obtain rfl := (List.cons.inj e0).1
      obtain rfl := (List.cons.inj e1).1
      obtain rfl := (List.cons.inj e2).1
      obtain rfl := (List.cons.inj e3).1
      obtain rfl := (List.cons.inj e4).1
      have hM : Rows.uptoBulk x.1 = Rows.uptoBulk y0.1 + (Rows.uptoBulk y1.1 + (Rows.uptoBulk y2.1 + (Rows.uptoBulk y3.1 + (Rows.uptoBulk y4.1 + 0)))) + 1 := by
        rw [hx]
        simp only [List.map_cons, List.map_nil, Rows.uptoBulk, Rows.uptoBulkAll]
      refine ⟨⟨A0, k0_, l0, A1, k1_, l1, n2, n3, n4⟩, rfl, ⟨i0, i1, g1⟩, wf_i64 w4, ?_⟩
      unfold wtD Dl.d
      dsimp only
      omega
theorem open_disk {v : Value} {d : DataW H} {p : List MemPlace} {r : Reach} {b0 : Nat} (hv : Value.okWide Try.prog w r b0 25 v) (h : DataW.Trod enc Try.prog w base spare held 25 v d p) : ∃ y : Dl, v = y.val ∧ DIn w w.heap.size y ∧ (-9223372036854775808 ≤ y.fuse ∧ y.fuse ≤ 9223372036854775807) ∧ wtD y.d ≤ Rows.uptoBulk d := by
  obtain ⟨cs, rfl, hsz⟩ := okWide_struct Try.underlying25 hv
  obtain ⟨fuel, hf⟩ := h
  obtain ⟨e, he, hok⟩ := trod_disk hf
  refine ⟨e, ?_, hok⟩
  obtain ⟨l⟩ := cs
  simp only [Value.cells] at he
  unfold Dl.val
  rw [show l = e.cells from by simpa using he]
  rfl
end
end Go.Proofs.Ytcgplhmicfmjeaa
