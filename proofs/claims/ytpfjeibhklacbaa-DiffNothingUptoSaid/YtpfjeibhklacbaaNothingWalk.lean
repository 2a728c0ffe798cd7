/- DiffNothing returns true. -/
import Derived.Test.YtpfjeibhklacbaaDLive
namespace Go.Proofs.Ytpfjeibhklacbaa
open Go Go.RowKit

theorem wrap64_in (n : Int) (h : -9223372036854775808 ≤ n ∧ n ≤ 9223372036854775807) : wrap64 n = n := by
  first
    | exact IntWalk.i64_in n h
    | (unfold wrap64; have := IntWalk.i64_in n h; rw [IntKind.wrap_i64] at this; first | exact this | omega)
    | (unfold wrap64; omega)
theorem own_fifth {w : World} {P : Nat} {t : TypeId} {z0 z1 z2 z3 z4 z5 : Value} (h : Own w P t [z0, z1, z2, z3, z4, z5]) (f : Value) :
    ∃ X, X = w.setCell ⟨P, 5, none⟩ f ∧ Own X P t [z0, z1, z2, z3, z4, f] ∧ (∀ B u, Below B u w → B ≤ P → Below B u X) ∧ X.heap.size = w.heap.size ∧ (∀ Q t' l, Q ≠ P → Own w Q t' l → Own X Q t' l) :=
  ⟨_, rfl, h.set_ 5 f, fun B u hb hB => hb.setCell (p := ⟨P, 5, none⟩) hB _, by simp [World.setCell], fun Q t' l hQ ho => ho.other (p := ⟨P, 5, none⟩) (fun e => hQ e.symm) _⟩
theorem infoUp' : (Try.prog.info? 38).map (fun i => (i.zero, i.size, i.bytes)) = some (some (.agg #[.slice none 0 0, .slice none 0 0, .int .u64 0, .int .u64 0, .int .u64 0, .int .i64 0]), 6, 80) := by kernel_rfl
theorem own_keepU {w w' : World} {base n : Nat} {e : TypeId} {v : Value} {xs : List Value} (h : w.ownsRow base e 6 v n xs) (hb : Below w.heap.size w w') : w'.ownsRow base e 6 v n xs := own_below h hb
set_option maxRecDepth 100000 in
set_option maxHeartbeats 6400000 in
theorem nothing_walk (A : Option Addr) (c : Nat) (l : List Up) (w : World) (hl : Ups w w.heap.size A l) (hok : ∀ u ∈ l, UOk u) (_ : l.length ≤ c) (_ : c ≤ maxLen) (hn : l.length ≤ 1048576) :
    Calls Try.prog 7 #[.slice A l.length c] w fun e w' => e = .returned (.bool true) ∧ Below w.heap.size w w' := by
  obtain ⟨i0, hi, hz0, hz1, hz2⟩ := info_parts infoUp'
  have HI := Lib.hid (And.intro Try.underlying23 (And.intro hi (And.intro hz0 (And.intro hz1 hz2))))
  have y0 := fun W => Lib.hid (lists_true W)
  have HL := Lib.hid (And.intro hl hok)
  clear hl hok hi hz0 hz1 hz2
  go_enter Try.func7, Try.ntmps7
  go_wp2_with fail
  refine (y0 _).out.mono ?_
  rintro e w1 ⟨rfl, b1⟩
  have H1 := Lib.hid b1
  clear b1
  go_wp2_with fail
  go_loopw [3, 13] (fun v3 v13 wr => ∃ j : Nat, v13 = .int .i64 (j : Int) ∧ j ≤ l.length ∧ wr.ownsRow w.heap.size 38 6 v3 (bothU (l.take j)).length ((bothU (l.take j)).flatMap Up.cells) ∧ Below w.heap.size w wr)
    (fun _ v13 _ => l.length - (intOf v13).toNat)
  case atStart => exact ⟨0, rfl, by omega, World.ownsRow_nil _ _ _ _, H1.out⟩
  case round =>
    obtain ⟨j, rfl, hj, hownj, hbj⟩ := hrel
    obtain ⟨wi, hwi⟩ : ∃ wi, wi = wr := ⟨_, rfl⟩
    subst hwi
    by_cases hjt : j < l.length
    · have hy : l[j]? = some l[j] := List.getElem?_eq_getElem hjt
      have hym := List.mem_of_getElem? hy
      generalize l[j] = u at *
      obtain ⟨b, o, rfl, hB, hys⟩ := lies_up HL.out.1.head (by omega)
      obtain ⟨e0, e1, e2, e3, e4, e5⟩ := ((hys j u hy).past_ hbj hB).six
      obtain ⟨V, hV, hvb, hvs, hvo⟩ := upbox wi u
      obtain ⟨V2, hV2, hvb2, hvs2, hvo2⟩ := upbox V u
      have hoV2 := hvo.past hvb2 hvo.inside
      rw [hvs] at hvo2
      obtain ⟨X, hX, hxo, hxb, hxs, hxr⟩ := own_fifth hvo2 (.int .i64 (wrap64 (-u.d)))
      have hfz := (own_frozen6 hvo2).2.2.2.2.2
      have hnx := both_next hy
      have hlen := both_len (l.take j)
      rw [List.length_take] at hlen
      have hln : (bothU (l.take j)).length ≤ 2097152 := by omega
      have hbX : Below wi.heap.size wi X := hxb _ _ (hvb.trans (hvb2.mono (by omega))) (Nat.le_succ _)
      have hoX : Own X wi.heap.size 38 u.cells := hxr _ _ _ (by omega) (hvo.past hvb2 hvo.inside)
      have hdn := (HL.out.2 u hym).dn
      have HJ := Lib.hid (And.intro hnx (And.intro (hbj.trans (hbX.mono hbj.size)) (And.intro (own_keepU hownj hbX) (And.intro hoX (And.intro hxo (And.intro hvo2 hfz))))))
      have q3 : (0 : Int) ≤ (j : Int) := by omega
      have q4 : (j : Int) < (l.length : Int) := by omega
      have q5 : decide ((j : Int) < (l.length : Int)) = true := decide_eq_true q4
      generalize bothU (l.take j) = us at *
      clear hy hym hys hvb hvb2 hvs2 hownj hnx hlen hbX hoX hxo hvo2 hxs hxr hxb hbj
      go_upto_region 7 with fail
      rw [← hV]
      clear hV e0 e1 e2 e3 e4 e5
      obtain ⟨e0, e1, e2, e3, e4, e5⟩ := own6 hvo
      go_upto_region 8 with fail
      rw [← hV2]
      clear hV2 e0 e1 e2 e3 e4 e5
      have hx5 := (own6 hoV2).2.2.2.2.2
      have hx6 := (own6 HJ.out.2.2.2.2.2.1).2.2.2.2.2
      clear hoV2 hvo
      go_upto_region 9 with fail
      rw [← hX]
      clear hX hx5 hx6 hfz
      have hso := Lib.hid (fun W (h : Own W wi.heap.size 38 u.cells) => (own6 h : W.cell? ⟨wi.heap.size, 0, none⟩ = some (.slice u.kA u.key.length u.kc) ∧ W.cell? ⟨wi.heap.size, 1, none⟩ = some (.slice u.rA u.row.length u.rc) ∧ W.cell? ⟨wi.heap.size, 2, none⟩ = some (.int .u64 (u.t.e : Int)) ∧ W.cell? ⟨wi.heap.size, 3, none⟩ = some (.int .u64 (u.t.a : Int)) ∧ W.cell? ⟨wi.heap.size, 4, none⟩ = some (.int .u64 (u.t.b : Int)) ∧ W.cell? ⟨wi.heap.size, 5, none⟩ = some (.int .i64 u.d)))
      obtain ⟨e0, e1, e2, e3, e4, e5⟩ := hso.out X HJ.out.2.2.2.1
      by_cases hbig : -9223372036854775807 < u.d
      · have t1 : decide (-9223372036854775807 < u.d) = true := decide_eq_true hbig
        have ew : wrap64 (-u.d) = -u.d := wrap64_in _ (by omega)
        obtain ⟨f0, f1, f2, f3, f4, f5⟩ := own6 HJ.out.2.2.2.2.1
        rw [ew] at f5
        have HG := Lib.hid hbig
        clear hbig
        have hp := Lib.hid (pair_up X u u.less)
        have hsz : w.heap.size ≤ X.heap.size := HJ.out.2.1.size
        have hbX := Lib.hid ((HJ.out.2.1).alloc hsz (.cells #[.slice u.kA u.key.length u.kc, .slice u.rA u.row.length u.rc, .int .u64 (u.t.e : Int), .int .u64 (u.t.a : Int), .int .u64 (u.t.b : Int), .int .i64 u.d, .slice u.kA u.key.length u.kc, .slice u.rA u.row.length u.rc, .int .u64 (u.t.e : Int), .int .u64 (u.t.a : Int), .int .u64 (u.t.b : Int), .int .i64 (-u.d)] 38))
        have hoX := Lib.hid (own_keepU HJ.out.2.2.1 ((Below.refl _ X).alloc (Nat.le_refl _) (.cells #[.slice u.kA u.key.length u.kc, .slice u.rA u.row.length u.rc, .int .u64 (u.t.e : Int), .int .u64 (u.t.a : Int), .int .u64 (u.t.b : Int), .int .i64 u.d, .slice u.kA u.key.length u.kc, .slice u.rA u.row.length u.rc, .int .u64 (u.t.e : Int), .int .u64 (u.t.a : Int), .int .u64 (u.t.b : Int), .int .i64 (-u.d)] 38)))
        have hsz2 : w.heap.size ≤ X.heap.size + 1 := by omega
        go_wp2_with (at_builtin; refine wpList_append_lies _ rfl (.tmp 25) (.tmp 28) 23 38 rfl i0 _ 80 HI.out.1 HI.out.2.1 HI.out.2.2.1 HI.out.2.2.2.1 HI.out.2.2.2.2 rfl (by decide) ucells_len ucells_one w.heap.size _ _ _ rfl hoX.out 2 rfl hp.out ?m1 ?m2 ?m3 ?m4)
        case m1 => show us.length + 2 ≤ maxLen; unfold maxLen; omega
        case m2 => show (us.length + 2) * 80 ≤ 140737488355328; omega
        case m3 => simp; omega
        intro v' w' ho' hb'
        have HA := Lib.hid (And.intro ho' hb')
        clear ho' hb' e0 e1 e2 e3 e4 e5 f0 f1 f2 f3 f4 f5
        go_wp2_with fail
        go_roundw
        case rel =>
          refine ⟨j + 1, by go_num, by omega, ?_, hbX.out.trans HA.out.2⟩
          rw [HJ.out.1, if_pos HG.out, List.flatMap_append, List.length_append]
          exact HA.out.1
        case measure => simp [intOf]; omega
      · have t1 : decide (-9223372036854775807 < u.d) = false := decide_eq_false hbig
        have HG := Lib.hid hbig
        clear hbig
        go_wp2_with fail
        go_roundw
        case rel =>
          refine ⟨j + 1, by go_num, by omega, ?_, HJ.out.2.1⟩
          rw [HJ.out.1, if_neg HG.out, List.append_nil]
          exact HJ.out.2.2.1
        case measure => simp [intOf]; omega
    · have hj2 : j = l.length := by omega
      subst hj2
      rw [List.take_length] at hownj
      obtain ⟨A3, c3, rfl, _, _, h3⟩ := lies_of_own (size := 6) (cells := Up.cells) (by decide) ucells_len rfl hownj
      have hu3 : Ups wi wi.heap.size A3 (bothU l) := ⟨h3, both_in fun u hu => ((HL.out.1.each_ u hu).past hbj (Nat.le_refl _)).wide hbj.size⟩
      obtain ⟨V, hV, hvb, hvl⟩ := one_list wi A3 c3 (bothU l) hu3
      have hlen := both_len l
      have hcall := consolidate_any (some ⟨wi.heap.size, 0, none⟩) 1 [⟨A3, c3, bothU l⟩] V hvl (fun s hs u hu => by
        obtain rfl : s = ⟨A3, c3, bothU l⟩ := by simpa using hs
        exact both_ok HL.out.2 u hu) (by simp [flatR]; omega) (by simp)
      unfold UpsSays at hcall
      simp only [List.map_cons, List.map_nil, both_none] at hcall
      generalize consE [bothU l] = E at hcall
      have HC := Lib.hid hcall
      have HV := Lib.hid (hbj.trans (hvb.mono hbj.size))
      have q5 : decide ((l.length : Int) < (l.length : Int)) = false := decide_eq_false (by omega)
      clear hownj h3 hu3 hvb hvl hlen hcall hbj
      go_wp2_with fail
      rw [← hV]
      clear hV
      refine HC.out.mono ?_
      rintro _ w4 ⟨A4, k4, outL, rfl, hp4, _, _, b4⟩
      obtain rfl : outL = [] := List.map_eq_nil_iff.1 hp4
      have HF := Lib.hid (HV.out.trans (b4.mono HV.out.size))
      clear hp4 b4 HC
      by_cases hE : E = 0
      · subst hE
        go_wp2_with fail
        go_ret
        exact ⟨rfl, HF.out⟩
      · have t1 : (E != 0) = true := bne_iff_ne.2 hE
        clear hE
        go_wp2_with fail
        go_ret
        exact ⟨rfl, HF.out⟩
end Go.Proofs.Ytpfjeibhklacbaa
