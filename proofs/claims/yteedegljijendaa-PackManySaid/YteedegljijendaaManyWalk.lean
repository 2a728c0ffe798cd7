/- The walk of the law 'frames one behind the other'. -/
import Derived.Test.YteedegljijendaaBackWalk
namespace Go.Proofs.Yteedegljijendaa
open Go.RowKit

/-- frames one behind the other -/
def framesS (P : List ByteArray) : List UInt8 := (P.map fun p => txt p.data.toList ++ sealS p.data.toList).flatten
theorem framesS_snoc (P : List ByteArray) (p : ByteArray) : framesS (P ++ [p]) = framesS P ++ (txt p.data.toList ++ sealS p.data.toList) := by simp [framesS]
theorem framesS_cons (P : List ByteArray) (p : ByteArray) : framesS (p :: P) = txt p.data.toList ++ sealS p.data.toList ++ framesS P := by simp [framesS]
theorem framesS_len (P : List ByteArray) : P.length ≤ (framesS P).length := by
  induction P with
  | nil => simp
  | cons p P ih => rw [framesS_cons, List.length_cons, List.length_append, List.length_append, seal_len]; omega
theorem framesS_drop (P : List ByteArray) (k : Nat) (h : k < P.length) : framesS (P.drop k) = txt P[k].data.toList ++ sealS P[k].data.toList ++ framesS (P.drop (k + 1)) := by
  rw [List.drop_eq_getElem_cons h, framesS_cons]

/-- a slice of strings that came in reads as a list -/
def ReadsS (w : World) (B : Nat) (A : Option Addr) (ss : List ByteArray) : Prop :=
  ∀ (i : Nat) s, ss[i]? = some s → ∃ b o, A = some ⟨b, o, none⟩ ∧ b < B ∧ w.cell? ⟨b, o + i, none⟩ = some (.string s)

theorem infoStr : (Try.prog.info? 9).map (fun i => (i.zero, i.size, i.bytes)) = some (some (.string ⟨#[]⟩), 1, 16) := by kernel_rfl

set_option maxRecDepth 100000 in
set_option maxHeartbeats 1600000 in
theorem many_walk (A : Option Addr) (ss : List ByteArray) (cap : Nat) (w : World) (hr : ReadsS w w.heap.size A ss) (hn : ss.length ≤ maxLen) (hsz : ∀ s ∈ ss, s.size ≤ maxLen) :
    Calls Try.prog 12 #[.slice A ss.length cap] w fun e w' => e = .returned (.bool true) ∧ Below w.heap.size w w' := by
  obtain ⟨i0, hi, hz0, hz1, hz2⟩ := info_parts infoStr
  have hU := Try.underlying46
  have hm := hn
  unfold maxLen at hn
  have HS := Lib.hid hsz; clear hsz
  have HR := Lib.hid hr; clear hr
  go_enter Try.func12, Try.ntmps12
  go_wp2_with fail
  refine (frames_true _).mono ?_
  rintro e w1 ⟨rfl, b1⟩
  go_wp2_with fail
  go_loopw [3, 4, 18] (fun s v i wr => ∃ (k : Nat) (P : List ByteArray), i = .int .i64 (k : Int) ∧ k ≤ ss.length ∧ s = .string ⟨(framesS P).toArray⟩ ∧ (∀ p ∈ P, p.size ≤ 65536) ∧ ((framesS P).length : Int) ≤ 1100000 ∧
      wr.ownsRow w.heap.size 9 1 v P.length (P.map Value.string) ∧ Below w.heap.size w wr)
    (fun _ _ i _ => ss.length - (intOf i).toNat)
  case atStart => exact ⟨0, [], rfl, by omega, rfl, by simp, by simp [framesS], World.ownsRow_nil _ _ _ _, b1⟩
  case round =>
    obtain ⟨k, P, rfl, hk, rfl, hP, hL, hown, hb⟩ := hrel
    have HP := Lib.hid hP; clear hP
    have zf := sizeL (framesS P)
    have hPL := framesS_len P
    by_cases hlt : k < ss.length
    · obtain ⟨b, o, rfl, hbB, hc0⟩ := HR.out k ss[k] (by rw [List.getElem?_eq_getElem hlt])
      have hcell : wr.cell? ⟨b, o + k, none⟩ = some (.string ss[k]) := (hb.cell hbB).trans hc0
      have hsk := HS.out ss[k] (List.getElem_mem hlt)
      have hfr := fun w => Lib.hid (frame_any ss[k] w hsk)
      have ll := len_of ss[k]
      generalize hp : ss[k] = p at hcell hfr ll
      clear hsk hp hc0
      by_cases hlong : 65536 < p.data.toList.length
      · rw [frm_long hlong] at hfr
        go_wp2_with fail
        refine (hfr _).out.mono ?_
        rintro e w2 ⟨rfl, b2⟩
        unfold pairS
        go_wp2_with fail
        go_roundw
        case rel => exact ⟨k + 1, P, by go_num, by omega, rfl, HP.out, hL, own_below hown b2, below_then hb (Nat.le_refl _) b2⟩
        case measure => simp [intOf]; omega
      · rw [frm_fits hlong] at hfr
        have hfl : (txt p.data.toList ++ sealS p.data.toList).length ≤ 65560 := by
          rw [List.length_append, seal_len]
          have := txt_len (l := p.data.toList) (by omega)
          omega
        by_cases hroom : ((framesS P).length : Int) < 1000000
        · go_wp2_with fail
          refine (hfr _).out.mono ?_
          rintro e w2 ⟨rfl, b2⟩
          unfold pairS
          have hown2 := own_below hown b2
          have hb2 := below_then hb (Nat.le_refl _) b2
          clear hcell hown b2 hfr hb
          have zf2 := sizeL (txt p.data.toList ++ sealS p.data.toList)
          generalize hfb : txt p.data.toList ++ sealS p.data.toList = fb at hfl zf2
          have Hfb := Lib.hid hfb; clear hfb
          go_wp2_with (at_builtin; refine wpList_push _ rfl _ _ 46 rfl w.heap.size 9 i0 (.string ⟨#[]⟩) 1 16 hU hi hz0 hz1 hz2 rfl (by decide) _ _ _ rfl hown2 _ rfl rfl ?c1 ?c2 ?c3 ?c4 ?_)
          case c1 => rfl
          case c2 => unfold maxLen; omega
          case c3 => omega
          case c4 => exact hb2.size
          intro v' w' ho' hb' _ _
          go_wp2_with fail
          go_roundw
          case rel =>
            refine ⟨k + 1, P ++ [p], by go_num, by omega, by rw [str_app, framesS_snoc, Hfb.out], ?_, by rw [framesS_snoc, Hfb.out, List.length_append]; omega, by simpa using ho', hb2.trans hb'⟩
            intro q hq
            rcases List.mem_append.1 hq with hq | hq
            · exact HP.out q hq
            · obtain rfl : q = p := by simpa using hq
              omega
          case measure => simp [intOf]; omega
        · have hroom' : decide (((framesS P).length : Int) < 1000000) = false := by simpa using hroom
          have HL := Lib.hid hL
          clear hroom hfl hL
          go_wp2_with fail
          refine (hfr _).out.mono ?_
          rintro e w2 ⟨rfl, b2⟩
          unfold pairS
          go_wp2_with fail
          have hL := HL.out
          go_roundw
          case rel => exact ⟨k + 1, P, by go_num, by omega, rfl, HP.out, hL, own_below hown b2, below_then hb (Nat.le_refl _) b2⟩
          case measure => simp [intOf]; omega
    · obtain rfl : k = ss.length := by omega
      have hform : ∃ A' c', u4 = .slice A' P.length c' := by
        rcases hown.2 with ⟨rfl, h0⟩ | ⟨g, c, cur, rfl, _⟩
        · exact ⟨none, 0, by rw [h0]⟩
        · exact ⟨_, _, rfl⟩
      obtain ⟨A', c', rfl⟩ := hform
      have HO := Lib.hid hown; clear hown
      obtain ⟨wo, rfl⟩ : ∃ wo : World, wo = wr := ⟨_, rfl⟩
      go_wp2_with fail
      go_loopw [3, 44] (fun s i w2 => ∃ (k : Nat), i = .int .i64 (k : Int) ∧ k ≤ P.length ∧ s = .string ⟨(framesS (P.drop k)).toArray⟩ ∧ Below wo.heap.size wo w2)
        (fun _ i _ => P.length - (intOf i).toNat)
      case atStart => exact ⟨0, rfl, by omega, rfl, Below.refl _ _⟩
      case round =>
        obtain ⟨k, rfl, hk', rfl, hb2⟩ := hrel
        by_cases hlt' : k < P.length
        · obtain ⟨g, c, cur, hv, hg, hgg⟩ : ∃ g c cur, Value.slice A' P.length c' = .slice (some ⟨g, 0, none⟩) P.length c ∧ w.heap.size ≤ g ∧ wo.heap[g]? = some (.cells cur 9 (0, 0)) := by
            rcases HO.out.2 with ⟨_, h0⟩ | ⟨g, c, cur, h1, h2, h3, _⟩
            · omega
            · exact ⟨g, c, cur, h1, h2, h3⟩
          injection hv with hA _ hc
          subst hA hc
          have hglt : g < wo.heap.size := (Array.getElem?_eq_some_iff.1 hgg).1
          have hcell : wr.cell? ⟨g, k, none⟩ = some (.string P[k]) := by
            rw [hb2.cell (p := ⟨g, k, none⟩) hglt, HO.out.cellAt k (by omega)]
            simp [List.getElem?_eq_getElem hlt']
          have hpk := HP.out P[k] (List.getElem_mem hlt')
          have hdl : (framesS (P.drop k)).length ≤ (framesS P).length := by
            have : framesS P = framesS (P.take k) ++ framesS (P.drop k) := by
              unfold framesS; rw [← List.flatten_append, ← List.map_append, List.take_append_drop]
            rw [this, List.length_append]; omega
          have hT := fun w => takeFrame_any ⟨(framesS (P.drop k)).toArray⟩ w (by rw [sizeL]; unfold maxLen; omega)
          simp only at hT
          rw [framesS_drop P k hlt', tf_back _ _ (by rw [len_of]; omega), ← framesS_drop P k hlt'] at hT
          have HT := fun w => Lib.hid (hT w)
          generalize hp : P[k] = p at hcell HT
          have ep : (⟨p.data.toList.toArray⟩ : ByteArray) = p := (str_of p).symm
          clear hT hpk hdl hgg
          go_wp2_with fail
          refine (HT _).out.mono ?_
          rintro e w3 ⟨rfl, b3⟩
          unfold tripleS
          simp only [ep]
          clear ep
          go_wp2_with fail
          go_roundw
          case rel => exact ⟨k + 1, by go_num, by omega, rfl, below_then hb2 (Nat.le_refl _) b3⟩
          case measure => simp [intOf]; omega
        · obtain rfl : k = P.length := by omega
          have he : (⟨(framesS (P.drop P.length)).toArray⟩ : ByteArray) = ⟨#[]⟩ := by simp [framesS]
          rw [he]
          go_wp2_with fail
          go_ret
          exact ⟨rfl, below_then hb (Nat.le_refl _) hb2⟩
end Go.Proofs.Yteedegljijendaa
