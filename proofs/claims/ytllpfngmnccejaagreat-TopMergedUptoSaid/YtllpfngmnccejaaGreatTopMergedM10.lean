/- Part 10 of the texts on which TopMerged rests: facts and contracts. -/
import Derived.Test.YtllpfngmnccejaaGreatTopMergedM9
import Derived.Lib.SlBuf
import Derived.Deep.RegionWith
namespace Go.Proofs.YtllpfngmnccejaaGreat
open Go Go.RowKit

def catB (ps : List ByteArray) : ByteArray := ⟨(ps.flatMap (fun p => p.data.toList)).toArray⟩
theorem catB_nil : catB [] = ⟨#[]⟩ := rfl
theorem catB_more (ps : List ByteArray) (d : ByteArray) : catB (ps ++ [d]) = catB ps ++ d := by
  apply str_ext; simp [catB]
theorem catB_size (ps : List ByteArray) : (catB ps).size = (ps.map ByteArray.size).sum := by
  unfold catB
  rw [sizeL]
  induction ps with
  | nil => rfl
  | cons p ps ih => rw [List.flatMap_cons, List.length_append, ih, List.map_cons, List.sum_cons, len_of]
theorem join_cat (ps : List ByteArray) : Lib.join (ps.map (·.data.toList)) [] = ps.flatMap (fun p => p.data.toList) := by
  have h : ∀ xs : List (List UInt8), Lib.join xs [] = xs.flatten := fun xs => by
    cases xs with
    | nil => rfl
    | cons x r =>
      rw [Lib.join_cons]
      unfold Lib.joinTail
      simp
  rw [h, List.flatMap_def]
def Parts (w : World) (base : Nat) (f : Vf) : Prop := w.ownsRow base 9 1 (.slice f.A f.ps.length f.c) f.ps.length (f.ps.map Value.string)
theorem parts_at {w : World} {base : Nat} {f : Vf} (h : Parts w base f) (h0 : 0 < f.ps.length) : ∃ g, f.A = some ⟨g, 0, none⟩ ∧ g < w.heap.size ∧ f.ps.length ≤ f.c ∧ ∀ (j : Nat) x, f.ps[j]? = some x → w.cell? ⟨g, j, none⟩ = some (.string x) := by
  rcases row_ownK h with ⟨_, h1, _⟩ | ⟨g, cur, e, hb, hg, hn, hm, hl, ht⟩
  · omega
  · refine ⟨g, e, hg.inside, hn, fun j x hx => ?_⟩
    rw [hg.at_]
    have hlt := (List.getElem?_eq_some_iff.1 hx).1
    have h2 : (f.ps.map Value.string)[j]? = some (.string x) := by rw [List.getElem?_map, hx]; rfl
    rw [← ht, List.getElem?_take] at h2
    rw [if_pos (by omega)] at h2
    exact h2
set_option maxRecDepth 100000 in
set_option maxHeartbeats 800000 in
theorem data_any (base : Nat) (f : Vf) (w : World) (hp : Parts w base f) (hn : f.ps.length ≤ 140737488355328) (hs : (catB f.ps).size ≤ 140737488355328) :
    Calls Tryz.prog 148 #[f.val] w fun e w' => e = .returned (.string (catB f.ps)) ∧ Below w.heap.size w w' := by
  obtain ⟨V, hV⟩ : ∃ V, V = w.alloc (.cells #[.string f.n, .slice f.A f.ps.length f.c] 210) := ⟨_, rfl⟩
  have hVb : Below w.heap.size w V := by rw [hV]; exact (Below.refl _ _).alloc (Nat.le_refl _) _
  have hy : Hid (Calls Tryz.prog 177 #[.slice f.A f.ps.length f.c, .string ⟨#[]⟩] V fun e w' => e = .returned (.string (catB f.ps)) ∧ Below V.heap.size V w') := by
    by_cases h0 : 0 < f.ps.length
    · obtain ⟨g, hA, hg, hc, hat⟩ := parts_at hp h0
      rw [hA]
      have hl : (Lib.join (f.ps.map (·.data.toList)) []).length ≤ 140737488355328 := by
        rw [join_cat]; unfold catB at hs; rw [sizeL] at hs; exact hs
      refine Lib.hid ((Tryz.strings_Join g 0 f.c f.ps ⟨#[]⟩ V (fun j x hx => ?_) (Nat.lt_of_lt_of_le hg hVb.size) hn hc hl).mono ?_)
      · rw [Nat.zero_add]; exact (hVb.cell (p := ⟨g, j, none⟩) hg).trans (hat j x hx)
      · rintro e w' ⟨rfl, h⟩
        refine ⟨?_, h⟩
        have : (Lib.join (f.ps.map (·.data.toList)) ([] : List UInt8)).toArray = (f.ps.flatMap (fun p => p.data.toList)).toArray := by rw [join_cat]
        show Ending.returned (Value.string ⟨(Lib.join (f.ps.map (·.data.toList)) ([] : List UInt8)).toArray⟩) = _
        rw [this]; rfl
    · have hz : f.ps = [] := List.length_eq_zero_iff.1 (by omega)
      rw [hz]
      exact Lib.hid ((Tryz.strings_Join_none f.A f.c ⟨#[]⟩ V).mono fun e w' ⟨h1, h2⟩ => ⟨h1, by rw [h2]; exact Below.refl _ _⟩)
  have HB := Lib.hid hVb
  unfold Vf.val
  clear hp hVb
  go_enter Tryz.func148, Tryz.ntmps148
  go_wp2_with fail
  rw [← hV]
  clear hV
  refine hy.out.mono ?_
  rintro e w1 ⟨rfl, b1⟩
  go_wp2_with fail
  go_ret
  exact ⟨rfl, HB.out.trans (b1.mono HB.out.size)⟩
theorem sum_take {ps : List ByteArray} {k : Nat} {x : ByteArray} (h : ps[k]? = some x) : ((ps.take (k + 1)).map ByteArray.size).sum = ((ps.take k).map ByteArray.size).sum + x.size := by
  rw [List.take_add_one, h]
  simp
theorem sum_take_le (ps : List ByteArray) (k : Nat) : ((ps.take k).map ByteArray.size).sum ≤ (ps.map ByteArray.size).sum := by
  have : ps.map ByteArray.size = (ps.take k).map ByteArray.size ++ (ps.drop k).map ByteArray.size := by rw [← List.map_append, List.take_append_drop]
  rw [this, List.sum_append]; omega
set_option maxRecDepth 100000 in
set_option maxHeartbeats 800000 in
theorem size_any (base : Nat) (f : Vf) (w : World) (hp : Parts w base f) (hn : f.ps.length ≤ 140737488355328) (hs : (catB f.ps).size ≤ 140737488355328) :
    Calls Tryz.prog 208 #[f.val] w fun e w' => e = .returned (.int .i64 ((catB f.ps).size : Int)) ∧ Below w.heap.size w w' := by
  obtain ⟨V, hV⟩ : ∃ V, V = w.alloc (.cells #[.string f.n, .slice f.A f.ps.length f.c] 210) := ⟨_, rfl⟩
  have hVb : Below w.heap.size w V := by rw [hV]; exact (Below.refl _ _).alloc (Nat.le_refl _) _
  have hat : Hid (∀ (j : Nat) x, f.ps[j]? = some x → ∃ g, f.A = some ⟨g, 0, none⟩ ∧ V.cell? ⟨g, j, none⟩ = some (.string x)) := by
    refine Lib.hid (fun j x hx => ?_)
    obtain ⟨g, hA, hg, hc, hat⟩ := parts_at hp (by have := (List.getElem?_eq_some_iff.1 hx).1; omega)
    exact ⟨g, hA, (hVb.cell (p := ⟨g, j, none⟩) hg).trans (hat j x hx)⟩
  have HB := Lib.hid hVb
  rw [catB_size] at hs ⊢
  unfold Vf.val
  clear hp hVb
  go_enter Tryz.func208, Tryz.ntmps208
  go_wp2_with fail
  rw [← hV]
  clear hV
  go_loopw [3, 9] (fun s i wr => ∃ k : Nat, i = .int .i64 (k : Int) ∧ k ≤ f.ps.length ∧ s = .int .i64 (((f.ps.take k).map ByteArray.size).sum : Int) ∧ V = wr) (fun _ i _ => f.ps.length - (intOf i).toNat)
  case atStart => exact ⟨0, rfl, by omega, rfl, rfl⟩
  case round =>
    obtain ⟨k, rfl, hk, rfl, rfl⟩ := hrel
    by_cases hlt : k < f.ps.length
    · have hx : f.ps[k]? = some f.ps[k] := List.getElem?_eq_getElem hlt
      obtain ⟨g, hA, hc⟩ := hat.out k _ hx
      have hs1 := sum_take hx
      have hs2 := sum_take_le f.ps (k + 1)
      rw [hs1] at hs2
      generalize f.ps[k] = x at *
      rw [hA]
      generalize ((f.ps.take k).map ByteArray.size).sum = S at *
      have HS := Lib.hid hs1
      have hw : IntKind.i64.wrap ((S : Int) + (x.size : Int)) = (S : Int) + (x.size : Int) := by rw [IntKind.wrap_i64]; omega
      clear hs1 hx hs2 hs
      go_wp2_with fail
      go_roundw
      case rel => exact ⟨k + 1, by go_num, by omega, by rw [HS.out]; simp, trivial⟩
      case measure => simp [intOf]; omega
    · have hk2 : k = f.ps.length := by omega
      subst hk2
      rw [List.take_length]
      go_wp2_with fail
      go_ret
      exact ⟨rfl, HB.out⟩
end Go.Proofs.YtllpfngmnccejaaGreat
namespace Go.Proofs.YtllpfngmnccejaaGreat
open Go Go.RowKit

theorem growslice_ok {n c : Nat} (h : c < n) (hb : n * 40 ≤ 140737488355328) : Builtin.nextslicecap n c * 40 ≤ 281474976710656 := growslice_fits h hb
set_option maxRecDepth 100000 in
set_option maxHeartbeats 1600000 in
theorem insert_end (base n c vb : Nat) (A : Option Addr) (xs : List Value) (f : Vf) (w : World) (ho : w.ownsRow base 210 2 (.slice A n c) n xs) (hv : Own w vb 210 f.cells) (hn : (n + 1) * 40 ≤ 140737488355328) (hbase : base ≤ w.heap.size) :
    Calls Tryz.prog 241 #[.slice A n c, .int .i64 (n : Int), .slice (some ⟨vb, 0, none⟩) 1 1] w fun e w' => ∃ v', e = .returned v' ∧
      w'.ownsRow base 210 2 v' (n + 1) (xs ++ f.cells) ∧ w.grownBy w' (Value.slice A n c).ownBlock ∧ (v'.ownBlock = (Value.slice A n c).ownBlock ∨ v'.ownBlock = some w.heap.size) := by
  obtain ⟨i0, hi, hz0, hz1, hz2⟩ := info_parts infoVf
  have hU := Tryz.underlying149
  have hl : Lies 2 Vf.cells w w.heap.size (some ⟨vb, 0, none⟩) [f] := fun _ => by
    refine ⟨vb, 0, rfl, hv.inside, fun i x hx j u hu => ?_⟩
    match i, hx with
    | 0, hx =>
      obtain rfl : f = x := by simpa using hx
      rw [show 0 + 0 * 2 + j = j by omega, hv.at_ j]
      exact hu
  have hnews : ∀ j u, (Vf.cells f)[j]? = some u → w.cell? ((⟨vb, 0, none⟩ : Addr).add j) = some u := fun j u hu => by
    have ea : (⟨vb, 0, none⟩ : Addr).add j = ⟨vb, j, none⟩ := by unfold Addr.add; split <;> simp_all
    rw [ea, hv.at_ j]; exact hu
  obtain ⟨v', w', hrun, h2, h3, _, h5⟩ := run_append_own_at (P := Tryz.prog) w base 149 149 210 i0 _ 2 40 hU hi hz0 hz1 hz2 rfl (by decide) (.slice A n c) n xs ho ⟨vb, 0, none⟩ 1 1 f.cells rfl hnews (vf_one f) (by unfold maxLen; omega) hn hbase
  have hr2 : ∀ ty, Hid ((Builtin.append_ #[149, 149] ty #[.slice A n c, .slice (some ⟨vb, 0, none⟩) 1 1]).run Tryz.prog w = .ok v' w') := fun _ => Lib.hid hrun
  have HX := Lib.hid (And.intro h2 (And.intro h3 h5))
  clear hrun h2 h3 h5 hnews hl
  have hnc : n ≤ c := by
    rcases row_ownK ho with ⟨_, h0, _⟩ | ⟨g, cur, _, _, _, h0, _⟩ <;> omega
  clear ho hv
  rcases A with _ | ⟨ab, ao, asp⟩
  all_goals
    go_enter Tryz.func241, Tryz.ntmps241
    go_wp2_with (at_builtin; refine list_append_known _ rfl (.tmp 23) (.tmp 24) 149 149 rfl _ _ rfl rfl (hr2 _).out ?_)
    all_goals
      go_ret
      exact ⟨_, rfl, HX.out.1, HX.out.2.1, HX.out.2.2⟩
theorem own_drewK {w : World} {g : Nat} {t : TypeId} {l : List Value} (h : Own w g t l) : Own w.drew g t l := h
/-- no room: a new row -/
theorem splice_parts {A B C vs : List Value} {o : Nat} (ho : A.length = o) (hb : B.length = vs.length) : splice (A ++ (B ++ C)) o vs = A ++ (vs ++ C) := by
  subst ho
  unfold splice
  rw [List.take_left' rfl, List.append_assoc, List.append_cancel_left_eq, List.append_cancel_left_eq, ← hb, ← List.append_assoc, ← List.length_append, List.drop_left' rfl]
theorem splice3 {l news rest z : List Value} {i n : Nat} (hl : l.length = n * 2) (hi : i < n) (hn : news.length = 2) (hz : z.length = (n + 1 - i) * 2) :
    (splice (splice (l.take (i * 2) ++ z ++ rest) (i * 2) news) ((i + 1) * 2) (l.drop (i * 2))).take ((n + 1) * 2) = l.take (i * 2) ++ news ++ l.drop (i * 2) := by
  have h1 : (l.take (i * 2)).length = i * 2 := by rw [List.length_take]; omega
  have hz2 : z = z.take 2 ++ z.drop 2 := (List.take_append_drop 2 z).symm
  have e1 : splice (l.take (i * 2) ++ z ++ rest) (i * 2) news = l.take (i * 2) ++ (news ++ (z.drop 2 ++ rest)) := by
    have e0 : l.take (i * 2) ++ z ++ rest = l.take (i * 2) ++ (z.take 2 ++ (z.drop 2 ++ rest)) := by
      rw [List.append_assoc, ← List.append_assoc (z.take 2), List.take_append_drop]
    rw [e0]
    exact splice_parts h1 (by rw [List.length_take]; omega)
  have h2 : (l.take (i * 2) ++ news).length = (i + 1) * 2 := by rw [List.length_append, h1, hn]; omega
  have h3 : ((l.take (i * 2) ++ news) ++ l.drop (i * 2)).length = (n + 1) * 2 := by rw [List.length_append, h2, List.length_drop, hl]; omega
  rw [e1, ← List.append_assoc, splice_parts h2 (by rw [List.length_drop, List.length_drop, hl]; omega), ← List.append_assoc, ← h3, List.take_left' rfl]
set_option maxRecDepth 100000 in
set_option maxHeartbeats 3200000 in
theorem insert_grow (g n i vb : Nat) (cur : List Value) (f : Vf) (w : World) (ho : Own w g 210 cur) (hl : cur.length = n * 2) (hv : Own w vb 210 f.cells) (hi : i < n) (hn : (n + 1) * 40 ≤ 140737488355328) (h1 : ∀ u ∈ cur, u.oneCell' = true) :
    Calls Tryz.prog 241 #[.slice (some ⟨g, 0, none⟩) n n, .int .i64 (i : Int), .slice (some ⟨vb, 0, none⟩) 1 1] w fun e w' => ∃ G cur', e = .returned (.slice (some ⟨w.heap.size, 0, none⟩) (n + 1) G) ∧
      Own w' w.heap.size 210 cur' ∧ n + 1 ≤ G ∧ G ≤ maxLen ∧ cur'.length = G * 2 ∧ cur'.take ((n + 1) * 2) = cur.take (i * 2) ++ f.cells ++ cur.drop (i * 2) ∧ Below w.heap.size w w' := by
  obtain ⟨i0, hi0, hz0, hzs, hzb⟩ := info_parts infoVf
  have hU := Tryz.underlying149
  have hUi := Tryz.underlying3
  have hsz : (Tryz.prog.info? 210).map (·.size) = some 2 := by rw [hi0]; simp [hzs]
  have hbw := ho.inside
  have hvw := hv.inside
  have hkk : (n : Int) + 1 - (i : Int) = ((n + 1 - i : Nat) : Int) := by omega
  have hik : i + (n + 1 - i) = n + 1 := by omega
  have hold : (Builtin.firstCells i0.size i (.slice (some ⟨g, 0, none⟩) i n)).run Tryz.prog w.drew = .ok (cur.take (i * 2)).toArray w.drew := by
    rw [hzs]
    refine run_firstCells_some w.drew 2 i ⟨g, 0, none⟩ i n (cur.take (i * 2)) (by rw [List.length_take]; omega) (fun j v hj => ?_)
    have ea : (⟨g, 0, none⟩ : Addr).add j = ⟨g, j, none⟩ := by unfold Addr.add; split <;> simp_all
    rw [ea, (own_drewK ho).at_ j]
    rw [List.getElem?_take] at hj
    split at hj
    · exact hj
    · cases hj
  obtain ⟨G, hG⟩ : ∃ G, G = grownCap w (n + 1) n 210 := ⟨_, rfl⟩
  have hGn : n + 1 ≤ G := by rw [hG]; exact grownCap_ge w _ _ _
  have hG63 : G ≤ maxLen := by rw [hG]; exact grownCap_le_maxLen w (n + 1) n 210 (by unfold maxLen; omega)
  obtain ⟨ROW, hROW⟩ : ∃ ROW : Array Value, ROW = (cur.take (i * 2)).toArray ++ Builtin.zeroCells zeroVf.cells (n + 1 - i) ++ Builtin.zeroCells zeroVf.cells (G - (n + 1)) := ⟨_, rfl⟩
  have hz2 : zeroVf.cells.size = 2 := rfl
  have hRl : ROW.size = G * 2 := by
    rw [hROW, Array.size_append, Array.size_append, size_zeroCells, size_zeroCells, hz2, List.size_toArray, List.length_take]
    omega
  obtain ⟨W1, hW1⟩ : ∃ W1, W1 = w.drew.alloc (.cells ROW 210) := ⟨_, rfl⟩
  have hrz : ∀ ty, (Builtin.append_ #[149, 3] ty #[.slice (some ⟨g, 0, none⟩) i n, .int .i64 ((n : Int) + 1 - (i : Int))]).run Tryz.prog w = .ok (.slice (some ⟨w.heap.size, 0, none⟩) (n + 1) G) W1 := fun ty => by
    have h := Lib.run_append_grow_zeros w 149 3 ty 210 i0 _ .i64 .i64 hU hUi hi0 hz0 (some ⟨g, 0, none⟩) i n (cur.take (i * 2)) hold (n + 1 - i) (by omega) (by omega) (by omega) (by omega) (by rw [hzb]; omega) (by rw [hzb, hik]; exact growslice_ok (by omega) hn)
    rw [hik] at h
    rw [hkk, hW1, hROW, hG]
    exact h
  have oR : Own W1 w.heap.size 210 ROW.toList := by
    rw [hW1]
    have := Own.made w.drew 210 ROW.toList
    simpa using this
  have oG : Own W1 g 210 cur := by rw [hW1]; exact (own_drewK ho).more _
  have oV : Own W1 vb 210 f.cells := by rw [hW1]; exact (own_drewK hv).more _
  have bW : Below w.heap.size w W1 := by rw [hW1]; exact (Below.drew (Below.refl _ _)).alloc (Nat.le_refl _) _
  have hRlen : ROW.toList.length = G * 2 := by simpa using hRl
  obtain ⟨W2, hW2⟩ : ∃ W2, W2 = W1.setRow w.heap.size (splice ROW.toList (i * 2) f.cells).toArray := ⟨_, rfl⟩
  have hcA : ∀ ty dc, (Builtin.copy_ #[149, 149] ty #[.slice (some ⟨w.heap.size, i * 2, none⟩) (n + 1 - i) dc, .slice (some ⟨vb, 0, none⟩) 1 1]).run Tryz.prog W1 = .ok (goInt (Nat.min 1 (n + 1 - i))) W2 := fun ty dc => by
    rw [hW2]
    refine run_copy_into W1 _ _ ty 210 w.heap.size (i * 2) (n + 1 - i) dc ⟨vb, 0, none⟩ 1 1 2 ROW.toList f.cells 210 hU hsz oR ?_ (fun j v hj => ?_) (by rw [hRlen]; simp [Vf.cells]; omega) (vf_one f)
    · have : Nat.min 1 (n + 1 - i) = 1 := Nat.min_eq_left (by omega)
      rw [this]; rfl
    · have ea : (⟨vb, 0, none⟩ : Addr).add j = ⟨vb, j, none⟩ := by unfold Addr.add; split <;> simp_all
      rw [ea, oV.at_ j]; exact hj
  have oR2 : Own W2 w.heap.size 210 (splice ROW.toList (i * 2) f.cells) := by rw [hW2]; exact own_rowK oR
  have oG2 : Own W2 g 210 cur := by
    rw [hW2]; unfold Own; rw [row_other (by omega)]; exact oG
  have hl2 : (splice ROW.toList (i * 2) f.cells).length = G * 2 := by rw [splice_len (by rw [hRlen]; simp [Vf.cells]; omega), hRlen]
  have hcl : (cur.drop (i * 2)).length = (n - i) * 2 := by rw [List.length_drop, hl]; omega
  obtain ⟨W3, hW3⟩ : ∃ W3, W3 = W2.drew.setRow w.heap.size (splice (splice ROW.toList (i * 2) f.cells) ((i + 1) * 2) (cur.drop (i * 2))).toArray := ⟨_, rfl⟩
  have hcB : ∀ ty dc sc, (Builtin.copy_ #[149, 149] ty #[.slice (some ⟨w.heap.size, (i + 1) * 2, none⟩) (n + 1 - (i + 1)) dc, .slice (some ⟨g, i * 2, none⟩) (n - i) sc]).run Tryz.prog W2.drew = .ok (goInt (Nat.min (n - i) (n + 1 - (i + 1)))) W3 := fun ty dc sc => by
    rw [hW3]
    refine run_copy_into W2.drew _ _ ty 210 w.heap.size ((i + 1) * 2) (n + 1 - (i + 1)) dc ⟨g, i * 2, none⟩ (n - i) sc 2 _ (cur.drop (i * 2)) 210 hU hsz oR2 ?_ (fun j v hj => ?_) (by rw [hl2, hcl]; omega) (fun u hu => h1 u (List.mem_of_mem_drop hu))
    · have : Nat.min (n - i) (n + 1 - (i + 1)) = n - i := Nat.min_eq_left (by omega)
      rw [this, hcl]
    · have ea : (⟨g, i * 2, none⟩ : Addr).add j = ⟨g, i * 2 + j, none⟩ := by unfold Addr.add; split <;> simp_all
      rw [ea, (own_drewK oG2).at_ (i * 2 + j)]
      rw [List.getElem?_drop] at hj; exact hj
  have oR3 : Own W3 w.heap.size 210 (splice (splice ROW.toList (i * 2) f.cells) ((i + 1) * 2) (cur.drop (i * 2))) := by rw [hW3]; exact own_rowK (w := W2.drew) oR2
  have b3 : Below w.heap.size w W3 := by
    rw [hW3, hW2]
    exact ⟨bW.os, bW.tape, bW.output, by simpa using bW.size, fun k hk => (row_other (by omega)).trans ((row_other (w := W1) (by omega)).trans (bW.block k hk))⟩
  have hfin : (splice (splice ROW.toList (i * 2) f.cells) ((i + 1) * 2) (cur.drop (i * 2))).take ((n + 1) * 2) = cur.take (i * 2) ++ f.cells ++ cur.drop (i * 2) := by
    have : ROW.toList = cur.take (i * 2) ++ (Builtin.zeroCells zeroVf.cells (n + 1 - i)).toList ++ (Builtin.zeroCells zeroVf.cells (G - (n + 1))).toList := by rw [hROW]; simp
    rw [this]
    exact splice3 hl hi rfl (by rw [Array.length_toList, size_zeroCells, hz2])
  have hlen3 : (splice (splice ROW.toList (i * 2) f.cells) ((i + 1) * 2) (cur.drop (i * 2))).length = G * 2 := by rw [splice_len (by rw [hl2, hcl]; omega), hl2]
  have HX := Lib.hid (And.intro oR3 (And.intro hGn (And.intro hG63 (And.intro hlen3 (And.intro hfin b3)))))
  have hB3 := fun ty dc sc => Lib.hid (hcB ty dc sc)
  unfold maxLen at hG63
  clear oR3 hlen3 hfin b3 hcB hl2 hcl oG2 oR2 hRlen bW oV oG oR hRl hROW hG hold hik hkk hz0 hzs hzb hsz hi0 hW1 hW2 hW3 h1 hl
  have hGi : ¬ (G = i) := by omega
  have hGim : ¬ (G = i + 1) := by omega
  have hci : ¬ (n = i) := by omega
  have hni : ¬ ((i : Int) = (n : Int)) := by omega
  have htn : ((i : Int) + 1).toNat = i + 1 := by omega
  have hb1 : (0 : Int) ≤ (i : Int) + 1 := by omega
  have hw1 : IntKind.i64.wrap ((i : Int) + 1) = (i : Int) + 1 := by rw [IntKind.wrap_i64]; omega
  have hb4 : (i : Int) + 1 ≤ (n : Int) + 1 := by omega
  have hb3 : (i : Int) ≤ (n : Int) := by omega
  have hin : i ≤ n := by omega
  have hgr : (n : Int) < (n : Int) + 1 := by omega
  go_enter Tryz.func241, Tryz.ntmps241
  go_wp2_with (first
    | (at_builtin; refine list_append_known _ rfl (.tmp 34) (.tmp 39) 149 3 rfl _ _ rfl rfl (hrz _) ?_)
    | (at_builtin; refine list_copy_known _ rfl (.tmp 43) (.tmp 44) 149 149 rfl _ _ rfl rfl (hcA _ _) ?_))
  go_region_law (refine step_copy_known rfl (.tmp 50) (.tmp 53) 149 149 rfl (.slice (some ⟨w.heap.size, (i + 1) * 2, none⟩) (n + 1 - (i + 1)) (G - (i + 1))) (.slice (some ⟨g, i * 2, none⟩) (n - i) (n - i)) (by simp [Act.eval, Act.put]) (by simp [Act.eval, Act.put]) (hB3 _ _ _).out ?_)
  go_wp2_with fail
  go_ret
  exact ⟨G, _, rfl, HX.out.1, HX.out.2.1, HX.out.2.2.1, HX.out.2.2.2.1, HX.out.2.2.2.2.1, HX.out.2.2.2.2.2⟩
end Go.Proofs.YtllpfngmnccejaaGreat
namespace Go.Proofs.YtllpfngmnccejaaGreat
open Go Go.RowKit

set_option maxRecDepth 100000 in
theorem overlaps_no (w : World) (g vb o1 lb cb la ca : Nat) (cur vs : List Value) (hg : Own w g 210 cur) (hv : Own w vb 210 vs) (hne : vb ≠ g) (hc : cur.length ≠ 0) :
    (callFunc 258 #[.slice (some ⟨vb, 0, none⟩) la ca, .slice (some ⟨g, o1, none⟩) lb cb]).run Tryz.prog w = .ok (.value (.bool false)) w := by
  have hs1 : w.shape? vb = some (210, vs.length) := by
    unfold World.shape?; have := hv; unfold Own at this; rw [this]; simp
  have hs2 : w.shape? g = some (210, cur.length) := by
    unfold World.shape?; have := hg; unfold Own at this; rw [this]; simp
  rw [run_callFunc_extern Tryz.func258 (by kernel_rfl) (by kernel_rfl) (by kernel_rfl) (e := Extern.SlicesOverlaps.overlaps #[149, 149] #[4]) (by kernel_rfl),
    Lib.run_overlaps_apart w 149 4 210 Tryz.underlying149 2 Tryz.sizeOf210 ⟨vb, 0, none⟩ ⟨g, o1, none⟩ la ca lb cb hne _ _ _ _ hs1 hs2 hc (hv.open_ 0) (hv.open_ _)]
  rfl
theorem splice4 {cur news : List Value} {i n c : Nat} (hl : cur.length = c * 2) (hc : n + 1 ≤ c) (hi : i < n) (hn : news.length = 2) :
    (splice (splice cur ((i + 1) * 2) ((cur.take (n * 2)).drop (i * 2))) (i * 2) news).take ((n + 1) * 2) = (cur.take (n * 2)).take (i * 2) ++ news ++ (cur.take (n * 2)).drop (i * 2) := by
  have h0 : (cur.take (n * 2)).length = n * 2 := by rw [List.length_take]; omega
  have hd : ((cur.take (n * 2)).drop (i * 2)).length = (n - i) * 2 := by rw [List.length_drop, h0]; omega
  have e1 : splice cur ((i + 1) * 2) ((cur.take (n * 2)).drop (i * 2)) = cur.take (i * 2) ++ ((cur.drop (i * 2)).take 2 ++ ((cur.take (n * 2)).drop (i * 2) ++ cur.drop ((n + 1) * 2))) := by
    unfold splice
    rw [hd, show (i + 1) * 2 + (n - i) * 2 = (n + 1) * 2 by omega, show (i + 1) * 2 = i * 2 + 2 by omega, List.take_add, List.append_assoc, List.append_assoc]
  rw [e1, splice_parts (by rw [List.length_take]; omega) (by rw [List.length_take, List.length_drop, hn]; omega)]
  have e2 : (cur.take (n * 2)).take (i * 2) = cur.take (i * 2) := by rw [List.take_take]; congr 1; omega
  rw [e2, ← List.append_assoc, ← List.append_assoc]
  have h3 : (cur.take (i * 2) ++ news ++ (cur.take (n * 2)).drop (i * 2)).length = (n + 1) * 2 := by rw [List.length_append, List.length_append, hd, hn, List.length_take]; omega
  rw [← h3, List.take_left' rfl]
set_option maxRecDepth 100000 in
set_option maxHeartbeats 3200000 in
theorem insert_shift (g n c i vb : Nat) (cur : List Value) (f : Vf) (w : World) (ho : Own w g 210 cur) (hl : cur.length = c * 2) (hm : c ≤ maxLen) (hc : n + 1 ≤ c) (hv : Own w vb 210 f.cells) (hne : vb ≠ g) (hi : i < n) (h1 : ∀ u ∈ cur.take (n * 2), u.oneCell' = true) :
    Calls Tryz.prog 241 #[.slice (some ⟨g, 0, none⟩) n c, .int .i64 (i : Int), .slice (some ⟨vb, 0, none⟩) 1 1] w fun e w' => e = .returned (.slice (some ⟨g, 0, none⟩) (n + 1) c) ∧ ∃ cur',
      Own w' g 210 cur' ∧ cur'.length = c * 2 ∧ cur'.take ((n + 1) * 2) = (cur.take (n * 2)).take (i * 2) ++ f.cells ++ (cur.take (n * 2)).drop (i * 2) ∧ w.grownBy w' (some g) := by
  obtain ⟨i0, hi0, hz0, hzs, hzb⟩ := info_parts infoVf
  have hU := Tryz.underlying149
  have hsz : (Tryz.prog.info? 210).map (·.size) = some 2 := by rw [hi0]; simp [hzs]
  have h0 : (cur.take (n * 2)).length = n * 2 := by rw [List.length_take]; omega
  have hd : ((cur.take (n * 2)).drop (i * 2)).length = (n - i) * 2 := by rw [List.length_drop, h0]; omega
  have hov : ∀ lb cb, (callFunc 258 #[.slice (some ⟨vb, 0, none⟩) 1 1, .slice (some ⟨g, (i + 1) * 2, none⟩) lb cb]).run Tryz.prog w = .ok (.value (.bool false)) w := fun lb cb => by
    exact overlaps_no w g vb _ lb cb 1 1 cur f.cells ho hv hne (by omega)
  obtain ⟨W1, hW1⟩ : ∃ W1, W1 = w.drew.setRow g (splice cur ((i + 1) * 2) ((cur.take (n * 2)).drop (i * 2))).toArray := ⟨_, rfl⟩
  have hcA : ∀ ty dc sc, (Builtin.copy_ #[149, 149] ty #[.slice (some ⟨g, (i + 1) * 2, none⟩) (n + 1 - (i + 1)) dc, .slice (some ⟨g, i * 2, none⟩) (n + 1 - i) sc]).run Tryz.prog w.drew = .ok (goInt (Nat.min (n + 1 - i) (n + 1 - (i + 1)))) W1 := fun ty dc sc => by
    rw [hW1]
    refine run_copy_into w.drew _ _ ty 210 g ((i + 1) * 2) (n + 1 - (i + 1)) dc ⟨g, i * 2, none⟩ (n + 1 - i) sc 2 cur _ 210 hU hsz ho ?_ (fun j v hj => ?_) (by rw [hd, hl]; omega) (fun u hu => h1 u (List.mem_of_mem_drop hu))
    · have : Nat.min (n + 1 - i) (n + 1 - (i + 1)) = n - i := by show min _ _ = _; omega
      rw [this, hd]
    · have ea : (⟨g, i * 2, none⟩ : Addr).add j = ⟨g, i * 2 + j, none⟩ := by unfold Addr.add; split <;> simp_all
      rw [ea, (own_drewK ho).at_ (i * 2 + j)]
      rw [List.getElem?_drop, List.getElem?_take] at hj
      split at hj
      · exact hj
      · cases hj
  have o1 : Own W1 g 210 (splice cur ((i + 1) * 2) ((cur.take (n * 2)).drop (i * 2))) := by rw [hW1]; exact own_rowK (w := w.drew) ho
  have v1 : Own W1 vb 210 f.cells := by rw [hW1]; unfold Own; rw [row_other hne]; exact hv
  have l1 : (splice cur ((i + 1) * 2) ((cur.take (n * 2)).drop (i * 2))).length = c * 2 := by rw [splice_len (by rw [hd, hl]; omega), hl]
  obtain ⟨W2, hW2⟩ : ∃ W2, W2 = W1.setRow g (splice (splice cur ((i + 1) * 2) ((cur.take (n * 2)).drop (i * 2))) (i * 2) f.cells).toArray := ⟨_, rfl⟩
  have hcB : ∀ ty dc, (Builtin.copy_ #[149, 149] ty #[.slice (some ⟨g, i * 2, none⟩) (n + 1 - i) dc, .slice (some ⟨vb, 0, none⟩) 1 1]).run Tryz.prog W1 = .ok (goInt (Nat.min 1 (n + 1 - i))) W2 := fun ty dc => by
    rw [hW2]
    refine run_copy_into W1 _ _ ty 210 g (i * 2) (n + 1 - i) dc ⟨vb, 0, none⟩ 1 1 2 _ f.cells 210 hU hsz o1 ?_ (fun j v hj => ?_) (by rw [l1]; simp [Vf.cells]; omega) (vf_one f)
    · have : Nat.min 1 (n + 1 - i) = 1 := Nat.min_eq_left (by omega)
      rw [this]; rfl
    · have ea : (⟨vb, 0, none⟩ : Addr).add j = ⟨vb, j, none⟩ := by unfold Addr.add; split <;> simp_all
      rw [ea, v1.at_ j]; exact hj
  have o2 : Own W2 g 210 (splice (splice cur ((i + 1) * 2) ((cur.take (n * 2)).drop (i * 2))) (i * 2) f.cells) := by rw [hW2]; exact own_rowK o1
  have l2 : (splice (splice cur ((i + 1) * 2) ((cur.take (n * 2)).drop (i * 2))) (i * 2) f.cells).length = c * 2 := by rw [splice_len (by rw [l1]; simp [Vf.cells]; omega), l1]
  have gr : w.grownBy W2 (some g) := by
    rw [hW2, hW1]
    exact ⟨rfl, rfl, rfl, by simp, fun k _ hk => (row_other (fun e => hk (by rw [e]))).trans (row_other (w := w.drew) (fun e => hk (by rw [e])))⟩
  have HX := Lib.hid (And.intro o2 (And.intro l2 (And.intro (splice4 hl hc hi (rfl : f.cells.length = 2)) gr)))
  have hB1 := fun ty dc sc => Lib.hid (hcA ty dc sc)
  unfold maxLen at hm
  clear o2 l2 gr hcA o1 v1 l1 hW1 hW2 hd h0 hsz hi0 hz0 hzs hzb h1 hl ho hv
  have hci : ¬ (c = i) := by omega
  have hci1 : ¬ (c = i + 1) := by omega
  have hni : ¬ ((i : Int) = (n : Int)) := by omega
  have htn : ((i : Int) + 1).toNat = i + 1 := by omega
  have htn2 : ((n : Int) + 1).toNat = n + 1 := by omega
  have hb1 : (0 : Int) ≤ (i : Int) + 1 := by omega
  have hb5 : (0 : Int) ≤ (n : Int) + 1 := by omega
  have hw1 : IntKind.i64.wrap ((i : Int) + 1) = (i : Int) + 1 := by rw [IntKind.wrap_i64]; omega
  have hw2 : IntKind.i64.wrap ((n : Int) + 1) = (n : Int) + 1 := by rw [IntKind.wrap_i64]; omega
  have hb4 : (i : Int) + 1 ≤ (n : Int) + 1 := by omega
  have hb3 : (i : Int) ≤ (n : Int) := by omega
  have hb6 : (i : Int) ≤ (n : Int) + 1 := by omega
  have hin : i ≤ n := by omega
  have hgr : ¬ ((c : Int) < (n : Int) + 1) := by omega
  have hgr2 : (n : Int) + 1 ≤ (c : Int) := by omega
  go_enter Tryz.func241, Tryz.ntmps241
  go_wp2_with (simp only [hov])
  go_region_law (refine step_copy_known rfl (.tmp 73) (.tmp 76) 149 149 rfl (.slice (some ⟨g, (i + 1) * 2, none⟩) (n + 1 - (i + 1)) (c - (i + 1))) (.slice (some ⟨g, i * 2, none⟩) (n + 1 - i) (c - i)) (by simp [Act.eval, Act.put]) (by simp [Act.eval, Act.put]) (hB1 _ _ _).out ?_)
  go_wp2_with (at_builtin; refine list_copy_known _ rfl (.tmp 80) (.tmp 81) 149 149 rfl _ _ rfl rfl (hcB _ _) ?_)
  go_ret
  exact ⟨rfl, _, HX.out.1, HX.out.2.1, HX.out.2.2.1, HX.out.2.2.2⟩
/-- slices.Insert of one file, wherever -/
theorem insert_any (base n c i vb : Nat) (A : Option Addr) (xs : List Value) (f : Vf) (w : World) (ho : w.ownsRow base 210 2 (.slice A n c) n xs) (hv : Own w vb 210 f.cells) (hne : (Value.slice A n c).ownBlock ≠ some vb) (hi : i ≤ n) (hn : (n + 1) * 40 ≤ 140737488355328) (hbase : base ≤ w.heap.size) (h1 : ∀ u ∈ xs, u.oneCell' = true) :
    Calls Tryz.prog 241 #[.slice A n c, .int .i64 (i : Int), .slice (some ⟨vb, 0, none⟩) 1 1] w fun e w' => ∃ A' c', e = .returned (.slice A' (n + 1) c') ∧
      w'.ownsRow base 210 2 (.slice A' (n + 1) c') (n + 1) (xs.take (i * 2) ++ f.cells ++ xs.drop (i * 2)) ∧ w.grownBy w' (Value.slice A n c).ownBlock ∧ ((Value.slice A' (n + 1) c').ownBlock = (Value.slice A n c).ownBlock ∨ (Value.slice A' (n + 1) c').ownBlock = some w.heap.size) := by
  by_cases hin : i = n
  · subst hin
    refine (insert_end base i c vb A xs f w ho hv hn hbase).mono ?_
    rintro e w' ⟨v', rfl, h2, h3, h4⟩
    have hx : xs.take (i * 2) = xs ∧ xs.drop (i * 2) = [] := ⟨List.take_of_length_le (by rw [ho.1]; omega), List.drop_of_length_le (by rw [ho.1]; omega)⟩
    rw [hx.1, hx.2, List.append_nil]
    rcases h2.2 with ⟨rfl, h0⟩ | ⟨g, cap, cur, rfl, hb, rest⟩
    · omega
    · exact ⟨_, _, rfl, h2, h3, h4⟩
  · rcases row_ownK ho with ⟨_, h0, _⟩ | ⟨g, cur, rfl, hb, hg, hnc, hm, hl, rfl⟩
    · omega
    · by_cases hr : n + 1 ≤ c
      · refine (insert_shift g n c i vb cur f w hg hl hm hr hv (fun e => hne (by rw [← e]; rfl)) (by omega) h1).mono ?_
        rintro e w' ⟨rfl, cur', o', l', t', g'⟩
        exact ⟨_, _, rfl, by rw [← t']; exact own_to_row o' hb hr hm l', g', .inl rfl⟩
      · obtain rfl : c = n := by omega
        have ht : cur.take (c * 2) = cur := List.take_of_length_le (by omega)
        rw [ht] at h1 ⊢
        refine (insert_grow g c i vb cur f w hg hl hv (by omega) hn h1).mono ?_
        rintro e w' ⟨G, cur', rfl, o', g1, g2, l', t', b'⟩
        exact ⟨_, _, rfl, by rw [← t']; exact own_to_row o' hbase g1 g2 l', ⟨b'.os, b'.tape, b'.output, b'.size, fun k hk _ => b'.block k hk⟩, .inr rfl⟩
end Go.Proofs.YtllpfngmnccejaaGreat
namespace Go.Proofs.YtllpfngmnccejaaGreat
open Go Go.RowKit

def Vf.fl (f : Vf) : Fl := ⟨f.n, catB f.ps⟩
def flV (l : List Vf) : List Fl := l.map Vf.fl
theorem names_fl (l : List Vf) : namesF (flV l) = namesV l := by unfold namesF flV namesV; rw [List.map_map]; rfl
def blk (A : Option Addr) : Option Nat := A.map (·.block)
theorem blk_own (A : Option Addr) (n c : Nat) : (Value.slice A n c).ownBlock = blk A := by cases A <;> rfl
def Fp (A : Option Addr) (l : List Vf) (k : Nat) : Prop := blk A = some k ∨ ∃ f ∈ l, blk f.A = some k
def wtV (l : List Vf) : Nat := l.length + (l.map (fun f => f.ps.length)).sum + szF (flV l)
structure Vis (w : World) (base : Nat) (A : Option Addr) (c : Nat) (l : List Vf) : Prop where
  row : w.ownsRow base 210 2 (.slice A l.length c) l.length (l.flatMap Vf.cells)
  parts : ∀ f ∈ l, Parts w base f
  apart : l.Pairwise (fun f g => ∀ k, blk f.A = some k → blk g.A ≠ some k)
  row_apart : ∀ f ∈ l, ∀ k, blk f.A = some k → blk A ≠ some k
theorem Vis.lt {w : World} {base : Nat} {A : Option Addr} {c : Nat} {l : List Vf} (h : Vis w base A c l) : ∀ k, Fp A l k → base ≤ k ∧ k < w.heap.size := by
  intro k hk
  rcases hk with hk | ⟨f, hf, hk⟩
  · exact h.row.lt k (by rw [blk_own]; exact hk)
  · exact (h.parts f hf).lt k (by rw [blk_own]; exact hk)
theorem Vis.kept {w w' : World} {base : Nat} {A : Option Addr} {c : Nat} {l : List Vf} {S : Nat → Prop} (h : Vis w base A c l) (hk : KeptK w w' S) (hs : ∀ k, Fp A l k → ¬ S k) : Vis w' base A c l :=
  ⟨hk.row h.row (fun k e => hs k (.inl (by rw [← blk_own]; exact e))), fun f hf => hk.row (h.parts f hf) (fun k e => hs k (.inr ⟨f, hf, by rw [← blk_own]; exact e⟩)), h.apart, h.row_apart⟩
structure VisAt (w : World) (base G o : Nat) (t : TypeId) (cs : List Value) (A : Option Addr) (c : Nat) (l : List Vf) : Prop where
  own : Own w G t cs
  c0 : cs[o]? = some (.slice A l.length c)
  c1 : cs[o + 1]? = some (.int .i64 (szF (flV l) : Int))
  vis : Vis w base A c l
  out : ¬ Fp A l G
  sorted : SortedN (namesV l)
  wt : wtV l ≤ 1099511627776
  le : base ≤ w.heap.size
def setV (cs : List Value) (o : Nat) (A : Option Addr) (c : Nat) (l : List Vf) : List Value := (cs.set o (.slice A l.length c)).set (o + 1) (.int .i64 (szF (flV l) : Int))
theorem setV_again (cs : List Value) (o : Nat) (A A' : Option Addr) (c c' : Nat) (l l' : List Vf) : setV (setV cs o A c l) o A' c' l' = setV cs o A' c' l' := by
  unfold setV
  apply List.ext_getElem?
  intro i
  simp only [List.getElem?_set, List.length_set]
  split
  · rfl
  · split
    · rfl
    · rfl
structure VisTo (w w' : World) (base G o : Nat) (t : TypeId) (cs : List Value) (F : Nat → Prop) (A' : Option Addr) (c' : Nat) (l' : List Vf) : Prop where
  at_ : VisAt w' base G o t (setV cs o A' c' l') A' c' l'
  kept : KeptK w w' (fun k => k = G ∨ F k)
  fp : ∀ k, Fp A' l' k → F k ∨ w.heap.size ≤ k
theorem VisAt.inside {w : World} {base G o : Nat} {t : TypeId} {cs : List Value} {A : Option Addr} {c : Nat} {l : List Vf} (h : VisAt w base G o t cs A c l) : G < w.heap.size := h.own.inside
theorem VisAt.below {w w' : World} {base G o : Nat} {t : TypeId} {cs : List Value} {A : Option Addr} {c : Nat} {l : List Vf} (h : VisAt w base G o t cs A c l) (hb : Below w.heap.size w w') : VisAt w' base G o t cs A c l :=
  ⟨h.own.past hb h.own.inside, h.c0, h.c1, h.vis.kept (KeptK.of_below hb (Nat.le_refl _) (fun _ => False)) (fun _ _ h => h), h.out, h.sorted, h.wt, Nat.le_trans h.le hb.size⟩
theorem VisAt.self {w : World} {base G o : Nat} {t : TypeId} {cs : List Value} {A : Option Addr} {c : Nat} {l : List Vf} (h : VisAt w base G o t cs A c l) : setV cs o A c l = cs := by
  unfold setV
  apply List.ext_getElem?
  intro i
  rw [List.getElem?_set]
  split
  · rename_i hi; subst hi
    rw [h.c1]
    have := (List.getElem?_eq_some_iff.1 h.c1).1
    simp [this]
  · rw [List.getElem?_set]
    split
    · rename_i hi; subst hi
      rw [h.c0]
      have := (List.getElem?_eq_some_iff.1 h.c0).1
      simp [this]
    · rfl
theorem VisTo.refl {w w' : World} {base G o : Nat} {t : TypeId} {cs : List Value} {A : Option Addr} {c : Nat} {l : List Vf} (h : VisAt w base G o t cs A c l) (hb : Below w.heap.size w w') : VisTo w w' base G o t cs (Fp A l) A c l :=
  ⟨by rw [h.self]; exact h.below hb, KeptK.of_below hb (Nat.le_refl _) _, fun k hk => .inl hk⟩
theorem VisTo.trans {w w1 w2 : World} {base G o : Nat} {t : TypeId} {cs : List Value} {A1 A2 : Option Addr} {c1 c2 : Nat} {F F1 : Nat → Prop} {l1 l2 : List Vf}
    (h : VisTo w w1 base G o t cs F A1 c1 l1) (k : VisTo w1 w2 base G o t (setV cs o A1 c1 l1) F1 A2 c2 l2) (hF : ∀ k, F1 k → F k ∨ w.heap.size ≤ k) : VisTo w w2 base G o t cs F A2 c2 l2 :=
  ⟨by have := k.at_; rwa [setV_again] at this,
    h.kept.trans k.kept (fun b hb hx => by
      rcases hx with rfl | hx
      · exact .inl rfl
      · rcases hF b hx with h1 | h1
        · exact .inr h1
        · omega),
    fun b hx => by
      rcases k.fp b hx with h1 | h1
      · exact hF b h1
      · exact .inr (Nat.le_trans h.kept.size h1)⟩
theorem VisTo.after {w w1 w2 : World} {base G o : Nat} {t : TypeId} {cs : List Value} {A1 : Option Addr} {c1 : Nat} {F : Nat → Prop} {l1 : List Vf} (hb : Below w.heap.size w w1) (k : VisTo w1 w2 base G o t cs F A1 c1 l1) : VisTo w w2 base G o t cs F A1 c1 l1 :=
  ⟨k.at_, (KeptK.of_below hb (Nat.le_refl _) (fun b => b = G ∨ F b)).trans k.kept (fun b _ hx => hx), fun b hx => by
    rcases k.fp b hx with h1 | h1
    · exact .inl h1
    · exact .inr (Nat.le_trans hb.size h1)⟩
theorem VisTo.then_ {w w1 w2 : World} {base G o : Nat} {t : TypeId} {cs : List Value} {A1 : Option Addr} {c1 : Nat} {F : Nat → Prop} {l1 : List Vf} (k : VisTo w w1 base G o t cs F A1 c1 l1) (hb : Below w1.heap.size w1 w2) : VisTo w w2 base G o t cs F A1 c1 l1 :=
  ⟨k.at_.below hb, k.kept.trans (KeptK.of_below hb (Nat.le_refl _) (fun _ => False)) (fun _ _ h => h.elim), k.fp⟩
theorem VisTo.wider {w w1 : World} {base G o : Nat} {t : TypeId} {cs : List Value} {A1 : Option Addr} {c1 : Nat} {F F' : Nat → Prop} {l1 : List Vf} (k : VisTo w w1 base G o t cs F A1 c1 l1) (hF : ∀ k, F k → F' k) : VisTo w w1 base G o t cs F' A1 c1 l1 :=
  ⟨k.at_, k.kept.more (fun b hx => by rcases hx with h | h; exact .inl h; exact .inr (hF b h)), fun b hx => by
    rcases k.fp b hx with h1 | h1
    · exact .inl (hF b h1)
    · exact .inr h1⟩
theorem len_le_wt (l : List Vf) : l.length ≤ wtV l := by unfold wtV; omega
theorem parts_le_wt {l : List Vf} {f : Vf} (h : f ∈ l) : f.ps.length ≤ wtV l := by
  have : f.ps.length ≤ (l.map (fun f => f.ps.length)).sum := by
    induction l with
    | nil => cases h
    | cons x l ih =>
      rw [List.map_cons, List.sum_cons]
      rcases List.mem_cons.1 h with rfl | h
      · omega
      · have := ih h; omega
  unfold wtV; omega
theorem size_le_wt {l : List Vf} {f : Vf} (h : f ∈ l) : (catB f.ps).size ≤ szF (flV l) := by
  induction l with
  | nil => cases h
  | cons x l ih =>
    unfold flV at *
    rw [List.map_cons, szF_cons]
    rcases List.mem_cons.1 h with rfl | h
    · exact Nat.le_add_right _ _
    · have := ih h; omega
end Go.Proofs.YtllpfngmnccejaaGreat
namespace Go.Proofs.YtllpfngmnccejaaGreat
open Go Go.RowKit

def putV (l : List Vf) (f : Vf) : List Vf := l.take (posN (namesV l) f.n) ++ f :: l.drop (posN (namesV l) f.n)
theorem putV_fl (l : List Vf) (f : Vf) : flV (putV l f) = putF (flV l) f.fl := by
  unfold putV putF flV
  rw [List.map_append, List.map_cons, List.map_take, List.map_drop]
  unfold posF
  rw [show namesF (l.map Vf.fl) = namesV l from names_fl l]
  rfl
theorem sorted_fl {l : List Vf} : SortedF (flV l) ↔ SortedN (namesV l) := by unfold SortedF; rw [names_fl]
theorem has_fl (l : List Vf) (n : ByteArray) : hasF (flV l) n = hasN (namesV l) n := by unfold hasF; rw [names_fl]
theorem flat_take (l : List Vf) (k : Nat) : (l.flatMap Vf.cells).take (k * 2) = (l.take k).flatMap Vf.cells := by
  induction l generalizing k with
  | nil => simp
  | cons x l ih =>
    cases k with
    | zero => simp
    | succ k =>
      rw [List.flatMap_cons, List.take_succ_cons, List.flatMap_cons, ← ih k, show (k + 1) * 2 = x.cells.length + k * 2 by show _ = 2 + _; omega, List.take_length_add_append]
theorem flat_drop (l : List Vf) (k : Nat) : (l.flatMap Vf.cells).drop (k * 2) = (l.drop k).flatMap Vf.cells := by
  induction l generalizing k with
  | nil => simp
  | cons x l ih =>
    cases k with
    | zero => simp
    | succ k =>
      rw [List.flatMap_cons, List.drop_succ_cons, ← ih k, show (k + 1) * 2 = x.cells.length + k * 2 by show _ = 2 + _; omega, List.drop_length_add_append]
theorem putV_cells (l : List Vf) (f : Vf) (p : Nat) (hp : p = posN (namesV l) f.n) : (l.flatMap Vf.cells).take (p * 2) ++ f.cells ++ (l.flatMap Vf.cells).drop (p * 2) = (putV l f).flatMap Vf.cells := by
  subst hp
  rw [flat_take, flat_drop]
  unfold putV
  rw [List.flatMap_append, List.flatMap_cons, List.append_assoc]
theorem putV_len (l : List Vf) (f : Vf) : (putV l f).length = l.length + 1 := by
  have := posN_le (namesV l) f.n
  have h2 : (namesV l).length = l.length := by simp [namesV]
  unfold putV; simp; omega
theorem putV_mem {l : List Vf} {f g : Vf} : g ∈ putV l f ↔ g = f ∨ g ∈ l := by
  unfold putV
  rw [List.mem_append, List.mem_cons]
  constructor
  · rintro (h | h | h)
    · exact .inr (List.mem_of_mem_take h)
    · exact .inl h
    · exact .inr (List.mem_of_mem_drop h)
  · rintro (h | h)
    · exact .inr (.inl h)
    · rw [← List.take_append_drop (posN (namesV l) f.n) l, List.mem_append] at h
      rcases h with h | h
      · exact .inl h
      · exact .inr (.inr h)
theorem putV_wt (l : List Vf) (f : Vf) : wtV (putV l f) = wtV l + 1 + f.ps.length + (catB f.ps).size := by
  have e : (l.map (fun f => f.ps.length)).sum = ((l.take (posN (namesV l) f.n)).map (fun f => f.ps.length)).sum + ((l.drop (posN (namesV l) f.n)).map (fun f => f.ps.length)).sum := by
    rw [← List.sum_append, ← List.map_append, List.take_append_drop]
  unfold wtV
  rw [putV_len, putV_fl, szF_put]
  unfold putV
  rw [List.map_append, List.sum_append, List.map_cons, List.sum_cons, e]
  show _ + _ + (_ + (catB f.ps).size) = _
  omega
/-- what is seen with one more file, in the world where its row is -/
theorem put_vis {w w' : World} {base : Nat} {A A' : Option Addr} {c c' : Nat} {l : List Vf} {f : Vf} (h : Vis w base A c l) (hf : Parts w base f) (hn : ∀ k, blk f.A = some k → ¬ Fp A l k)
    (hk : KeptK w w' (fun k => blk A = some k)) (hr : w'.ownsRow base 210 2 (.slice A' (putV l f).length c') (putV l f).length ((putV l f).flatMap Vf.cells)) (hA : blk A' = blk A ∨ ∃ k, blk A' = some k ∧ w.heap.size ≤ k) :
    Vis w' base A' c' (putV l f) := by
  have hlt : ∀ g ∈ putV l f, ∀ k, blk g.A = some k → k < w.heap.size ∧ blk A ≠ some k := by
    intro g hg k hk
    rcases putV_mem.1 hg with rfl | hg
    · exact ⟨(hf.lt k (by rw [blk_own]; exact hk)).2, fun e => hn k hk (.inl e)⟩
    · exact ⟨(h.lt k (.inr ⟨g, hg, hk⟩)).2, h.row_apart g hg k hk⟩
  refine ⟨hr, ?_, ?_, ?_⟩
  · intro g hg
    have hp : Parts w base g := by
      rcases putV_mem.1 hg with rfl | hg
      · exact hf
      · exact h.parts g hg
    exact hk.row hp (fun k e => (hlt g hg k (by rw [← blk_own]; exact e)).2)
  · have hap := h.apart
    rw [← List.take_append_drop (posN (namesV l) f.n) l, List.pairwise_append] at hap
    unfold putV
    rw [List.pairwise_append, List.pairwise_cons]
    refine ⟨hap.1, ⟨?_, hap.2.1⟩, ?_⟩
    · intro g hg k hk e
      exact hn k hk (.inr ⟨g, List.mem_of_mem_drop hg, e⟩)
    · intro g hg x hx k hk e
      rcases List.mem_cons.1 hx with rfl | hx
      · exact hn k e (.inr ⟨g, List.mem_of_mem_take hg, hk⟩)
      · exact hap.2.2 g hg x hx k hk e
  · intro g hg k hk e
    obtain ⟨h1, h2⟩ := hlt g hg k hk
    rcases hA with hA | hA
    · rw [hA] at e; exact h2 e
    · obtain ⟨q, hq, hle⟩ := hA
      rw [hq] at e; have := Option.some.inj e; omega
theorem vfbox (w : World) (f : Vf) : ∃ W, W = w.alloc (.cells #[.string f.n, .slice f.A f.ps.length f.c] 210) ∧ Below w.heap.size w W ∧ W.heap.size = w.heap.size + 1 ∧ Own W w.heap.size 210 f.cells :=
  ⟨_, rfl, (Below.refl _ _).alloc (Nat.le_refl _) _, by simp, Own.made w _ _⟩
theorem put_mid {w W w2 : World} {base G o : Nat} {t : TypeId} {cs : List Value} {A : Option Addr} {c : Nat} {l : List Vf} (h : VisAt w base G o t cs A c l) (hb : Below w.heap.size w W) (hg : W.grownBy w2 (Value.slice A l.length c).ownBlock) : Own w2 G t cs := by
  have h1 := h.own.past hb h.own.inside
  refine (hg.block G h1.inside ?_).trans h1
  intro e
  rw [blk_own] at e
  exact h.out (.inl e.symm)
theorem box1 (w : World) (f : Vf) : Below w.heap.size w (w.alloc (.cells #[.string f.n, .slice f.A f.ps.length f.c] 210)).drew ∧ Own (w.alloc (.cells #[.string f.n, .slice f.A f.ps.length f.c] 210)).drew w.heap.size 210 f.cells :=
  ⟨Below.drew ((Below.refl _ _).alloc (Nat.le_refl _) _), Own.made w _ _⟩
def PutMid (w : World) (base G o : Nat) (t : TypeId) (cs : List Value) (A : Option Addr) (l : List Vf) (f : Vf) (A' : Option Addr) (c' : Nat) (W : World) : Prop :=
  KeptK w W (fun k => k = G ∨ Fp A l k) ∧ Own W G t (cs.set o (.slice A' (l.length + 1) c')) ∧ Vis W base A' c' (putV l f) ∧ Parts W base f ∧ Own W w.heap.size 210 f.cells ∧ (∀ k, Fp A' (putV l f) k → Fp A l k ∨ blk f.A = some k ∨ w.heap.size ≤ k)
theorem put_end {w w1 w2 : World} {base G o : Nat} {t : TypeId} {cs : List Value} {A A' : Option Addr} {c c' p : Nat} {l : List Vf} {f : Vf} (hp : p = posN (namesV l) f.n) (hb : Below w.heap.size w w1) (h0 : VisAt w base G o t cs A c l) (hf : Parts w base f) (hn : ∀ k, blk f.A = some k → ¬ Fp A l k ∧ k ≠ G)
    (oB : Own w1 w.heap.size 210 f.cells)
    (hr : w2.ownsRow base 210 2 (.slice A' (l.length + 1) c') (l.length + 1) ((l.flatMap Vf.cells).take (p * 2) ++ f.cells ++ (l.flatMap Vf.cells).drop (p * 2)))
    (hg : (w1.alloc (.cells #[.string f.n, .slice f.A f.ps.length f.c] 210)).drew.grownBy w2 (Value.slice A l.length c).ownBlock)
    (hA : (Value.slice A' (l.length + 1) c').ownBlock = (Value.slice A l.length c).ownBlock ∨ (Value.slice A' (l.length + 1) c').ownBlock = some (w1.alloc (.cells #[.string f.n, .slice f.A f.ps.length f.c] 210)).drew.heap.size) :
    PutMid w base G o t cs A l f A' c' (w2.setCell ⟨G, o, none⟩ (.slice A' (l.length + 1) c')) := by
  have h := h0.below hb
  have bW := (box1 w1 f).1
  rw [blk_own] at hg hA
  rw [blk_own] at hA
  have hsz := bW.size
  generalize (w1.alloc (.cells #[.string f.n, .slice f.A f.ps.length f.c] 210)).drew = W at *
  have kg : KeptK w1 w2 (fun k => blk A = some k) := (KeptK.of_below bW (Nat.le_refl _) (fun k => blk A = some k)).trans (KeptK.of_grown hg (fun _ e => e)) (fun _ _ e => e)
  have kw : KeptK w w2 (fun k => blk A = some k) := (KeptK.of_below hb (Nat.le_refl _) (fun k => blk A = some k)).trans kg (fun _ _ e => e)
  have hA2 : blk A' = blk A ∨ ∃ k, blk A' = some k ∧ w.heap.size ≤ k := by
    rcases hA with e | e
    · exact .inl e
    · exact .inr ⟨_, e, Nat.le_trans hb.size hsz⟩
  rw [putV_cells l f p hp, ← putV_len l f] at hr
  have v2 := put_vis h0.vis hf (fun k e => (hn k e).1) kw hr hA2
  have hin := h0.inside
  have hfp : ∀ k, Fp A' (putV l f) k → Fp A l k ∨ blk f.A = some k ∨ w.heap.size ≤ k := by
    rintro k (e | ⟨g, hg, e⟩)
    · rcases hA2 with e2 | ⟨q, e2, hq⟩
      · exact .inl (.inl (by rw [← e2]; exact e))
      · rw [e2] at e; have := Option.some.inj e; exact .inr (.inr (by omega))
    · rcases putV_mem.1 hg with rfl | hg
      · exact .inr (.inl e)
      · exact .inl (.inr ⟨g, hg, e⟩)
  have hGo : ¬ Fp A' (putV l f) G := by
    intro e
    rcases hfp G e with e | e | e
    · exact h0.out e
    · exact (hn G e).2 rfl
    · omega
  have o2 : Own w2 G t cs := kw.own h0.own (fun e => h0.out (.inl e))
  have k3 : ∀ u, KeptK w2 (w2.setCell ⟨G, o, none⟩ u) (fun k => k = G) := fun u => (KeptK.refl w2 (fun k => k = G)).set_ (.inl rfl) u
  have v3 := v2.kept (k3 (.slice A' (l.length + 1) c')) (fun k hk e => hGo (by rw [← e]; exact hk))
  refine ⟨?_, o2.set_ _ _, v3, v3.parts f (putV_mem.2 (.inl rfl)), ?_, hfp⟩
  · exact (kw.more (T := fun k => k = G ∨ Fp A l k) (fun k e => .inr (.inl e))).trans (k3 _) (fun k _ e => .inl e)
  · refine (k3 _).own (kg.own oB ?_) (fun e => by omega)
    intro e
    have := (h0.vis.lt w.heap.size (.inl e)).2
    omega
theorem below_undrew {B : Nat} {a w : World} (h : Below B a.drew w) : Below B a w := ⟨h.os, h.tape, h.output, h.size, h.block⟩
theorem setV_0 {cs : List Value} {o : Nat} {A : Option Addr} {c : Nat} {l : List Vf} {u : Value} (h : cs[o]? = some u) : (setV cs o A c l)[o]? = some (.slice A l.length c) := by
  have := (List.getElem?_eq_some_iff.1 h).1
  unfold setV
  rw [List.getElem?_set_ne (by omega), List.getElem?_set_self this]
theorem setV_1 {cs : List Value} {o : Nat} {A : Option Addr} {c : Nat} {l : List Vf} {u : Value} (h : cs[o + 1]? = some u) : (setV cs o A c l)[o + 1]? = some (.int .i64 (szF (flV l) : Int)) := by
  have := (List.getElem?_eq_some_iff.1 h).1
  unfold setV
  rw [List.getElem?_set_self (by simpa using this)]
theorem put_last {w W3 w4 : World} {base G o : Nat} {t : TypeId} {cs : List Value} {A A' : Option Addr} {c c' : Nat} {l : List Vf} {f : Vf} (h : VisAt w base G o t cs A c l) (hn : ∀ k, blk f.A = some k → ¬ Fp A l k ∧ k ≠ G) (hh : hasN (namesV l) f.n = false) (hw : wtV (putV l f) ≤ 1099511627776)
    (m : PutMid w base G o t cs A l f A' c' W3) (b4 : Below W3.heap.size W3 w4) {x : Int} (hx : x = (szF (flV (putV l f)) : Int)) : VisTo w (w4.setCell ⟨G, o + 1, none⟩ (.int .i64 x)) base G o t cs (fun k => Fp A l k ∨ blk f.A = some k) A' c' (putV l f) := by
  subst hx
  obtain ⟨k3, o3, v3, f3, b3, p3⟩ := m
  have k4 : KeptK w w4 (fun k => k = G ∨ Fp A l k) := k3.trans (KeptK.of_below b4 (Nat.le_refl _) (fun _ => False)) (fun _ _ h => h.elim)
  have k5 := k4.set_ (g := G) (o := o + 1) (.inl (.inl rfl)) (.int .i64 (szF (flV (putV l f)) : Int))
  have o4 := (o3.past b4 o3.inside).set_ (o + 1) (.int .i64 (szF (flV (putV l f)) : Int))
  have kk : KeptK w4 (w4.setCell ⟨G, o + 1, none⟩ (.int .i64 (szF (flV (putV l f)) : Int))) (fun k => k = G) := (KeptK.refl w4 (fun k => k = G)).set_ (.inl rfl) _
  have hp : ∀ k, Fp A' (putV l f) k → (Fp A l k ∨ blk f.A = some k) ∨ w.heap.size ≤ k := fun k hk => by
    rcases p3 k hk with e | e | e
    · exact .inl (.inl e)
    · exact .inl (.inr e)
    · exact .inr e
  have hG : ¬ Fp A' (putV l f) G := by
    intro e
    rcases p3 G e with e | e | e
    · exact h.out e
    · exact (hn G e).2 rfl
    · have := h.inside; omega
  refine ⟨⟨?_, ?_, ?_, ?_, hG, ?_, hw, ?_⟩, k5.more (fun k e => by rcases e with e | e; exact .inl e; exact .inr (.inl e)), hp⟩
  · unfold setV; rw [putV_len]; exact o4
  · exact setV_0 h.c0
  · exact setV_1 h.c1
  · refine v3.kept (S := fun k => k = G) ((KeptK.of_below b4 (Nat.le_refl _) (fun k => k = G)).trans kk (fun _ _ h => h)) (fun k hk e => hG (by rw [← e]; exact hk))
  · rw [← sorted_fl, putV_fl]
    exact sorted_put (sorted_fl.2 h.sorted) (by show hasF (flV l) f.n = false; rw [has_fl]; exact hh)
  · exact Nat.le_trans h.le k5.size
set_option maxRecDepth 100000 in
set_option maxHeartbeats 1600000 in
theorem put_any (base G o : Nat) (t : TypeId) (cs : List Value) (A : Option Addr) (c : Nat) (l : List Vf) (f : Vf) (w : World) (h : VisAt w base G o t cs A c l) (hf : Parts w base f) (hn : ∀ k, blk f.A = some k → ¬ Fp A l k ∧ k ≠ G) (hh : hasN (namesV l) f.n = false) (hw : wtV (putV l f) ≤ 1099511627776) :
    Calls Tryz.prog 206 #[.pointer (some ⟨G, o, none⟩), f.val] w fun e w' => e = .returned (.tuple #[]) ∧ ∃ A' c', VisTo w w' base G o t cs (fun k => Fp A l k ∨ blk f.A = some k) A' c' (putV l f) := by
  obtain ⟨V, hV, hVb, hVs, oV⟩ := vfbox w f
  have hV1 := h.below hVb
  have H := Lib.hid (And.intro h (And.intro hf (And.intro hn (And.intro hh hw))))
  have hlw := len_le_wt l
  have hwl := h.wt
  have y1 := Lib.hid (find_any G o base t cs A c l f.n V hV1.own hV1.c0 hV1.vis.row hV1.sorted (by omega))
  have HV := Lib.hid (And.intro hVb (And.intro hVs (And.intro oV hV1)))
  unfold Vf.val
  obtain ⟨p, hp⟩ : ∃ p, p = posN (namesV l) f.n := ⟨_, rfl⟩
  have hpl : p ≤ l.length := by rw [hp]; have := posN_le (namesV l) f.n; simpa [namesV] using this
  have HP := Lib.hid hp
  rw [← hp, hh] at y1
  clear h hf hn hh hw hVb hVs oV hV1 hp hlw hwl
  go_enter Tryz.func206, Tryz.ntmps206
  go_wp2_with fail
  rw [← hV]
  clear hV
  refine y1.out.mono ?_
  rintro _ w1 ⟨rfl, b1⟩
  have hW := HV.out.2.2.2.below b1
  have oB := HV.out.2.2.1.past b1 HV.out.2.2.1.inside
  have HX := Lib.hid (And.intro (HV.out.1.trans (b1.mono HV.out.1.size)) (And.intro hW oB))
  have a0 : w1.cell? ⟨G, o, none⟩ = some (.slice A l.length c) := by rw [hW.own.at_]; exact hW.c0
  have a1 : w1.cell? ⟨G, o + 1, none⟩ = some (.int .i64 (szF (flV l) : Int)) := by rw [hW.own.at_]; exact hW.c1
  have z0 : w1.frozen? ⟨G, o, none⟩ = false := hW.own.open_ o
  have z1 : w1.frozen? ⟨G, o + 1, none⟩ = false := hW.own.open_ (o + 1)
  have x0 : w1.cell? ⟨w.heap.size, 0, none⟩ = some (.string f.n) := oB.at_ 0
  have x1 : w1.cell? ⟨w.heap.size, 1, none⟩ = some (.slice f.A f.ps.length f.c) := oB.at_ 1
  have y2 : ∀ W, Below w1.heap.size w1 W → Own W w1.heap.size 210 f.cells → Hid (Calls Tryz.prog 241 #[.slice A l.length c, .int .i64 (p : Int), .slice (some ⟨w1.heap.size, 0, none⟩) 1 1] W fun e w' => ∃ A' c', e = .returned (.slice A' (l.length + 1) c') ∧
      w'.ownsRow base 210 2 (.slice A' (l.length + 1) c') (l.length + 1) ((l.flatMap Vf.cells).take (p * 2) ++ f.cells ++ (l.flatMap Vf.cells).drop (p * 2)) ∧ W.grownBy w' (Value.slice A l.length c).ownBlock ∧ ((Value.slice A' (l.length + 1) c').ownBlock = (Value.slice A l.length c).ownBlock ∨ (Value.slice A' (l.length + 1) c').ownBlock = some W.heap.size)) := fun W hb ho => by
    refine Lib.hid (insert_any base l.length c p w1.heap.size A _ f W (own_below HX.out.2.1.vis.row hb) ho ?_ hpl ?_ (Nat.le_trans HX.out.2.1.le hb.size) (vfs_one l))
    · intro e
      have := HX.out.2.1.vis.lt w1.heap.size (.inl (by rw [← blk_own A l.length c]; exact e))
      omega
    · have := len_le_wt l; have := HX.out.2.1.wt; omega
  have a2 : (w1.alloc (.cells #[.string f.n, .slice f.A f.ps.length f.c] 210)).cell? ⟨G, o, none⟩ = some (.slice A l.length c) := by
    have := (box1 w1 f).1.cell (p := ⟨G, o, none⟩) hW.inside
    exact this.trans a0
  clear hW oB b1
  go_upto_region 2 with fail
  go_cut [21] (fun s21 wx => ∃ A' c', s21 = .slice A' (l.length + 1) c' ∧ PutMid w base G o t cs A l f A' c' wx)
  case first =>
    go_region_with (go_at_call 241; refine (y2 _ (box1 w1 f).1 (box1 w1 f).2).out.mono ?_; rintro _ w2 ⟨A', c', rfl, hr, hg, hA⟩; have o2 := put_mid HX.out.2.1 (box1 w1 f).1 hg; have s0 : w2.cell? ⟨G, o, none⟩ = some (.slice A l.length c) := (by rw [o2.at_]; exact HX.out.2.1.c0); have s1 : w2.frozen? ⟨G, o, none⟩ = false := o2.open_ o)
    all_goals
      go_wp2_with fail
      go_meet
      exact ⟨_, _, rfl, put_end HP.out HX.out.1 H.out.1 H.out.2.1 H.out.2.2.1 HX.out.2.2 hr hg hA⟩
  case rest =>
    obtain ⟨A', c', rfl, hmid⟩ := hcut
    have MID := Lib.hid hmid
    obtain ⟨k3, o3, v3, f3, b3, p3⟩ := hmid
    have g1 := o3.at_ (o + 1)
    rw [List.getElem?_set_ne (by omega), H.out.1.c1] at g1
    have z3 := o3.open_ (o + 1)
    have x0' := b3.at_ 0
    have x1' := b3.at_ 1
    have HO := Lib.hid (And.intro o3 b3)
    have hsz := H.out.2.2.2.2
    have hwt := putV_wt l f
    have y3 := fun W (hW : Parts W base f) => Lib.hid (size_any base f W hW (by omega) (by omega))
    have e5 : szF (flV (putV l f)) = szF (flV l) + (catB f.ps).size := by rw [putV_fl, szF_put]; rfl
    have hle : szF (flV l) + (catB f.ps).size ≤ 1099511627776 := by unfold wtV at hwt hsz; omega
    have E5 := Lib.hid e5
    have HF := Lib.hid f3
    generalize szF (flV l) = S at *
    generalize (catB f.ps).size = T at *
    have hw : IntKind.i64.wrap ((S : Int) + (T : Int)) = (S : Int) + (T : Int) := by rw [IntKind.wrap_i64]; omega
    clear k3 v3 f3 b3 a0 a1 a2 z0 z1 x0 x1 hwt hsz hle e5 o3 p3
    simp only [List.getElem?_cons_zero, List.getElem?_cons_succ, Vf.cells] at x0' x1'
    unfold Vf.val at y3
    go_wp2_with fail
    go_region_with (go_at_call 208; refine (y3 _ HF.out.drew).out.mono ?_; rintro _ w4 ⟨rfl, b4⟩; have o4 := (own_drewK HO.out.1).past b4 (own_drewK HO.out.1).inside; have s4 : w4.cell? ⟨G, o + 1, none⟩ = some (.int .i64 (S : Int)) := (by rw [o4.at_]; exact (HO.out.1.at_ _).symm.trans g1); have s5 : w4.frozen? ⟨G, o + 1, none⟩ = false := o4.open_ (o + 1))
    all_goals
      go_wp2_with fail
      have HL := Lib.hid (put_last H.out.1 H.out.2.2.1 H.out.2.2.2.1 H.out.2.2.2.2 MID.out (below_undrew b4) (x := ((S : Int) + (T : Int))) (by rw [E5.out]; simp))
      exact bodyPost_end (results_none rfl _ _ _) rfl ⟨rfl, A', c', HL.out⟩
end Go.Proofs.YtllpfngmnccejaaGreat
namespace Go.Proofs.YtllpfngmnccejaaGreat
open Go Go.RowKit

def cutV (l : List Vf) (p : Nat) : List Vf := l.take p ++ l.drop (p + 1)
def takeV (l : List Vf) (n : ByteArray) : List Vf := if hasN (namesV l) n then cutV l (posN (namesV l) n) else l
theorem takeV_fl (l : List Vf) (n : ByteArray) : flV (takeV l n) = takeF (flV l) n := by
  unfold takeV takeF posF
  rw [has_fl, names_fl]
  split
  · unfold cutV flV; rw [List.map_append, List.map_take, List.map_drop]
  · rfl
theorem cutV_len {l : List Vf} {p : Nat} (h : p < l.length) : (cutV l p).length = l.length - 1 := by unfold cutV; simp; omega
theorem cutV_mem {l : List Vf} {p : Nat} {g : Vf} (h : g ∈ cutV l p) : g ∈ l := by
  unfold cutV at h
  rcases List.mem_append.1 h with h | h
  · exact List.mem_of_mem_take h
  · exact List.mem_of_mem_drop h
theorem cutV_cells (l : List Vf) (p : Nat) : (l.flatMap Vf.cells).take (p * 2) ++ (l.flatMap Vf.cells).drop ((p + 1) * 2) = (cutV l p).flatMap Vf.cells := by
  rw [flat_take, flat_drop]; unfold cutV; rw [List.flatMap_append]
theorem cutV_sub (l : List Vf) (p : Nat) : (cutV l p).Sublist l := by
  unfold cutV
  have := List.Sublist.append_left (l₁ := l.drop (p + 1)) (l₂ := l.drop p) (by rw [← List.drop_drop (j := p) (i := 1)] ; exact List.drop_sublist _ _) (l.take p)
  rwa [List.take_append_drop] at this
theorem cutV_wt {l : List Vf} {p : Nat} {f : Vf} (h : l[p]? = some f) : wtV (cutV l p) + 1 + f.ps.length + (catB f.ps).size = wtV l ∧ szF (flV (cutV l p)) + (catB f.ps).size = szF (flV l) := by
  have hlt := (List.getElem?_eq_some_iff.1 h).1
  have e : l = l.take p ++ f :: l.drop (p + 1) := by
    have h1 := (List.getElem?_eq_some_iff.1 h).2
    rw [← h1, ← List.drop_eq_getElem_cons hlt, List.take_append_drop]
  have e1 : szF (flV l) = szF (flV (l.take p)) + ((catB f.ps).size + szF (flV (l.drop (p + 1)))) := by
    conv => lhs; rw [e]
    unfold flV
    rw [List.map_append, szF_app, List.map_cons, szF_cons]; rfl
  have e2 : szF (flV (cutV l p)) = szF (flV (l.take p)) + szF (flV (l.drop (p + 1))) := by unfold cutV flV; rw [List.map_append, szF_app]
  have e3 : (l.map (fun f => f.ps.length)).sum = ((l.take p).map (fun f => f.ps.length)).sum + (f.ps.length + ((l.drop (p + 1)).map (fun f => f.ps.length)).sum) := by
    conv => lhs; rw [e]
    rw [List.map_append, List.sum_append, List.map_cons, List.sum_cons]
  have e4 : ((cutV l p).map (fun f => f.ps.length)).sum = ((l.take p).map (fun f => f.ps.length)).sum + ((l.drop (p + 1)).map (fun f => f.ps.length)).sum := by unfold cutV; rw [List.map_append, List.sum_append]
  unfold wtV
  rw [cutV_len hlt, e1, e2, e3, e4]
  omega
/-- what is seen without one file, in the world where the row is shorter -/
theorem cut_vis {w w' : World} {base : Nat} {A : Option Addr} {c p : Nat} {l : List Vf} (h : Vis w base A c l) (hp : p < l.length)
    (hk : KeptK w w' (fun k => blk A = some k)) (hr : w'.ownsRow base 210 2 (.slice A (l.length - 1) c) (l.length - 1) ((cutV l p).flatMap Vf.cells)) : Vis w' base A c (cutV l p) := by
  refine ⟨by rw [cutV_len hp]; exact hr, fun g hg => ?_, List.Pairwise.sublist (cutV_sub l p) h.apart, fun g hg => h.row_apart g (cutV_mem hg)⟩
  exact hk.row (h.parts g (cutV_mem hg)) (fun k e => h.row_apart g (cutV_mem hg) k (by rw [← blk_own]; exact e))
theorem cut_fp {A : Option Addr} {l : List Vf} {p k : Nat} (h : Fp A (cutV l p) k) : Fp A l k := by
  rcases h with h | ⟨g, hg, h⟩
  · exact .inl h
  · exact .inr ⟨g, cutV_mem hg, h⟩
/-- the file that is taken lies apart from the others -/
theorem cut_apart {w : World} {base : Nat} {A : Option Addr} {c p : Nat} {l : List Vf} {f : Vf} (h : Vis w base A c l) (hf : l[p]? = some f) : ∀ k, blk f.A = some k → ¬ Fp A (cutV l p) k := by
  intro k hk hx
  have hlt := (List.getElem?_eq_some_iff.1 hf).1
  have e : l = l.take p ++ f :: l.drop (p + 1) := by
    have h1 := (List.getElem?_eq_some_iff.1 hf).2
    rw [← h1, ← List.drop_eq_getElem_cons hlt, List.take_append_drop]
  have ha := h.apart
  rw [e, List.pairwise_append, List.pairwise_cons] at ha
  rcases hx with hx | ⟨g, hg, hx⟩
  · exact h.row_apart f (List.mem_of_getElem? hf) k hk hx
  · unfold cutV at hg
    rcases List.mem_append.1 hg with hg | hg
    · exact ha.2.2 g hg f (by simp) k hx hk
    · exact ha.2.1.1 g hg k hk hx
def TakeMid (w : World) (base G o b8 : Nat) (t : TypeId) (cs : List Value) (A : Option Addr) (c : Nat) (l : List Vf) (p : Nat) (f : Vf) (W : World) : Prop :=
  KeptK w W (fun k => k = G ∨ Fp A l k) ∧ Own W G t (cs.set o (.slice A (l.length - 1) c)) ∧ Vis W base A c (cutV l p) ∧ Parts W base f ∧ Own W w.heap.size 210 zeroVf.cells.toList ∧ Own W b8 210 f.cells ∧ w.heap.size < b8 ∧ b8 < W.heap.size
theorem take_mid {w w1 w2 : World} {base G o : Nat} {t : TypeId} {cs : List Value} {A : Option Addr} {c p : Nat} {l : List Vf} {f : Vf} (hf : l[p]? = some f) (h0 : VisAt w base G o t cs A c l) (hb : Below w.heap.size w w1) (hs : w.heap.size < w1.heap.size)
    (oR : Own w1 w.heap.size 210 zeroVf.cells.toList)
    (hr : w2.ownsRow base 210 2 (.slice A (l.length - 1) c) (l.length - 1) ((l.flatMap Vf.cells).take (p * 2) ++ (l.flatMap Vf.cells).drop ((p + 1) * 2)))
    (hg : (w1.alloc (.cells #[.string f.n, .slice f.A f.ps.length f.c] 210)).grownBy w2 (Value.slice A l.length c).ownBlock) :
    TakeMid w base G o w1.heap.size t cs A c l p f (w2.setCell ⟨G, o, none⟩ (.slice A (l.length - 1) c)) := by
  have hlt := (List.getElem?_eq_some_iff.1 hf).1
  have h := h0.below hb
  rw [blk_own] at hg
  rw [cutV_cells] at hr
  have bW : Below w1.heap.size w1 (w1.alloc (.cells #[.string f.n, .slice f.A f.ps.length f.c] 210)) := (Below.refl _ _).alloc (Nat.le_refl _) _
  have oV : Own (w1.alloc (.cells #[.string f.n, .slice f.A f.ps.length f.c] 210)) w1.heap.size 210 f.cells := Own.made w1 _ _
  have hsz : (w1.alloc (.cells #[.string f.n, .slice f.A f.ps.length f.c] 210)).heap.size = w1.heap.size + 1 := by simp
  generalize w1.alloc (.cells #[.string f.n, .slice f.A f.ps.length f.c] 210) = W at *
  have kW : KeptK W w2 (fun k => blk A = some k) := KeptK.of_grown hg (fun _ e => e)
  have kg : KeptK w1 w2 (fun k => blk A = some k) := (KeptK.of_below bW (Nat.le_refl _) (fun k => blk A = some k)).trans kW (fun _ _ e => e)
  have kw : KeptK w w2 (fun k => blk A = some k) := (KeptK.of_below hb (Nat.le_refl _) (fun k => blk A = some k)).trans kg (fun _ _ e => e)
  have v2 := cut_vis h0.vis hlt kw hr
  have hAlt : ∀ k, blk A = some k → k < w.heap.size := fun k e => (h0.vis.lt k (.inl e)).2
  have o2 : Own w2 G t cs := kw.own h0.own (fun e => h0.out (.inl e))
  have k3 : ∀ u, KeptK w2 (w2.setCell ⟨G, o, none⟩ u) (fun k => k = G) := fun u => (KeptK.refl w2 (fun k => k = G)).set_ (.inl rfl) u
  have hin := h0.inside
  have p2 : Parts w2 base f := kw.row (h0.vis.parts f (List.mem_of_getElem? hf)) (fun k e => h0.vis.row_apart f (List.mem_of_getElem? hf) k (by rw [← blk_own]; exact e))
  refine ⟨(kw.more (T := fun k => k = G ∨ Fp A l k) (fun k e => .inr (.inl e))).trans (k3 _) (fun k _ e => .inl e), o2.set_ _ _, v2.kept (k3 _) (fun k hk e => h0.out (by rw [← e]; exact cut_fp hk)), (k3 _).row p2 (fun k e he => ?_), (k3 _).own (kg.own oR (fun e => by have := hAlt _ e; omega)) (fun e => by omega), (k3 _).own (kW.own oV (fun e => by have := hAlt _ e; omega)) (fun e => by omega), by omega, ?_⟩
  · rw [blk_own] at e
    exact h0.out (by rw [← he]; exact .inr ⟨f, List.mem_of_getElem? hf, e⟩)
  · have := kW.size; simp; omega
theorem take_last {w W3 w4 : World} {base G o b8 : Nat} {t : TypeId} {cs : List Value} {A : Option Addr} {c p : Nat} {l : List Vf} {f : Vf} (hf : l[p]? = some f) (h : VisAt w base G o t cs A c l)
    (m : TakeMid w base G o b8 t cs A c l p f W3) (b4 : Below W3.heap.size W3 w4) {x : Int} (hx : x = (szF (flV (cutV l p)) : Int)) (u v : Value) :
    VisTo w (((w4.setCell ⟨G, o + 1, none⟩ (.int .i64 x)).setCell ⟨w.heap.size, 0, none⟩ u).setCell ⟨w.heap.size, 1, none⟩ v) base G o t cs (Fp A l) A c (cutV l p) ∧
      Parts (((w4.setCell ⟨G, o + 1, none⟩ (.int .i64 x)).setCell ⟨w.heap.size, 0, none⟩ u).setCell ⟨w.heap.size, 1, none⟩ v) base f ∧
      Own (((w4.setCell ⟨G, o + 1, none⟩ (.int .i64 x)).setCell ⟨w.heap.size, 0, none⟩ u).setCell ⟨w.heap.size, 1, none⟩ v) w.heap.size 210 [u, v] := by
  subst hx
  obtain ⟨k3, o3, v3, f3, oR, o8, hb8, hs8⟩ := m
  have hin := h.inside
  have hlt := (List.getElem?_eq_some_iff.1 hf).1
  have b34 := KeptK.of_below b4 (Nat.le_refl _) (fun k => k = G ∨ k = w.heap.size)
  have kk : ∀ y, KeptK w4 (((w4.setCell ⟨G, o + 1, none⟩ y).setCell ⟨w.heap.size, 0, none⟩ u).setCell ⟨w.heap.size, 1, none⟩ v) (fun k => k = G ∨ k = w.heap.size) := fun y =>
    (((KeptK.refl w4 (fun k => k = G ∨ k = w.heap.size)).set_ (.inl (.inl rfl)) y).set_ (.inl (.inr rfl)) u).set_ (.inl (.inr rfl)) v
  have k5 := fun y => k3.trans (b34.trans (kk y) (fun _ _ h => h)) (T := fun k => k = G ∨ k = w.heap.size) (fun k hk e => by rcases e with e | e; exact .inl e; omega)
  have o4 := ((o3.past b4 o3.inside).set_ (o + 1) (.int .i64 (szF (flV (cutV l p)) : Int))).other (p := ⟨w.heap.size, 0, none⟩) (by show w.heap.size ≠ G; omega) u |>.other (p := ⟨w.heap.size, 1, none⟩) (by show w.heap.size ≠ G; omega) v
  have oR4 := (((oR.past b4 oR.inside).other (p := ⟨G, o + 1, none⟩) (by show G ≠ w.heap.size; omega) (.int .i64 (szF (flV (cutV l p)) : Int))).set_ 0 u).set_ 1 v
  have hG : ¬ Fp A (cutV l p) G := fun e => h.out (cut_fp e)
  have hwt := cutV_wt hf
  have hR : ∀ k, Fp A l k → ¬ (k = G ∨ k = w.heap.size) := fun k hk e => by
    rcases e with e | e
    · exact h.out (by rw [← e]; exact hk)
    · have := (h.vis.lt k hk).2; omega
  refine ⟨⟨⟨?_, setV_0 h.c0, setV_1 h.c1, v3.kept (b34.trans (kk _) (fun _ _ h => h)) (fun k hk => hR k (cut_fp hk)), hG, ?_, by have := h.wt; omega, Nat.le_trans h.le (k5 _).size⟩, k5 _, fun k hk => .inl (cut_fp hk)⟩, ?_, oR4⟩
  · unfold setV; rw [cutV_len hlt]; exact o4
  · unfold SortedN namesV
    exact List.Pairwise.sublist ((cutV_sub l p).map _) h.sorted
  · exact (b34.trans (kk _) (fun _ _ h => h)).row f3 (fun k e he => hR k (.inr ⟨f, List.mem_of_getElem? hf, by rw [← blk_own]; exact e⟩) he)
end Go.Proofs.YtllpfngmnccejaaGreat
namespace Go.Proofs.YtllpfngmnccejaaGreat
open Go Go.RowKit

theorem zboxK (w : World) : ∃ W, W = w.alloc (.cells #[.string ⟨#[]⟩, .slice none 0 0] 210) ∧ Below w.heap.size w W ∧ W.heap.size = w.heap.size + 1 ∧ Own W w.heap.size 210 zeroVf.cells.toList :=
  ⟨_, rfl, (Below.refl _ _).alloc (Nat.le_refl _) _, by simp, Own.made w _ _⟩
/-- what take answers, and leaves -/
def Took (w w' : World) (base G o : Nat) (t : TypeId) (cs : List Value) (A : Option Addr) (c : Nat) (l : List Vf) (n : ByteArray) (e : Ending) : Prop :=
  if hasN (namesV l) n then ∃ f, l[posN (namesV l) n]? = some f ∧ e = .returned (.tuple #[f.val, .bool true]) ∧ VisTo w w' base G o t cs (Fp A l) A c (takeV l n) ∧ Parts w' base f ∧ (∀ k, blk f.A = some k → ¬ Fp A (takeV l n) k ∧ k ≠ G ∧ k < w.heap.size)
  else e = .returned (.tuple #[zeroVf, .bool false]) ∧ VisTo w w' base G o t cs (Fp A l) A c (takeV l n)
theorem take_own {W w2 : World} {base G o : Nat} {t : TypeId} {cs : List Value} {A : Option Addr} {c : Nat} {l : List Vf} (h : VisAt W base G o t cs A c l) (hg : W.grownBy w2 (Value.slice A l.length c).ownBlock) : Own w2 G t cs := by
  refine (hg.block G h.inside ?_).trans h.own
  intro e
  rw [blk_own] at e
  exact h.out (.inl e.symm)
set_option maxRecDepth 100000 in
set_option maxHeartbeats 1600000 in
theorem take_anyK (base G o : Nat) (t : TypeId) (cs : List Value) (A : Option Addr) (c : Nat) (l : List Vf) (n : ByteArray) (w : World) (h : VisAt w base G o t cs A c l) :
    Calls Tryz.prog 174 #[.pointer (some ⟨G, o, none⟩), .string n] w fun e w' => Took w w' base G o t cs A c l n e := by
  obtain ⟨V, hV, hVb, hVs, oV⟩ := zboxK w
  have hV1 := h.below hVb
  have hlw := len_le_wt l
  have hwl := h.wt
  have y1 := Lib.hid (find_any G o base t cs A c l n V hV1.own hV1.c0 hV1.vis.row hV1.sorted (by omega))
  have H := Lib.hid (And.intro h (And.intro hVb (And.intro hVs (And.intro oV hV1))))
  have hhas := Lib.hid (fun hh => posN_has (n := n) h.sorted hh)
  unfold Took takeV
  obtain ⟨p, hp⟩ : ∃ p, p = posN (namesV l) n := ⟨_, rfl⟩
  rw [← hp] at y1 hhas ⊢
  have z0 := oV.at_ 0
  have z1 := oV.at_ 1
  clear h hVb hVs oV hV1 hlw hwl hp
  cases hh : hasN (namesV l) n
  · rw [hh] at y1
    simp only [Bool.false_eq_true, if_false]
    clear hh hhas
    go_enter Tryz.func174, Tryz.ntmps174
    go_wp2_with fail
    rw [← hV]
    clear hV
    refine y1.out.mono ?_
    rintro _ w1 ⟨rfl, b1⟩
    have oR := H.out.2.2.2.1.past b1 H.out.2.2.2.1.inside
    have r0 := oR.at_ 0
    have r1 := oR.at_ 1
    have f0 := oR.open_ 0
    have f1 := oR.open_ 1
    have HX := Lib.hid (H.out.2.1.trans (b1.mono H.out.2.1.size))
    simp only [zeroVf, Value.cells, List.getElem?_cons_zero, List.getElem?_cons_succ] at r0 r1
    have oE := ((Own.set_ oR 0 (.string ⟨#[]⟩)).set_ 1 (.slice none 0 0))
    have e0 := oE.at_ 0
    have e1 := oE.at_ 1
    simp [zeroVf, Value.cells] at e0 e1
    have HE := Lib.hid (And.intro (VisTo.refl H.out.1 (((HX.out.setCell (p := ⟨w.heap.size, 0, none⟩) (Nat.le_refl _) (.string ⟨#[]⟩)).setCell (p := ⟨w.heap.size, 1, none⟩) (Nat.le_refl _) (.slice none 0 0)))) trivial)
    clear oR oE b1
    go_wp2_with fail
    exact bodyPost_ret (v := .tuple #[.agg #[.string ⟨#[]⟩, .slice none 0 0], .bool false]) (by simp [results, Tryz.results174, go_sem, e0, e1]) rfl ⟨rfl, HE.out.1⟩
  · have hat := hhas.out hh
    rw [hh] at y1
    simp only [if_true]
    obtain ⟨f, hf⟩ : ∃ f, l[p]? = some f := by
      unfold namesV at hat
      rw [List.getElem?_map] at hat
      cases hx : l[p]? with
      | none => rw [hx] at hat; cases hat
      | some f => exact ⟨f, rfl⟩
    have hlt := (List.getElem?_eq_some_iff.1 hf).1
    have HF := Lib.hid hf
    clear hh hhas hat hf
    go_enter Tryz.func174, Tryz.ntmps174
    go_wp2_with fail
    rw [← hV]
    clear hV
    refine y1.out.mono ?_
    rintro _ w1 ⟨rfl, b1⟩
    have hW := H.out.2.2.2.2.below b1
    have oR := H.out.2.2.2.1.past b1 H.out.2.2.2.1.inside
    have hs1 : w.heap.size < w1.heap.size := by have := b1.size; have := H.out.2.2.1; omega
    have HX := Lib.hid (And.intro (H.out.2.1.trans (b1.mono H.out.2.1.size)) (And.intro hW (And.intro oR hs1)))
    obtain ⟨g, rfl, c0, c1, hg⟩ := vf_at hW.vis.row HF.out
    have a0 : w1.cell? ⟨G, o, none⟩ = some (.slice (some ⟨g, 0, none⟩) l.length c) := by rw [hW.own.at_]; exact hW.c0
    clear hW oR b1 z0 z1 hs1
    obtain ⟨W, hW, bW, sW, oW⟩ := vfbox w1 f
    have VW := HX.out.2.1.below bW
    have a1 : W.cell? ⟨G, o, none⟩ = some (.slice (some ⟨g, 0, none⟩) l.length c) := by rw [VW.own.at_]; exact VW.c0
    have y2 := Lib.hid (delete_any base l.length c p (some ⟨g, 0, none⟩) _ W VW.vis.row hlt (vfs_one l))
    have HW := Lib.hid (And.intro bW (And.intro oW (And.intro VW hW)))
    have hp1 : IntKind.i64.wrap ((p : Int) + 1) = (p : Int) + 1 := by
      have := len_le_wt l
      have := H.out.1.wt
      rw [IntKind.wrap_i64]; omega
    clear bW sW oW VW
    go_upto_region 5 with fail
    rw [← hW]
    clear hW
    go_wp2_with fail
    refine y2.out.mono ?_
    rintro _ w2 ⟨rfl, hr, hgr⟩
    have o2 := take_own HW.out.2.2.1 hgr
    have s0 : w2.cell? ⟨G, o, none⟩ = some (.slice (some ⟨g, 0, none⟩) l.length c) := by rw [o2.at_]; exact HX.out.2.1.c0
    have s1 : w2.frozen? ⟨G, o, none⟩ = false := o2.open_ o
    rw [HW.out.2.2.2] at hgr
    have hmid := take_mid HF.out H.out.1 HX.out.1 HX.out.2.2.2 HX.out.2.2.1 hr hgr
    clear hr hgr o2 y2 c0 c1 a0 a1
    go_upto_region 6 with fail
    obtain ⟨W3, hW3⟩ : ∃ W3, W3 = w2.setCell ⟨G, o, none⟩ (.slice (some ⟨g, 0, none⟩) (l.length - 1) c) := ⟨_, rfl⟩
    rw [← hW3] at hmid ⊢
    clear hW3 s0 s1
    have MID := Lib.hid hmid
    obtain ⟨k3, o3, v3, f3, oR, o8, hb8, hs8⟩ := hmid
    have g1 := o3.at_ (o + 1)
    rw [List.getElem?_set_ne (by omega), H.out.1.c1] at g1
    have z3 := o3.open_ (o + 1)
    have x0 := o8.at_ 0
    have x1 := o8.at_ 1
    simp only [List.getElem?_cons_zero, List.getElem?_cons_succ, Vf.cells] at x0 x1
    have hwt := cutV_wt HF.out
    have hwl := H.out.1.wt
    have y3 := fun W (hW : Parts W base f) => Lib.hid (size_any base f W hW (by omega) (by unfold wtV at *; omega))
    have E5 := Lib.hid hwt.2
    have hle : szF (flV l) ≤ 1099511627776 := by unfold wtV at hwl; omega
    have HFP := Lib.hid f3
    have HO := Lib.hid o3
    have HR := Lib.hid (And.intro oR (And.intro o8 (And.intro hb8 hs8)))
    unfold Vf.val at y3
    generalize hS : szF (flV l) = S at *
    generalize (catB f.ps).size = T at *
    have hTS : T ≤ S := by have := E5.out; omega
    have hw : IntKind.i64.wrap ((S : Int) - (T : Int)) = (S : Int) - (T : Int) := by rw [IntKind.wrap_i64]; omega
    clear k3 v3 f3 o3 oR o8 hb8 hs8 hwt hwl hle hS
    go_wp2_with fail
    go_region_with (go_at_call 208; refine (y3 _ HFP.out.drew).out.mono ?_; rintro _ w4 ⟨rfl, b4⟩; have o4 := (own_drewK HO.out).past b4 (own_drewK HO.out).inside; have s4 : w4.cell? ⟨G, o + 1, none⟩ = some (.int .i64 (S : Int)) := (by rw [o4.at_]; exact (HO.out.at_ _).symm.trans g1); have s5 : w4.frozen? ⟨G, o + 1, none⟩ = false := o4.open_ (o + 1))
    all_goals
      have hin := H.out.1.inside
      have oR5 := ((own_drewK HR.out.1).past b4 (own_drewK HR.out.1).inside).other (p := ⟨G, o + 1, none⟩) (by show G ≠ w.heap.size; omega) (.int .i64 ((S : Int) - (T : Int)))
      have o85 := ((own_drewK HR.out.2.1).past b4 (own_drewK HR.out.2.1).inside).other (p := ⟨G, o + 1, none⟩) (by show G ≠ w1.heap.size; have := HR.out.2.2.1; omega) (.int .i64 ((S : Int) - (T : Int)))
      have HL := Lib.hid (take_last HF.out H.out.1 MID.out (below_undrew b4) (x := ((S : Int) - (T : Int))) (by have := E5.out; omega) (.string f.n) (.slice f.A f.ps.length f.c))
      generalize w4.setCell ⟨G, o + 1, none⟩ (.int .i64 ((S : Int) - (T : Int))) = W5 at *
      have p0 := o85.at_ 0
      have p1 := o85.at_ 1
      have q0 := oR5.at_ 0
      have q1 := oR5.at_ 1
      have r0 := oR5.open_ 0
      have r1 := oR5.open_ 1
      have e0 := HL.out.2.2.at_ 0
      have e1 := HL.out.2.2.at_ 1
      simp only [zeroVf, Value.cells, Vf.cells, List.getElem?_cons_zero, List.getElem?_cons_succ] at p0 p1 q0 q1 e0 e1
      clear oR5 o85 b4 o4 s4 s5 g1 z3 x0 x1
      go_wp2_with fail
      refine bodyPost_ret (v := .tuple #[f.val, .bool true]) (by simp [results, Tryz.results174, go_sem, e0, e1, Vf.val]) rfl ⟨f, HF.out, rfl, HL.out.1, HL.out.2.1, fun k hk => ⟨cut_apart H.out.1.vis HF.out k hk, ?_, ?_⟩⟩
      · intro e
        exact H.out.1.out (by rw [← e]; exact .inr ⟨f, List.mem_of_getElem? HF.out, hk⟩)
      · exact (H.out.1.vis.lt k (.inr ⟨f, List.mem_of_getElem? HF.out, hk⟩)).2
end Go.Proofs.YtllpfngmnccejaaGreat
namespace Go.Proofs.YtllpfngmnccejaaGreat
open Go Go.RowKit

def moreV (f : Vf) (A2 : Option Addr) (c2 : Nat) (d : ByteArray) : Vf := ⟨f.n, A2, c2, f.ps ++ [d]⟩
theorem flat_setK : ∀ (l : List Vf) (p : Nat) (f g : Vf), l[p]? = some f → g.n = f.n → (l.flatMap Vf.cells).set (p * 2 + 1) (.slice g.A g.ps.length g.c) = (l.set p g).flatMap Vf.cells
  | [], p, f, g, h, _ => by simp at h
  | x :: l, 0, f, g, h, hn => by
    obtain rfl : x = f := by simpa using h
    simp [Vf.cells, hn]
  | x :: l, p + 1, f, g, h, hn => by
    have ih := flat_setK l p f g (by simpa using h) hn
    rw [List.flatMap_cons, List.set_cons_succ, List.flatMap_cons, ← ih, show (p + 1) * 2 + 1 = x.cells.length + (p * 2 + 1) by show _ = 2 + _; omega, List.set_append_right _ _ (by omega)]
    congr 2
    omega
theorem set_fl (l : List Vf) (p : Nat) (g : Vf) : flV (l.set p g) = (flV l).set p g.fl := by unfold flV; rw [List.map_set]
theorem names_setV {l : List Vf} {p : Nat} {f g : Vf} (h : l[p]? = some f) (hn : g.n = f.n) : namesV (l.set p g) = namesV l := by
  unfold namesV
  rw [List.map_set]
  apply List.ext_getElem?
  intro i
  rw [List.getElem?_set]
  split
  · rename_i hi; subst hi
    rw [List.getElem?_map, h, hn]
    have := (List.getElem?_eq_some_iff.1 h).1
    simp [this]
  · rfl
theorem sum_set {l : List Nat} {p a b : Nat} (h : l[p]? = some a) : (l.set p b).sum + a = l.sum + b := by
  induction l generalizing p with
  | nil => simp at h
  | cons x l ih =>
    cases p with
    | zero => obtain rfl : x = a := by simpa using h
              simp; omega
    | succ p => have := ih (p := p) (by simpa using h); simp; omega
theorem more_wt {l : List Vf} {p c2 : Nat} {f : Vf} {A2 : Option Addr} {d : ByteArray} (h : l[p]? = some f) : wtV (l.set p (moreV f A2 c2 d)) = wtV l + 1 + d.size ∧ szF (flV (l.set p (moreV f A2 c2 d))) = szF (flV l) + d.size := by
  have e1 := sum_set (l := l.map (fun f => f.ps.length)) (p := p) (a := f.ps.length) (b := f.ps.length + 1) (by rw [List.getElem?_map, h]; rfl)
  have e2 := sum_set (l := (flV l).map (fun f => f.d.size)) (p := p) (a := (catB f.ps).size) (b := (catB f.ps).size + d.size) (by unfold flV; rw [List.getElem?_map, List.getElem?_map, h]; rfl)
  have e3 : (l.set p (moreV f A2 c2 d)).map (fun f => f.ps.length) = (l.map (fun f => f.ps.length)).set p (f.ps.length + 1) := by rw [List.map_set]; simp [moreV]
  have e4 : szF (flV (l.set p (moreV f A2 c2 d))) = (((flV l).map (fun f => f.d.size)).set p ((catB f.ps).size + d.size)).sum := by
    unfold szF
    rw [set_fl, List.map_set]
    have : (moreV f A2 c2 d).fl.d.size = (catB f.ps).size + d.size := by show (catB (f.ps ++ [d])).size = _; rw [catB_more, bsize_app]
    rw [this]
  have e5 : szF (flV (l.set p (moreV f A2 c2 d))) = szF (flV l) + d.size := by rw [e4]; unfold szF; omega
  refine ⟨?_, e5⟩
  unfold wtV
  rw [e3, e5, List.length_set]
  omega
/-- what extending comes to -/
theorem ext_has {l : List Vf} {n d : ByteArray} {f : Vf} {A2 : Option Addr} {c2 : Nat} (hs : SortedN (namesV l)) (hh : hasN (namesV l) n = true) (hf : l[posN (namesV l) n]? = some f) : f.n = n ∧ flV (l.set (posN (namesV l) n) (moreV f A2 c2 d)) = extF (flV l) n d := by
  have h1 := posN_has hs hh
  have hn : f.n = n := by
    unfold namesV at h1 hf
    rw [List.getElem?_map] at h1
    rw [hf] at h1
    exact Option.some.inj h1
  refine ⟨hn, ?_⟩
  rw [set_fl]
  unfold extF
  rw [has_fl, if_pos hh]
  have hp : posF (flV l) n = posN (namesV l) n := by unfold posF; rw [names_fl]
  have ho : oldF (flV l) n = f.fl := by
    unfold oldF
    rw [hp]
    unfold flV
    rw [List.getElem?_map, hf]; rfl
  rw [hp, ho]
  show List.set _ _ (Fl.mk f.n (catB (f.ps ++ [d]))) = _
  rw [catB_more, hn]; rfl
def newV (n : ByteArray) : Vf := ⟨n, none, 0, []⟩
theorem putV_at (l : List Vf) (f : Vf) : (putV l f)[posN (namesV l) f.n]? = some f := by
  have h2 := posN_le (namesV l) f.n
  have h3 : (namesV l).length = l.length := by simp [namesV]
  unfold putV
  rw [List.getElem?_append_right (by simp; omega)]
  have : posN (namesV l) f.n - (l.take (posN (namesV l) f.n)).length = 0 := by rw [List.length_take]; omega
  rw [this]; rfl
theorem ext_new {l : List Vf} {n d : ByteArray} {A2 : Option Addr} {c2 : Nat} (hh : hasN (namesV l) n = false) : flV ((putV l (newV n)).set (posN (namesV l) n) (moreV (newV n) A2 c2 d)) = extF (flV l) n d := by
  rw [set_fl, putV_fl]
  unfold extF
  rw [has_fl, hh]
  simp only [Bool.false_eq_true, if_false]
  have h2 := posN_le (namesV l) n
  have h3 : (namesV l).length = l.length := by simp [namesV]
  have hp : posF (flV l) n = posN (namesV l) n := by unfold posF; rw [names_fl]
  unfold putF
  dsimp only [newV, Vf.fl]
  rw [hp]
  have hl : ((flV l).take (posN (namesV l) n)).length = posN (namesV l) n := by rw [List.length_take]; unfold flV; simp; omega
  rw [List.set_append_right _ _ (by omega), hl, Nat.sub_self, List.set_cons_zero]
  have : catB (moreV { n := n, A := none, c := 0, ps := [] } A2 c2 d).ps = ⟨#[]⟩ ++ d := catB_more [] d
  rw [this]
  rfl
theorem parts_nil (w : World) (base : Nat) (n : ByteArray) : Parts w base (newV n) := World.ownsRow_nil _ _ _ _
theorem partbox (w : World) (d : ByteArray) : Lies 1 (fun s : ByteArray => [Value.string s]) (w.alloc (.cells #[.string d] 9)) (w.heap.size + 1) (some ⟨w.heap.size, 0, none⟩) [d] := fun _ => by
  refine ⟨w.heap.size, 0, rfl, by omega, fun i x hx j u hu => ?_⟩
  match i, hx with
  | 0, hx =>
    obtain rfl : d = x := by simpa using hx
    have := (Own.made w 9 [.string d]).at_ j
    rw [show 0 + 0 * 1 + j = j by omega]
    exact this.trans hu
theorem flat_str (ps : List ByteArray) : ps.flatMap (fun s : ByteArray => [Value.string s]) = ps.map Value.string := by
  induction ps with
  | nil => rfl
  | cons x l ih => rw [List.flatMap_cons, ih]; rfl
theorem infoStr : (Tryz.prog.info? 9).map (fun i => (i.zero, i.size, i.bytes)) = some (some (.string ⟨#[]⟩), 1, 16) := by kernel_rfl
/-- what is seen with a part more, in the world where it is stored -/
theorem more_vis {w w2 : World} {base g p c c2 : Nat} {A2 : Option Addr} {l : List Vf} {f : Vf} {d : ByteArray} (h : Vis w base (some ⟨g, 0, none⟩) c l) (hf : l[p]? = some f)
    (hk : KeptK w w2 (fun k => blk f.A = some k)) (hr : w2.ownsRow base 9 1 (.slice A2 (f.ps.length + 1) c2) (f.ps.length + 1) (f.ps.map Value.string ++ [.string d])) (hA : blk A2 = blk f.A ∨ ∃ k, blk A2 = some k ∧ w.heap.size ≤ k) :
    Vis (w2.setCell ⟨g, p * 2 + 1, none⟩ (.slice A2 (f.ps.length + 1) c2)) base (some ⟨g, 0, none⟩) c (l.set p (moreV f A2 c2 d)) ∧
      KeptK w (w2.setCell ⟨g, p * 2 + 1, none⟩ (.slice A2 (f.ps.length + 1) c2)) (fun k => blk f.A = some k ∨ k = g) ∧
      (∀ k, Fp (some ⟨g, 0, none⟩) (l.set p (moreV f A2 c2 d)) k → Fp (some ⟨g, 0, none⟩) l k ∨ w.heap.size ≤ k) := by
  have hlt := (List.getElem?_eq_some_iff.1 hf).1
  have hmem := List.mem_of_getElem? hf
  have hgl : g < w.heap.size := (h.lt g (.inl rfl)).2
  have hgf : blk f.A ≠ some g := fun e => h.row_apart f hmem g e rfl
  have r2 : w2.ownsRow base 210 2 (.slice (some ⟨g, 0, none⟩) l.length c) l.length (l.flatMap Vf.cells) := hk.row h.row (fun k e he => by
    rw [blk_own] at e; exact h.row_apart f hmem k he e)
  obtain ⟨r3, g3⟩ := r2.stored (p * 2 + 1) (.slice A2 (f.ps.length + 1) c2)
  have e3 : (l.flatMap Vf.cells).set (p * 2 + 1) (.slice A2 (f.ps.length + 1) c2) = (l.set p (moreV f A2 c2 d)).flatMap Vf.cells := by
    have := flat_setK l p f (moreV f A2 c2 d) hf rfl
    rw [← this]
    simp [moreV]
  rw [e3] at r3
  have k3 : KeptK w2 (w2.setCell ⟨g, p * 2 + 1, none⟩ (.slice A2 (f.ps.length + 1) c2)) (fun k => k = g) := (KeptK.refl w2 (fun k => k = g)).set_ (.inl rfl) _
  have kk : KeptK w (w2.setCell ⟨g, p * 2 + 1, none⟩ (.slice A2 (f.ps.length + 1) c2)) (fun k => blk f.A = some k ∨ k = g) := (hk.more (T := fun k => blk f.A = some k ∨ k = g) (fun k e => .inl e)).trans k3 (fun k _ e => .inr e)
  have hnew : ∀ k, blk A2 = some k → blk f.A = some k ∨ w.heap.size ≤ k := fun k e => by
    rcases hA with h1 | ⟨q, h1, h2⟩
    · exact .inl (by rw [← h1]; exact e)
    · rw [h1] at e; have := Option.some.inj e; exact .inr (by omega)
  have pn : Parts (w2.setCell ⟨g, p * 2 + 1, none⟩ (.slice A2 (f.ps.length + 1) c2)) base (moreV f A2 c2 d) := by
    unfold Parts moreV
    have hl : (f.ps ++ [d]).length = f.ps.length + 1 := by simp
    dsimp only
    rw [hl, List.map_append, List.map_cons, List.map_nil]
    refine k3.row hr (fun k e he => ?_)
    rw [blk_own] at e
    rcases hnew k e with h1 | h1
    · exact hgf (by rw [← he]; exact h1)
    · omega
  have hold : ∀ q x, l[q]? = some x → q ≠ p → Parts (w2.setCell ⟨g, p * 2 + 1, none⟩ (.slice A2 (f.ps.length + 1) c2)) base x ∧ ∀ k, blk x.A = some k → blk f.A ≠ some k := by
    intro q x hx hq
    have hap : ∀ k, blk x.A = some k → blk f.A ≠ some k := by
      intro k e1 e2
      have ha := List.pairwise_iff_getElem.1 h.apart
      have hql := (List.getElem?_eq_some_iff.1 hx).1
      have ex := (List.getElem?_eq_some_iff.1 hx).2
      have ef := (List.getElem?_eq_some_iff.1 hf).2
      rcases Nat.lt_or_gt_of_ne hq with hlt2 | hlt2
      · exact ha q p hql hlt hlt2 k (by rw [ex]; exact e1) (by rw [ef]; exact e2)
      · exact ha p q hlt hql hlt2 k (by rw [ef]; exact e2) (by rw [ex]; exact e1)
    refine ⟨kk.row (h.parts x (List.mem_of_getElem? hx)) (fun k e he => ?_), hap⟩
    rw [blk_own] at e
    rcases he with he | he
    · exact hap k e he
    · subst he; exact h.row_apart x (List.mem_of_getElem? hx) k e rfl
  have hin : ∀ x ∈ l.set p (moreV f A2 c2 d), x = moreV f A2 c2 d ∨ ∃ q, q ≠ p ∧ l[q]? = some x := by
    intro x hx
    obtain ⟨q, hq⟩ := List.getElem?_of_mem hx
    rw [List.getElem?_set] at hq
    split at hq
    · exact .inl (Option.some.inj hq).symm
    · rename_i hne; exact .inr ⟨q, fun e => hne e.symm, hq⟩
  refine ⟨⟨by rw [List.length_set]; exact r3, ?_, ?_, ?_⟩, kk, ?_⟩
  · intro x hx
    rcases hin x hx with rfl | ⟨q, hq, hx2⟩
    · exact pn
    · exact (hold q x hx2 hq).1
  · rw [List.pairwise_iff_getElem]
    intro i j hi hj hij k e1 e2
    rw [List.length_set] at hi hj
    rw [List.getElem_set] at e1 e2
    have ha := List.pairwise_iff_getElem.1 h.apart i j hi hj hij
    split at e1
    · rename_i hpi
      rw [if_neg (by omega)] at e2
      rcases hnew k e1 with h1 | h1
      · exact (hold j _ (List.getElem?_eq_getElem hj) (by omega)).2 k e2 h1
      · have := (h.lt k (.inr ⟨_, List.getElem_mem hj, e2⟩)).2; omega
    · split at e2
      · rename_i hpj
        rcases hnew k e2 with h1 | h1
        · exact (hold i _ (List.getElem?_eq_getElem hi) (by omega)).2 k e1 h1
        · have := (h.lt k (.inr ⟨_, List.getElem_mem hi, e1⟩)).2; omega
      · exact ha k e1 e2
  · intro x hx k e1 e2
    have hk2 : g = k := Option.some.inj e2
    rcases hin x hx with rfl | ⟨q, hq, hx2⟩
    · rcases hnew k e1 with h1 | h1
      · exact hgf (by rw [hk2]; exact h1)
      · omega
    · exact h.row_apart x (List.mem_of_getElem? hx2) k e1 e2
  · rintro k (e | ⟨x, hx, e⟩)
    · exact .inl (.inl e)
    · rcases hin x hx with rfl | ⟨q, hq, hx2⟩
      · rcases hnew k e with h1 | h1
        · exact .inl (.inr ⟨f, hmem, h1⟩)
        · exact .inr h1
      · exact .inl (.inr ⟨x, List.mem_of_getElem? hx2, e⟩)
end Go.Proofs.YtllpfngmnccejaaGreat
namespace Go.Proofs.YtllpfngmnccejaaGreat
open Go Go.RowKit

/-- where a file stands that is to get a part more -/
def ExtMid (w : World) (base G o : Nat) (t : TypeId) (cs : List Value) (A : Option Addr) (l : List Vf) (n d : ByteArray) (p : Nat) (W : World) (g c1 : Nat) (l1 : List Vf) (f : Vf) : Prop :=
  VisTo w W base G o t cs (Fp A l) (some ⟨g, 0, none⟩) c1 l1 ∧ l1[p]? = some f ∧ f.n = n ∧ (∀ A2 c2, flV (l1.set p (moreV f A2 c2 d)) = extF (flV l) n d) ∧ wtV l1 ≤ wtV l + 1
theorem wt_new (l : List Vf) (n : ByteArray) : wtV (putV l (newV n)) = wtV l + 1 := by rw [putV_wt]; rfl
theorem row_slice {w : World} {base n size : Nat} {e : TypeId} {v : Value} {xs : List Value} (h : w.ownsRow base e size v n xs) : ∃ A c, v = .slice A n c := by
  rcases h.2 with ⟨rfl, rfl⟩ | ⟨g, cap, cur, rfl, _⟩
  · exact ⟨_, _, rfl⟩
  · exact ⟨_, _, rfl⟩
theorem more_mid {w W w2 : World} {base G o p g c : Nat} {t : TypeId} {cs : List Value} {l : List Vf} {f : Vf} (h : VisAt w base G o t cs (some ⟨g, 0, none⟩) c l) (hf : l[p]? = some f) (bW : Below w.heap.size w W) (hg : W.grownBy w2 (Value.slice f.A f.ps.length f.c).ownBlock) :
    w2.cell? ⟨G, o, none⟩ = some (.slice (some ⟨g, 0, none⟩) l.length c) ∧ w2.cell? ⟨g, p * 2 + 1, none⟩ = some (.slice f.A f.ps.length f.c) ∧ w2.frozen? ⟨g, p * 2 + 1, none⟩ = false ∧ KeptK w w2 (fun k => blk f.A = some k) ∧ Own w2 G t cs := by
  have hmem := List.mem_of_getElem? hf
  rw [blk_own] at hg
  have kk : KeptK w w2 (fun k => blk f.A = some k) := (KeptK.of_below bW (Nat.le_refl _) (fun k => blk f.A = some k)).trans (KeptK.of_grown hg (fun _ e => e)) (fun _ _ e => e)
  have oG := kk.own h.own (fun e => h.out (.inr ⟨f, hmem, e⟩))
  have r2 := kk.row h.vis.row (fun k e he => by rw [blk_own] at e; exact h.vis.row_apart f hmem k he e)
  obtain ⟨g', hg', _, c1, _⟩ := vf_at r2 hf
  obtain rfl : g = g' := by injection hg' with e; injection e
  exact ⟨by rw [oG.at_]; exact h.c0, c1, r2.frozenAt _, kk, oG⟩
def ExtMid2 (base G o : Nat) (t : TypeId) (cs : List Value) (g c1 : Nat) (l1 : List Vf) (f : Vf) (p : Nat) (d : ByteArray) (wc wx : World) (A2 : Option Addr) (c2 : Nat) : Prop :=
  Vis wx base (some ⟨g, 0, none⟩) c1 (l1.set p (moreV f A2 c2 d)) ∧ KeptK wc wx (fun k => blk f.A = some k ∨ k = g) ∧ (∀ k, Fp (some ⟨g, 0, none⟩) (l1.set p (moreV f A2 c2 d)) k → Fp (some ⟨g, 0, none⟩) l1 k ∨ wc.heap.size ≤ k) ∧ Own wx G t (setV cs o (some ⟨g, 0, none⟩) c1 l1)
theorem ext_mid2 {w w2 : World} {base G o p g c c2 : Nat} {t : TypeId} {cs : List Value} {A2 : Option Addr} {l : List Vf} {f : Vf} {d : ByteArray} (h : VisAt w base G o t (setV cs o (some ⟨g, 0, none⟩) c l) (some ⟨g, 0, none⟩) c l) (hf : l[p]? = some f)
    (m4 : KeptK w w2 (fun k => blk f.A = some k)) (m5 : Own w2 G t (setV cs o (some ⟨g, 0, none⟩) c l))
    (ho2 : w2.ownsRow base 9 1 (.slice A2 (f.ps.length + [d].length) c2) (f.ps.length + [d].length) (f.ps.map Value.string ++ [d].flatMap (fun s => [Value.string s])))
    (hv2 : (Value.slice A2 (f.ps.length + [d].length) c2).ownBlock = (Value.slice f.A f.ps.length f.c).ownBlock ∨ (Value.slice A2 (f.ps.length + [d].length) c2).ownBlock = some (w.alloc (.cells #[.string d] 9)).drew.heap.size) :
    ExtMid2 base G o t cs g c l f p d w (w2.setCell ⟨g, p * 2 + 1, none⟩ (.slice A2 (f.ps.length + 1) c2)) A2 c2 := by
  rw [blk_own] at hv2
  rw [blk_own] at hv2
  obtain ⟨v3, k3, p3⟩ := more_vis (c2 := c2) h.vis hf m4 ho2 (by
    rcases hv2 with e | e
    · exact .inl e
    · refine .inr ⟨_, e, ?_⟩
      show w.heap.size ≤ (w.alloc _).heap.size
      simp)
  refine ⟨v3, k3, p3, m5.other (p := ⟨g, p * 2 + 1, none⟩) ?_ _⟩
  intro e
  exact h.out (.inl (congrArg some e))
theorem ext_last {w wc wx : World} {base G o p g c1 c2 : Nat} {t : TypeId} {cs : List Value} {F : Nat → Prop} {A2 : Option Addr} {l1 : List Vf} {f : Vf} {d : ByteArray} (k1 : VisTo w wc base G o t cs F (some ⟨g, 0, none⟩) c1 l1) (hf : l1[p]? = some f) (hw : wtV l1 + 1 + d.size ≤ 1099511627776)
    (v3 : Vis wx base (some ⟨g, 0, none⟩) c1 (l1.set p (moreV f A2 c2 d))) (k3 : KeptK wc wx (fun k => blk f.A = some k ∨ k = g)) (p3 : ∀ k, Fp (some ⟨g, 0, none⟩) (l1.set p (moreV f A2 c2 d)) k → Fp (some ⟨g, 0, none⟩) l1 k ∨ wc.heap.size ≤ k) (o3 : Own wx G t (setV cs o (some ⟨g, 0, none⟩) c1 l1))
    {x : Int} (hx : x = (szF (flV (l1.set p (moreV f A2 c2 d))) : Int)) : VisTo w (wx.setCell ⟨G, o + 1, none⟩ (.int .i64 x)) base G o t cs F (some ⟨g, 0, none⟩) c1 (l1.set p (moreV f A2 c2 d)) := by
  subst hx
  have hmem := List.mem_of_getElem? hf
  have hG : ¬ Fp (some ⟨g, 0, none⟩) (l1.set p (moreV f A2 c2 d)) G := fun e => by
    rcases p3 G e with e | e
    · exact k1.at_.out e
    · have := k1.at_.inside; omega
  have kk : ∀ u, KeptK wx (wx.setCell ⟨G, o + 1, none⟩ u) (fun k => k = G) := fun u => (KeptK.refl wx (fun k => k = G)).set_ (.inl rfl) u
  have hfp1 : ∀ k, (blk f.A = some k ∨ k = g) → Fp (some ⟨g, 0, none⟩) l1 k := fun k e => by
    rcases e with e | e
    · exact .inr ⟨f, hmem, e⟩
    · exact .inl (by rw [e]; rfl)
  have hfp2 : ∀ k, Fp (some ⟨g, 0, none⟩) l1 k → F k ∨ w.heap.size ≤ k := k1.fp
  refine ⟨⟨?_, ?_, ?_, v3.kept (kk _) (fun k hk e => hG (by rw [← e]; exact hk)), hG, ?_, by have := more_wt (A2 := A2) (c2 := c2) (d := d) hf; omega, ?_⟩, ?_, ?_⟩
  · have := o3.set_ (o + 1) (.int .i64 (szF (flV (l1.set p (moreV f A2 c2 d))) : Int))
    have e : (setV cs o (some ⟨g, 0, none⟩) c1 l1).set (o + 1) (.int .i64 (szF (flV (l1.set p (moreV f A2 c2 d))) : Int)) = setV cs o (some ⟨g, 0, none⟩) c1 (l1.set p (moreV f A2 c2 d)) := by
      unfold setV
      rw [List.set_set, List.length_set]
    rw [← e]; exact this
  · have := k1.at_.c0
    have h0 : ∃ u, cs[o]? = some u := by
      have hl := (List.getElem?_eq_some_iff.1 this).1
      unfold setV at hl
      simp at hl
      exact ⟨_, List.getElem?_eq_getElem hl⟩
    obtain ⟨u, hu⟩ := h0
    exact setV_0 hu
  · have := k1.at_.c1
    have h0 : ∃ u, cs[o + 1]? = some u := by
      have hl := (List.getElem?_eq_some_iff.1 this).1
      unfold setV at hl
      simp at hl
      exact ⟨_, List.getElem?_eq_getElem hl⟩
    obtain ⟨u, hu⟩ := h0
    exact setV_1 hu
  · rw [names_setV (g := moreV f A2 c2 d) hf rfl]; exact k1.at_.sorted
  · exact Nat.le_trans k1.at_.le (Nat.le_trans k3.size (kk (.int .i64 (szF (flV (l1.set p (moreV f A2 c2 d))) : Int))).size)
  · have k4 := (k3.more (T := fun k => k = G ∨ (blk f.A = some k ∨ k = g)) (fun k e => .inr e)).trans (kk (.int .i64 (szF (flV (l1.set p (moreV f A2 c2 d))) : Int))) (fun k _ e => .inl e)
    refine k1.kept.trans k4 (fun k hk e => ?_)
    rcases e with e | e
    · exact .inl e
    · rcases hfp2 k (hfp1 k e) with h1 | h1
      · exact .inr h1
      · omega
  · intro k hk
    rcases p3 k hk with e | e
    · exact hfp2 k e
    · exact .inr (Nat.le_trans k1.kept.size e)
set_option maxRecDepth 100000 in
set_option maxHeartbeats 1600000 in
theorem extend_any (base G o : Nat) (t : TypeId) (cs : List Value) (A : Option Addr) (c : Nat) (l : List Vf) (n d : ByteArray) (w : World) (h : VisAt w base G o t cs A c l) (hw : wtV l + 2 + d.size ≤ 1099511627776) :
    Calls Tryz.prog 171 #[.pointer (some ⟨G, o, none⟩), .string n, .string d] w fun e w' => e = .returned (.tuple #[]) ∧ ∃ A' c' l', VisTo w w' base G o t cs (Fp A l) A' c' l' ∧ flV l' = extF (flV l) n d ∧ wtV l' ≤ wtV l + 2 + d.size := by
  have hlw := len_le_wt l
  have hwl := h.wt
  have y1 := Lib.hid (find_any G o base t cs A c l n w h.own h.c0 h.vis.row h.sorted (by omega))
  have H := Lib.hid (And.intro h hw)
  have hhas := Lib.hid (fun hh => posN_has (n := n) h.sorted hh)
  obtain ⟨p, hp⟩ : ∃ p, p = posN (namesV l) n := ⟨_, rfl⟩
  have HP := Lib.hid hp
  have hpl : p ≤ l.length := by rw [hp]; have := posN_le (namesV l) n; simpa [namesV] using this
  rw [← hp] at y1 hhas
  obtain ⟨b, hb⟩ : ∃ b, b = hasN (namesV l) n := ⟨_, rfl⟩
  have HB := Lib.hid hb
  rw [← hb] at y1 hhas
  have y2 := fun W (hV : VisAt W base G o t cs A c l) (hb : b = false) => Lib.hid (put_any base G o t cs A c l (newV n) W hV (parts_nil _ _ _) (fun k e => by cases e) (by show hasN (namesV l) n = false; rw [← HB.out, hb]) (by rw [wt_new]; omega))
  unfold Vf.val newV at y2
  clear h hw hwl hlw hp hb
  go_enter Tryz.func171, Tryz.ntmps171
  go_wp2_with fail
  refine y1.out.mono ?_
  rintro _ w1 ⟨rfl, b1⟩
  have HW := Lib.hid (And.intro b1 (H.out.1.below b1))
  clear b1 y1
  go_upto_if 15 with fail
  go_cut [6] (fun s6 wx => s6 = .int .i64 (p : Int) ∧ ∃ g c1 l1 f, ExtMid w base G o t cs A l n d p wx g c1 l1 f)
  case first =>
    cases b
    · go_wp2_with fail
      refine (y2 _ HW.out.2 (by first | trivial | rfl)).out.mono ?_
      rintro _ w2 ⟨rfl, A1, c1, k1⟩
      go_wp2_with fail
      go_meet
      have hat : (putV l (newV n))[p]? = some (newV n) := by rw [HP.out]; exact putV_at l (newV n)
      have k2 := (k1.after HW.out.1).wider (F' := Fp A l) (fun k e => by rcases e with e | e; exact e; cases e)
      obtain ⟨g, hg, _⟩ := vf_at k2.at_.vis.row hat
      subst hg
      exact ⟨rfl, g, c1, _, newV n, k2, hat, rfl, fun A2 c2 => by rw [HP.out]; exact ext_new HB.out.symm, by have := wt_new l n; unfold newV at this; omega⟩
    · go_wp2_with fail
      go_meet
      have hat := hhas.out (by first | trivial | rfl)
      obtain ⟨f, hf⟩ : ∃ f, l[p]? = some f := by
        unfold namesV at hat
        rw [List.getElem?_map] at hat
        cases hx : l[p]? with
        | none => rw [hx] at hat; cases hat
        | some f => exact ⟨f, rfl⟩
      have k2 := VisTo.refl H.out.1 HW.out.1
      obtain ⟨g, hg, _⟩ := vf_at H.out.1.vis.row hf
      subst hg
      have he := fun A2 c2 => ext_has (A2 := A2) (c2 := c2) (d := d) H.out.1.sorted HB.out.symm (by rw [← HP.out]; exact hf)
      exact ⟨rfl, g, c, l, f, k2, hf, (he none 0).1, fun A2 c2 => by rw [HP.out]; exact (he A2 c2).2, by omega⟩
  case rest =>
    obtain ⟨rfl, g, c1, l1, f, hmid⟩ := hcut
    have MID := Lib.hid hmid
    obtain ⟨k1, hf, hfn, _, hwt⟩ := hmid
    have HV := Lib.hid k1.at_
    obtain ⟨g', hg', x0, x1, hgl⟩ := vf_at k1.at_.vis.row hf
    obtain rfl : g = g' := by injection hg' with e; injection e
    have a0 : wc.cell? ⟨G, o, none⟩ = some (.slice (some ⟨g, 0, none⟩) l1.length c1) := by rw [k1.at_.own.at_]; exact k1.at_.c0
    have a1 : wc.cell? ⟨G, o + 1, none⟩ = some (.int .i64 (szF (flV l1) : Int)) := by rw [k1.at_.own.at_]; exact k1.at_.c1
    have hGl := k1.at_.inside
    have z0 : wc.frozen? ⟨G, o + 1, none⟩ = false := k1.at_.own.open_ (o + 1)
    obtain ⟨i0, hi, hz0, hz1, hz2⟩ := info_parts infoStr
    have hU := Tryz.underlying208
    have hpo := Lib.hid (k1.at_.vis.parts f (List.mem_of_getElem? hf))
    have hps : f.ps.length ≤ 1099511627776 := by have := parts_le_wt (List.mem_of_getElem? hf); have := k1.at_.wt; omega
    have hbl := k1.at_.le
    have bW : Below wc.heap.size wc (wc.alloc (.cells #[.string d] 9)).drew := Below.drew ((Below.refl _ _).alloc (Nat.le_refl _) _)
    have a0' : (wc.alloc (.cells #[.string d] 9)).cell? ⟨G, o, none⟩ = some (.slice (some ⟨g, 0, none⟩) l1.length c1) := (bW.cell (p := ⟨G, o, none⟩) hGl).trans a0
    have x1' : (wc.alloc (.cells #[.string d] 9)).cell? ⟨g, p * 2 + 1, none⟩ = some (.slice f.A f.ps.length f.c) := (bW.cell (p := ⟨g, p * 2 + 1, none⟩) hgl).trans x1
    have hlt := (List.getElem?_eq_some_iff.1 hf).1
    have HM := Lib.hid (fun w2 hg => more_mid k1.at_ hf bW (w2 := w2) hg)
    clear k1 hfn hwt hg' bW hf
    go_upto_region 3 with fail
    go_cut [6] (fun s6 wx => s6 = .int .i64 (p : Int) ∧ ∃ A2 c2, ExtMid2 base G o t cs g c1 l1 f p d wc wx A2 c2)
    case first =>
      go_region_law (refine step_append_lies (size := 1) (cells := fun s : ByteArray => [Value.string s]) (l := [d]) (B := wc.heap.size + 1) _ rfl (.tmp 32) (.tmp 34) 208 9 rfl i0 _ 16 hU hi hz0 hz1 hz2 rfl (by decide) (fun _ => rfl) (fun x u hu => by simp at hu; rw [hu]; rfl) base (.slice f.A f.ps.length f.c) f.ps.length _ rfl (hpo.out.alloc _).drew 1 wc.heap.size 0 (by simp [Act.eval, Act.put]) (partbox _ d) (by unfold maxLen; simp; omega) (by simp; omega) (by simp; omega) ?_; intro v2 w2 ho2 hb2 hv2 hg2; obtain ⟨A2, c2, rfl⟩ := row_slice ho2; obtain ⟨m1, m2, m3, m4, m5⟩ := HM.out w2 hg2)
      all_goals
        go_wp2_with fail
        go_meet
        exact ⟨rfl, A2, c2, ext_mid2 MID.out.1.at_ MID.out.2.1 m4 m5 ho2 hv2⟩
    case rest =>
      obtain ⟨rfl, A2, c2, v3, k3, p3, o3⟩ := hcut
      have e1 := (o3.at_ (o + 1)).trans MID.out.1.at_.c1
      have z1 := o3.open_ (o + 1)
      have hwt := more_wt (A2 := A2) (c2 := c2) (d := d) MID.out.2.1
      have hwl := MID.out.2.2.2.2
      have E5 := Lib.hid hwt.2
      have hle : szF (flV l1) + d.size ≤ 1099511627776 := by have := H.out.2; unfold wtV at hwt hwl this; omega
      have HL := Lib.hid (fun x hx => ext_last (x := x) MID.out.1 MID.out.2.1 (by have := H.out.2; omega) v3 k3 p3 o3 hx)
      generalize szF (flV l1) = S at *
      generalize hT : d.size = T at *
      have hw : IntKind.i64.wrap ((S : Int) + (T : Int)) = (S : Int) + (T : Int) := by rw [IntKind.wrap_i64]; omega
      have HE := Lib.hid (And.intro (MID.out.2.2.2.1 A2 c2) (by have := H.out.2; omega : wtV (l1.set p (moreV f A2 c2 d)) ≤ wtV l + 2 + T))
      clear v3 k3 p3 o3 a0 a1 a0' x0 x1 x1' z0 hwt hwl hle
      go_wp2_with fail
      refine bodyPost_end (results_none rfl _ _ _) rfl ⟨rfl, some ⟨g, 0, none⟩, c1, l1.set p (moreV f A2 c2 d), HL.out _ ?_, HE.out.1, by rw [hT]; exact HE.out.2⟩
      rw [E5.out]; omega
end Go.Proofs.YtllpfngmnccejaaGreat
namespace Go.Proofs.YtllpfngmnccejaaGreat
open Go Go.RowKit

theorem Parts.past_ {w w' : World} {base : Nat} {f : Vf} (h : Parts w base f) (hb : Below w.heap.size w w') : Parts w' base f := own_below h hb
theorem VisTo.step {w w1 w2 : World} {base G o : Nat} {t : TypeId} {cs : List Value} {F S : Nat → Prop} {A1 : Option Addr} {c1 : Nat} {l1 : List Vf} (h : VisTo w w1 base G o t cs F A1 c1 l1) (k : KeptK w1 w2 S) (h1 : ¬ S G) (h2 : ∀ k, Fp A1 l1 k → ¬ S k) (h3 : ∀ k, S k → w.heap.size ≤ k) : VisTo w w2 base G o t cs F A1 c1 l1 :=
  ⟨⟨k.own h.at_.own h1, h.at_.c0, h.at_.c1, h.at_.vis.kept k h2, h.at_.out, h.at_.sorted, h.at_.wt, Nat.le_trans h.at_.le k.size⟩, h.kept.trans k (fun b hb hs => by have := h3 b hs; omega), h.fp⟩
theorem takeV_fp {A : Option Addr} {l : List Vf} {n : ByteArray} {k : Nat} (h : Fp A (takeV l n) k) : Fp A l k := by
  unfold takeV at h
  split at h
  · exact cut_fp h
  · exact h
theorem takeV_has {l : List Vf} {n : ByteArray} (hs : SortedN (namesV l)) : hasN (namesV (takeV l n)) n = false := by
  rw [← has_fl, takeV_fl]
  exact has_take (sorted_fl.2 hs)
theorem takeV_wt_le (l : List Vf) (n : ByteArray) (hs : SortedN (namesV l)) : wtV (takeV l n) ≤ wtV l := by
  unfold takeV
  split
  · rename_i h
    have hat := posN_has hs h
    obtain ⟨f, hf⟩ : ∃ f, l[posN (namesV l) n]? = some f := by
      unfold namesV at hat ⊢
      rw [List.getElem?_map] at hat
      cases hx : l[posN (l.map Vf.n) n]? with
      | none => rw [hx] at hat; cases hat
      | some f => exact ⟨f, rfl⟩
    have := cutV_wt hf
    omega
  · omega
/-- what took says of the world alone -/
theorem took_to {w w' : World} {base G o : Nat} {t : TypeId} {cs : List Value} {A : Option Addr} {c : Nat} {l : List Vf} {n : ByteArray} {e : Ending} (h : Took w w' base G o t cs A c l n e) :
    VisTo w w' base G o t cs (Fp A l) A c (takeV l n) ∧ ∃ v, e = .returned (.tuple #[v, .bool (hasN (namesV l) n)]) := by
  unfold Took at h
  split at h
  · rename_i hh
    obtain ⟨f, hf, rfl, hv, _⟩ := h
    exact ⟨hv, f.val, by rw [hh]⟩
  · rename_i hh
    obtain ⟨rfl, hv⟩ := h
    exact ⟨hv, zeroVf, by simp [hh]⟩
theorem ren_fl {l : List Vf} {n t : ByteArray} {f : Vf} (hh : hasN (namesV l) n = true) (hf : l[posN (namesV l) n]? = some f) : flV (putV (takeV (takeV l n) t) ⟨t, f.A, f.c, f.ps⟩) = renF (flV l) n t := by
  rw [putV_fl, takeV_fl, takeV_fl]
  unfold renF
  rw [has_fl, if_pos hh]
  have hp : posF (flV l) n = posN (namesV l) n := by unfold posF; rw [names_fl]
  have ho : oldF (flV l) n = f.fl := by
    unfold oldF
    rw [hp]
    unfold flV
    rw [List.getElem?_map, hf]; rfl
  rw [ho]; rfl
theorem ren_mid {w w1 V w2 : World} {base G o : Nat} {t : TypeId} {cs : List Value} {A : Option Addr} {c : Nat} {l : List Vf} {n : ByteArray} {f : Vf} (h0 : VisAt w base G o t cs A c l) (hv : VisTo w V base G o t cs (Fp A l) A c (takeV l n)) (hs : V.heap.size = w1.heap.size + 1) (oV : Own V w1.heap.size 210 f.cells) (hp : Parts V base f)
    (hap : ∀ k, blk f.A = some k → ¬ Fp A (takeV l n) k ∧ k ≠ G ∧ k < w.heap.size) (hsz : w.heap.size ≤ w1.heap.size) (m : ByteArray) (k2 : VisTo V w2 base G o t (setV cs o A c (takeV l n)) (Fp A (takeV l n)) A c (takeV (takeV l n) m)) :
    VisTo w (w2.setCell ⟨w1.heap.size, 0, none⟩ (.string m)) base G o t cs (Fp A l) A c (takeV (takeV l n) m) ∧ Parts (w2.setCell ⟨w1.heap.size, 0, none⟩ (.string m)) base ⟨m, f.A, f.c, f.ps⟩ ∧
      (∀ k, blk (Vf.mk m f.A f.c f.ps).A = some k → ¬ Fp A (takeV (takeV l n) m) k ∧ k ≠ G) ∧ (Own w2 w1.heap.size 210 f.cells ∧ Own (w2.setCell ⟨w1.heap.size, 0, none⟩ (.string m)) w1.heap.size 210 (f.cells.set 0 (.string m))) := by
  have hG := h0.inside
  have hfl : ∀ k, Fp A l k → k < w.heap.size := fun k e => (h0.vis.lt k e).2
  have hb : ¬ (w1.heap.size = G ∨ Fp A (takeV l n) w1.heap.size) := fun e => by
    rcases e with e | e
    · omega
    · have := hfl _ (takeV_fp e); omega
  have oB := k2.kept.own oV hb
  have kB : KeptK w2 (w2.setCell ⟨w1.heap.size, 0, none⟩ (.string m)) (fun k => k = w1.heap.size) := (KeptK.refl w2 (fun k => k = w1.heap.size)).set_ (.inl rfl) _
  have hk := hv.trans k2 (fun k e => .inl (takeV_fp e))
  have p2 : Parts w2 base f := k2.kept.row hp (fun k e he => by
    rw [blk_own] at e
    rcases he with he | he
    · exact (hap k e).2.1 he
    · exact (hap k e).1 he)
  refine ⟨hk.step kB (by omega) (fun k e he => ?_) (fun k e => by omega), kB.row p2 (fun k e he => ?_), fun k e => ⟨fun hx => (hap k e).1 (takeV_fp hx), (hap k e).2.1⟩, oB, oB.set_ 0 _⟩
  · have := hfl _ (takeV_fp (takeV_fp e)); omega
  · rw [blk_own] at e
    have := (hap k e).2.2; omega
set_option maxRecDepth 100000 in
set_option maxHeartbeats 1600000 in
theorem rename_any (base G o : Nat) (t : TypeId) (cs : List Value) (A : Option Addr) (c : Nat) (l : List Vf) (n m : ByteArray) (w : World) (h : VisAt w base G o t cs A c l) :
    Calls Tryz.prog 173 #[.pointer (some ⟨G, o, none⟩), .string n, .string m] w fun e w' => e = .returned (.tuple #[]) ∧ ∃ A' c' l', VisTo w w' base G o t cs (Fp A l) A' c' l' ∧ flV l' = renF (flV l) n m ∧ wtV l' ≤ wtV l := by
  have y1 := Lib.hid (take_anyK base G o t cs A c l n w h)
  have H := Lib.hid h
  clear h
  go_enter Tryz.func173, Tryz.ntmps173
  go_wp2_with fail
  refine y1.out.mono ?_
  rintro e w1 hT
  cases hh : hasN (namesV l) n
  · unfold Took at hT
    rw [hh] at hT
    simp only [Bool.false_eq_true, if_false] at hT
    obtain ⟨rfl, hv⟩ := hT
    have ht : takeV l n = l := by unfold takeV; rw [hh]; rfl
    rw [ht] at hv
    have HX := Lib.hid (And.intro (hv.then_ ((Below.refl _ _).alloc (Nat.le_refl _) (.cells #[.string ⟨#[]⟩, .slice none 0 0] 210))) (by unfold renF; rw [has_fl, hh]; rfl : flV l = renF (flV l) n m))
    clear hv ht y1 hh
    unfold zeroVf
    go_wp2_with fail
    exact bodyPost_ret (results_none rfl _ _ _) rfl ⟨rfl, A, c, l, HX.out.1, HX.out.2, Nat.le_refl _⟩
  · unfold Took at hT
    rw [if_pos hh] at hT
    obtain ⟨f, hf, rfl, hv, hp, hap⟩ := hT
    obtain ⟨V, hV, hVb, hVs, oV⟩ := vfbox w1 f
    have hv2 := hv.then_ hVb
    have y2 := Lib.hid (take_anyK base G o t (setV cs o A c (takeV l n)) A c (takeV l n) m V hv2.at_)
    have HX := Lib.hid (And.intro hv2 (And.intro hVs (And.intro oV (And.intro (hp.past_ hVb) (And.intro hap (And.intro hh (And.intro hf hv.kept.size)))))))
    unfold Vf.val
    clear hv hp hap hVb hVs oV hv2 y1 hh hf
    go_upto_region 2 with fail
    rw [← hV]
    clear hV
    go_wp2_with fail
    refine y2.out.mono ?_
    rintro e w2 hT2
    obtain ⟨k2, v, rfl⟩ := took_to hT2
    obtain ⟨hw3, hp3, hap3, o3⟩ := ren_mid H.out HX.out.1 HX.out.2.1 HX.out.2.2.1 HX.out.2.2.2.1 HX.out.2.2.2.2.1 HX.out.2.2.2.2.2.2.2 m k2
    have x0 := o3.1.at_ 0
    have x1 := o3.1.at_ 1
    have z0 := o3.1.open_ 0
    have e0 := o3.2.at_ 0
    have e1 := o3.2.at_ 1
    simp only [Vf.cells, List.getElem?_cons_zero, List.getElem?_cons_succ, List.set_cons_zero] at x0 x1 e0 e1
    have hs1 := takeV_wt_le (takeV l n) m HX.out.1.at_.sorted
    have hwt := cutV_wt HX.out.2.2.2.2.2.2.1
    have hcut : takeV l n = cutV l (posN (namesV l) n) := by unfold takeV; rw [if_pos HX.out.2.2.2.2.2.1]
    have hpw : wtV (putV (takeV (takeV l n) m) ⟨m, f.A, f.c, f.ps⟩) ≤ wtV l := by
      rw [putV_wt]
      rw [hcut] at hs1 ⊢
      dsimp only
      omega
    have y3 := Lib.hid (put_any base G o t (setV cs o A c (takeV (takeV l n) m)) A c (takeV (takeV l n) m) ⟨m, f.A, f.c, f.ps⟩ _ hw3.at_ hp3 hap3 (takeV_has HX.out.1.at_.sorted) (by have := H.out.wt; omega))
    have HR := Lib.hid (And.intro hw3 (And.intro (ren_fl (t := m) HX.out.2.2.2.2.2.1 HX.out.2.2.2.2.2.2.1) hpw))
    unfold Vf.val at y3
    clear hT2 k2 hw3 hp3 hap3 o3 hs1 hwt hcut hpw y2
    go_wp2_with fail
    refine y3.out.mono ?_
    rintro _ w4 ⟨rfl, A', c', k4⟩
    have k5 := HR.out.1.trans k4 (fun k e => by
      rcases e with e | e
      · exact .inl (takeV_fp (takeV_fp e))
      · exact .inl (.inr ⟨f, List.mem_of_getElem? HX.out.2.2.2.2.2.2.1, e⟩))
    have HK := Lib.hid k5
    clear k4 k5
    go_wp2_with fail
    exact bodyPost_end (results_none rfl _ _ _) rfl ⟨rfl, A', c', _, HK.out, HR.out.2.1, HR.out.2.2⟩
end Go.Proofs.YtllpfngmnccejaaGreat
