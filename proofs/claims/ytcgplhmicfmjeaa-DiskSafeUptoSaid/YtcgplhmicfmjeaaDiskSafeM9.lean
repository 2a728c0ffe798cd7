/- Facts and contracts on which DiskSafe rests besides. -/
import Derived.Test.YtcgplhmicfmjeaaDiskTogetherM5
namespace Go.Proofs.Ytcgplhmicfmjeaa
open Go Go.RowKit

structure FInv (k : Dk) (sz : Nat) : Prop where
  good : goodD k = true
  up : k.down = false
  fuse : k.fuse = -1
  room : k.room = (sz : Int)
  fit : szF (seen k) ≤ sz
theorem full_zero (sz : Nat) : FInv ⟨[], [], (sz : Int), false, -1⟩ sz := by
  refine ⟨?_, rfl, rfl, rfl, ?_⟩
  · rw [good_iff]
    refine ⟨by dsimp only; omega, ⟨by simp, fun f hf => by simp at hf, by unfold SortedF namesF SortedN; simp⟩, by simp, rfl⟩
  · have : seen ⟨[], [], (sz : Int), false, -1⟩ = [] := rfl
    rw [this]; show 0 ≤ _; omega
theorem full_step {k k' : Dk} {n : Int} {r : Wr} {sz : Nat} (h : FInv k sz) (hd : doD k [r] = (k', n)) : FInv k' sz ∧ (n ≠ 0 → k' = k) := by
  obtain ⟨g1, g2⟩ := write_good (w := r) h.good rfl
  have key : ((writeD k (seen k) r).1 = k ∧ (writeD k (seen k) r).2.2 ≠ 0) ∨ ((writeD k (seen k) r).2.2 = 0 ∧ (writeD k (seen k) r).1 = ⟨k.files, k.waits ++ [r], k.room, k.down, lessN k.fuse⟩ ∧ (writeD k (seen k) r).2.1 = appF (seen k) r ∧ ¬ (k.room < (szF (appF (seen k) r) : Int))) := by
    unfold writeD
    rw [if_neg (by rw [h.up]; decide)]
    split
    · exact .inl ⟨rfl, by simp⟩
    split
    · exact .inl ⟨rfl, by simp⟩
    split
    · exact .inl ⟨rfl, by simp⟩
    rename_i q
    rw [if_neg (by rw [h.fuse]; decide)]
    exact .inr ⟨rfl, rfl, rfl, fun e => q (.inr (.inr e))⟩
  have hk : k' = (writeD k (seen k) r).1 ∧ n = (writeD k (seen k) r).2.2 := by
    unfold doD at hd
    rw [if_pos h.good] at hd
    simp only [doS] at hd
    split at hd
    · rename_i hz
      injection hd with e1 e2
      exact ⟨e1.symm, by rw [hz]; exact e2.symm⟩
    · injection hd with e1 e2
      exact ⟨e1.symm, e2.symm⟩
  obtain ⟨rfl, rfl⟩ := hk
  rcases key with ⟨e, hne⟩ | ⟨hz, e, es, hr⟩
  · rw [e]; exact ⟨h, fun _ => rfl⟩
  · refine ⟨⟨g1, ?_, ?_, ?_, ?_⟩, fun hne => absurd hz hne⟩
    · rw [e]; exact h.up
    · rw [e]; show lessN k.fuse = -1; rw [h.fuse]; decide
    · rw [e]; exact h.room
    · rw [← (g2 hz).1, es]
      have := h.room
      omega
theorem seen_len {k : Dk} (h : goodD k = true) : (seen k).length ≤ 256 := by
  rw [seen_good h]
  exact okW_len _ (good_iff.1 h).2.1.1 (good_iff.1 h).2.2.2
theorem szF_more {l : List Fl} {m : Nat} {f : Fl} (h : l[m]? = some f) : szF (l.take (m + 1)) = szF (l.take m) + f.d.size := by
  rw [List.take_add_one, h, Option.toList_some, szF_app, szF_cons]; rfl
theorem szF_part (l : List Fl) (m : Nat) : szF (l.take m) ≤ szF l := by
  have := szF_app (l.take m) (l.drop m)
  rw [List.take_append_drop] at this
  omega
theorem wtW_more {l : List Wr} {m : Nat} {f : Wr} (h : l[m]? = some f) : wtW (l.take (m + 1)) = wtW (l.take m) + wtW [f] := by
  rw [List.take_add_one, h, Option.toList_some, wtW_append]
theorem wtW_part (l : List Wr) (m : Nat) : wtW (l.take m) ≤ wtW l := by
  have := wtW_append (l.take m) (l.drop m)
  rw [List.take_append_drop] at this
  omega
theorem doD_wt {k k' : Dk} {n : Int} {a : List Wr} (hd : doD k a = (k', n)) : wtD k' ≤ wtD k + wtW a := by
  have e : k' = (doD k a).1 := by rw [hd]
  subst e
  unfold doD
  split
  · exact doS_wt a k (seen k)
  · show 0 ≤ _; omega
theorem see_at {W : World} {y : Dl} {k : Dk} {l : List Fl} (hd : DIn W W.heap.size y) (hk : y.d = k) (hs : seeD k = (l, 0)) (ht : DTold k 0) :
    RowKit.Hid (Calls Try.prog 15 #[.agg #[.slice y.fA y.files.length y.fc, .slice y.wA y.waits.length y.wc, .int .i64 y.room, .bool y.down, .int .i64 y.fuse]] W fun e w' => Below W.heap.size W w' ∧ ∃ A c, e = .returned (.tuple #[.slice A l.length c, .int .i64 0]) ∧ Lies 2 Fl.cells w' w'.heap.size A l) := by
  subst hk
  have h := dsee_any y W hd (ht.ok rfl)
  rw [hs] at h
  exact Lib.hid h
theorem check_at {W : World} {y : Dl} {k : Dk} (hd : DIn W W.heap.size y) (hk : y.d = k) (hs : goodD k = true) (ht : DTold k 0) :
    RowKit.Hid (Calls Try.prog 16 #[.agg #[.slice y.fA y.files.length y.fc, .slice y.wA y.waits.length y.wc, .int .i64 y.room, .bool y.down, .int .i64 y.fuse]] W fun e w' => e = .returned (.int .i64 0) ∧ Below W.heap.size W w') := by
  subst hk
  have h := dcheck_any y W hd (ht.ok rfl)
  unfold chkD at h
  rw [if_pos hs] at h
  exact Lib.hid h
end Go.Proofs.Ytcgplhmicfmjeaa
namespace Go.Proofs.Ytcgplhmicfmjeaa
open Go Go.RowKit

def off (n : ByteArray) (w : Wr) : Prop := w.n ≠ n ∧ w.t ≠ n
theorem get_off {l : List Fl} {w : Wr} {n : ByteArray} (hs : SortedF l) (h : off n w) : getF (appF l w) n = getF l n := by
  unfold appF
  split
  · rw [get_ext hs, if_neg (fun e => h.1 e.symm)]
  split
  · cases hh : hasF l w.n
    · unfold renF; rw [hh]; rfl
    · rw [get_ren hs hh, if_neg (fun e => h.2 e.symm), if_neg (fun e => h.1 e.symm)]
  split
  · rw [get_take hs, if_neg (fun e => h.1 e.symm)]
  · rfl
theorem get_look {n : ByteArray} : ∀ (ws : List Wr) {l : List Fl}, SortedF l → (∀ w ∈ ws, off n w) → getF (ws.foldl appF l) n = getF l n
  | [], _, _, _ => rfl
  | w :: ws, l, hs, h => by
    rw [List.foldl_cons, get_look ws (sorted_app hs) (fun x hx => h x (List.mem_cons_of_mem _ hx)), get_off hs (h w (List.mem_cons_self))]
theorem ext_len (l : List Fl) (n d d' : ByteArray) : (extF l n d).length = (extF l n d').length := by
  unfold extF
  split
  · simp
  · unfold putF; simp
/-- between a sync and a crash -/
structure Safe (k : Dk) (F : List Fl) (n : ByteArray) : Prop where
  good : goodD k = true
  files : k.files = F
  offs : ∀ w ∈ k.waits, off n w
theorem write_safe {k : Dk} {F : List Fl} {n : ByteArray} {r : Wr} (h : Safe k F n) (hr : off n r) : Safe (writeD k (seen k) r).1 F n := by
  obtain ⟨g1, _⟩ := write_good (w := r) h.good rfl
  refine ⟨g1, ?_, ?_⟩
  · unfold writeD
    repeat' split
    all_goals exact h.files
  · have hm : ∀ w ∈ k.waits ++ [r], off n w := fun w hw => by
      rcases List.mem_append.1 hw with hw | hw
      · exact h.offs w hw
      · obtain rfl : w = r := by simpa using hw
        exact hr
    unfold writeD
    repeat' split
    all_goals first
      | exact h.offs
      | exact hm
theorem do_safe {k k' : Dk} {F : List Fl} {n : ByteArray} {r : Wr} {e : Int} (h : Safe k F n) (hr : off n r) (hd : doD k [r] = (k', e)) : Safe k' F n := by
  have hk : k' = (writeD k (seen k) r).1 := by
    unfold doD at hd
    rw [if_pos h.good] at hd
    simp only [doS] at hd
    split at hd
    · injection hd with e1 e2; exact e1.symm
    · injection hd with e1 e2; exact e1.symm
  rw [hk]; exact write_safe h hr
theorem sync_safe {d k : Dk} (h : syncD d = (k, 0)) : k = ⟨seen d, [], d.room, d.down, lessN d.fuse⟩ ∧ d.down = false ∧ (∀ n, Safe k (seen d) n) ∧ k.down = false := by
  unfold syncD at h
  split at h
  · rename_i hg
    split at h
    · injection h with h1 h2; cases h2
    · rename_i hdn
      split at h
      · injection h with h1 h2; cases h2
      · injection h with h1 h2
        subst h1
        have hdn' : d.down = false := by simpa using hdn
        have g := good_iff.1 hg
        refine ⟨rfl, hdn', fun n => ⟨?_, rfl, fun w hw => by simp at hw⟩, hdn'⟩
        rw [good_iff]
        refine ⟨g.1, ⟨seen_len hg, ?_, seen_sorted hg⟩, by simp, rfl⟩
        show Named (seen d)
        rw [seen_good hg]
        exact named_look _ g.2.1.2.1 g.2.2.2
  · injection h with h1 h2; cases h2
theorem look_read {k : Dk} {n : ByteArray} (hg : goodD k = true) (hd : k.down = false) (hw : k.waits = []) : readD k n = readF k.files n := by
  unfold readD
  rw [if_pos hg, hd, seen_good hg, hw]; rfl
/-- the crashed disk -/
theorem crash_safe {k : Dk} {F : List Fl} {n : ByteArray} {keep tear : Int} (h : Safe k F n) :
    ∃ k', crashD k keep tear = (k', 0) ∧ k'.down = false ∧ k'.fuse = -1 ∧ k'.waits = [] ∧ goodD k' = true ∧ getF k'.files n = getF F n := by
  have g := good_iff.1 h.good
  have hs := g.2.1.2.2
  unfold crashD
  rw [if_pos h.good]
  refine ⟨_, rfl, rfl, rfl, rfl, ?_⟩
  dsimp only
  have hl : ∀ ws, lookF k.files ws = ws.foldl appF k.files := fun ws => by unfold lookF; rw [base_sorted hs]
  have hq : ∀ q, okW k.files (k.waits.take q) = true := fun q => by
    have h2 := okW_app (l := k.files) (a := k.waits.take q) (b := k.waits.drop q)
    rw [List.take_append_drop, g.2.2.2] at h2
    have h3 := h2.symm
    rw [Bool.and_eq_true] at h3
    exact h3.1
  have key : SortedF (leftD k keep tear) ∧ Named (leftD k keep tear) ∧ (leftD k keep tear).length ≤ 256 ∧ getF (leftD k keep tear) n = getF F n := by
    unfold leftD
    generalize keepN keep k.waits.length = q
    rw [hl]
    have s1 := sorted_look (k.waits.take q) hs
    have n1 := named_look (k.waits.take q) g.2.1.2.1 (hq q)
    have l1 := okW_len (k.waits.take q) g.2.1.1 (hq q)
    have g1 : getF ((k.waits.take q).foldl appF k.files) n = getF F n := by
      rw [get_look _ hs (fun w hw => h.offs w (List.mem_of_mem_take hw)), h.files]
    cases hw : k.waits[q]? with
    | none => exact ⟨s1, n1, l1, g1⟩
    | some w =>
      have hoff := h.offs w (List.mem_of_getElem? hw)
      have hok := hq (q + 1)
      rw [List.take_add_one, hw, Option.toList_some, okW_app, Bool.and_eq_true] at hok
      obtain ⟨hrw, hlen, _⟩ := okW_cons hok.2
      unfold tornF
      dsimp only
      split
      · rename_i hc
        refine ⟨sorted_ext s1, named_ext (by unfold rightW at hrw; rw [Bool.and_eq_true] at hrw; exact hrw.1) n1, ?_, ?_⟩
        · have : appF ((k.waits.take q).foldl appF k.files) w = extF ((k.waits.take q).foldl appF k.files) w.n w.d := by unfold appF; rw [if_pos hc.1]
          rw [this] at hlen
          rw [ext_len _ _ _ w.d]; exact hlen
        · rw [get_ext s1, if_neg (fun e => hoff.1 e.symm)]; exact g1
      · exact ⟨s1, n1, l1, g1⟩
  refine ⟨?_, key.2.2.2⟩
  rw [good_iff]
  exact ⟨g.1, ⟨key.2.2.1, key.2.1, key.1⟩, by simp, rfl⟩
theorem read_same {l m : List Fl} {n : ByteArray} (h : getF l n = getF m n) : readF l n = readF m n := by unfold readF; rw [h]
end Go.Proofs.Ytcgplhmicfmjeaa
namespace Go.Proofs.Ytcgplhmicfmjeaa
open Go Go.RowKit

theorem wtF_eq : ∀ l : List Fl, wtF l = 2 * l.length + szF l
  | [] => rfl
  | f :: l => by
    have h1 : wtF (f :: l) = 2 + f.d.size + wtF l := by unfold wtF; simp
    rw [h1, wtF_eq l, szF_cons, List.length_cons]; omega
theorem len_putF (l : List Fl) (f : Fl) : (putF l f).length = l.length + 1 := by
  have := posF_le l f.n
  unfold putF
  rw [List.length_append, List.length_cons, List.length_take, List.length_drop]; omega
theorem len_take_le (l : List Fl) (n : ByteArray) : (takeF l n).length ≤ l.length := by
  unfold takeF
  split
  · rw [List.length_append, List.length_take, List.length_drop]; omega
  · exact Nat.le_refl _
theorem len_takeF {l : List Fl} {n : ByteArray} (hs : SortedF l) (h : hasF l n = true) : (takeF l n).length + 1 = l.length := by
  obtain ⟨d, hd⟩ := hasF_at hs h
  have := (List.getElem?_eq_some_iff.1 hd).1
  unfold takeF
  rw [if_pos h, List.length_append, List.length_take, List.length_drop]; omega
theorem len_ext (l : List Fl) (n d : ByteArray) : (extF l n d).length ≤ l.length + 1 := by
  unfold extF
  split
  · simp
  · rw [len_putF]; omega
theorem szF_take_le {l : List Fl} {n : ByteArray} (hs : SortedF l) : szF (takeF l n) ≤ szF l := by
  cases h : hasF l n
  · unfold takeF; rw [h]; exact Nat.le_refl _
  · have := szF_take hs h; omega
theorem wtF_app {l : List Fl} {w : Wr} (hs : SortedF l) : wtF (appF l w) ≤ wtF l + (2 + w.d.size) := by
  rw [wtF_eq, wtF_eq]
  unfold appF
  split
  · have h1 := szF_ext (n := w.n) (d := w.d) hs
    have h2 := len_ext l w.n w.d
    omega
  split
  · cases h : hasF l w.n
    · unfold renF; rw [h]; simp only [Bool.false_eq_true, if_false]; omega
    · have e : renF l w.n w.t = putF (takeF (takeF l w.n) w.t) ⟨w.t, (oldF l w.n).d⟩ := by unfold renF; rw [if_pos h]
      have h1 := szF_take hs h
      have h2 := len_takeF hs h
      have h3 := szF_take_le (n := w.t) (sorted_take (n := w.n) hs)
      have h4 := len_take_le (takeF l w.n) w.t
      rw [e, len_putF, szF_put]
      dsimp only
      omega
  split
  · have h1 := szF_take_le (n := w.n) hs
    have h2 := len_take_le l w.n
    omega
  · omega
theorem wtF_look : ∀ (ws : List Wr) {l : List Fl}, SortedF l → wtF (ws.foldl appF l) ≤ wtF l + wtW ws
  | [], _, _ => by simp
  | w :: ws, l, hs => by
    have h1 := wtF_look ws (sorted_app (w := w) hs)
    have h2 := wtF_app (w := w) hs
    rw [List.foldl_cons, wtW_cons]; omega
theorem wtF_seen {k : Dk} (h : goodD k = true) : wtF (seen k) ≤ wtD k := by
  rw [seen_good h]; exact wtF_look k.waits (good_iff.1 h).2.1.2.2
theorem sync_wt {d k : Dk} (h : syncD d = (k, 0)) : wtD k ≤ wtD d := by
  have hg : goodD d = true := by
    cases hg : goodD d
    · unfold syncD at h; rw [hg] at h; simp at h
    · rfl
  rw [(sync_safe h).1]
  have := wtF_seen hg
  have h0 : wtD ⟨seen d, [], d.room, d.down, lessN d.fuse⟩ = wtF (seen d) + 0 := rfl
  omega
theorem crash_wt {k k' : Dk} {a b : Int} (h : crashD k a b = (k', 0)) (hg : goodD k = true) : wtD k' ≤ wtD k + wtD k := by
  unfold crashD at h
  rw [if_pos hg] at h
  injection h with h1 _
  subst h1
  have hs := (good_iff.1 hg).2.1.2.2
  have h0 : ∀ l r d f, wtD ⟨l, [], r, d, f⟩ = wtF l + 0 := fun _ _ _ _ => rfl
  rw [h0]
  unfold leftD
  generalize keepN a k.waits.length = q
  have hl : lookF k.files (k.waits.take q) = (k.waits.take q).foldl appF k.files := by unfold lookF; rw [base_sorted hs]
  rw [hl]
  have h2 := wtF_look (k.waits.take q) hs
  have h3 := wtW_part k.waits q
  have hd : wtD k = wtF k.files + wtW k.waits := rfl
  unfold tornF
  cases hw : k.waits[q]? with
  | none => dsimp only; omega
  | some w =>
    dsimp only
    have h4 := wtW_more hw
    have h5 := wtW_part k.waits (q + 1)
    have h6 : wtW [w] = 2 + w.d.size := rfl
    split
    · have s1 := sorted_look (k.waits.take q) hs
      have e1 := szF_ext (n := w.n) (d := w.d.extract 0 (min b.toNat w.d.size)) s1
      have e2 := len_ext ((k.waits.take q).foldl appF k.files) w.n (w.d.extract 0 (min b.toNat w.d.size))
      have e3 : (w.d.extract 0 (min b.toNat w.d.size)).size ≤ w.d.size := by rw [ByteArray.size_extract]; omega
      have e4 := wtF_eq ((k.waits.take q).foldl appF k.files)
      rw [wtF_eq]
      omega
    · omega
end Go.Proofs.Ytcgplhmicfmjeaa
namespace Go.Proofs.Ytcgplhmicfmjeaa
open Go Go.RowKit

theorem str_ne {a b : ByteArray} (h : a ≠ b) : (a.toList == b.toList) = false := beq_eq_false_iff_ne.2 (fun e => h (by rw [ByteArray.toList_eq, ByteArray.toList_eq] at e; exact bytes_eq.1 e))
def SafeAt (w wr : World) (G : Nat) (n : ByteArray) (F : List Fl) (b : Nat) (ws : List Wr) (j : Nat) : Prop := ∃ y : Dl, Safe y.d F n ∧ FOk y.d ∧ wtD y.d ≤ b + wtW (ws.take j) ∧ Own wr G 25 y.cells ∧ DIn wr wr.heap.size y ∧ Below w.heap.size w wr
set_option maxRecDepth 100000 in
set_option maxHeartbeats 6400000 in
theorem safe_true (x : Dl) (n : ByteArray) (A : Option Addr) (c : Nat) (ws : List Wr) (keep tear : Int) (w : World) (h : DIn w w.heap.size x) (hf : FOk x.d) (hws : Lies 4 Wr.cells w w.heap.size A ws) (hn : wtD x.d + wtW ws ≤ 1048576) :
    Calls Try.prog 9 #[x.val, .string n, .slice A ws.length c, .int .i64 keep, .int .i64 tear] w fun e w' => e = .returned (.bool true) ∧ Below w.heap.size w w' := by
  obtain ⟨V, hV, hVb, hVs, oD⟩ := dbox w x
  have iV := h.keep hVb
  obtain ⟨k0, e0, hsy⟩ : ∃ k e, syncD x.d = (k, e) := ⟨_, _, rfl⟩
  have HV := Lib.hid (And.intro hVb (And.intro oD (And.intro iV (And.intro hws (And.intro hf (And.intro hn hsy))))))
  have y0 := Lib.hid (lives_true V)
  have hwl : ws.length ≤ 1048576 := by have := len_le_wtW ws; omega
  unfold Dl.val
  clear h hf hws hVb hVs oD iV hn
  go_enter Try.func9, Try.ntmps9
  go_upto_region 1 with fail
  rw [← hV]
  clear hV hsy
  go_wp2_with fail
  refine y0.out.mono ?_
  rintro _ w1 ⟨rfl, b1⟩
  have o1 := HV.out.2.1.past b1 HV.out.2.1.inside
  have i1 := HV.out.2.2.1.keep b1
  obtain ⟨d0, d1, d2, d3, d4⟩ := own5 o1
  have hc1 := sync_at i1 rfl HV.out.2.2.2.2.2.2 ⟨by have := HV.out.2.2.2.2.2.1; omega, HV.out.2.2.2.2.1⟩
  have H1 := Lib.hid (And.intro (HV.out.1.trans (b1.mono HV.out.1.size)) (And.intro o1 i1))
  clear o1 i1 b1 y0
  go_wp2_with fail
  refine hc1.out.mono ?_
  rintro _ w2 ⟨b2, z, rfl, hz, iz⟩
  have o2 := H1.out.2.1.past b2 H1.out.2.1.inside
  obtain ⟨f0, f1, f2, f3, f4⟩ := open5 o2
  clear d0 d1 d2 d3 d4
  obtain ⟨d0, d1, d2, d3, d4⟩ := own5 o2
  obtain ⟨W2, hW2, oW2, iW2, bW2⟩ := var_set o2 iz
  have H2 := Lib.hid (And.intro (H1.out.1.trans ((b2.mono H1.out.1.size).trans (bW2 _ (Nat.le_refl _)))) (And.intro oW2 (And.intro iW2 hz)))
  go_upto_region 4 with fail
  rw [← hW2]
  clear hW2 d0 d1 d2 d3 d4 f0 f1 f2 f3 f4 hc1
  obtain ⟨d0, d1, d2, d3, d4⟩ := own5 oW2
  clear o2 oW2 iW2 bW2 b2 iz hz
  by_cases he : e0 = 0
  case neg =>
    have t1 : (e0 != 0) = true := bne_iff_ne.2 he
    clear he
    go_wp2_with fail
    go_ret
    exact ⟨rfl, H2.out.1⟩
  subst he
  obtain ⟨hk0, hdn, hsf, hkd⟩ := sync_safe HV.out.2.2.2.2.2.2
  have hkw := sync_wt HV.out.2.2.2.2.2.2
  have hfo : FOk k0 := by rw [hk0]; exact lessN_fit HV.out.2.2.2.2.1
  have hrd : readD k0 n = readF (seen x.d) n := by
    rw [look_read (hsf n).good hkd (by rw [hk0]), (hsf n).files]
  obtain ⟨s, m, hsm⟩ : ∃ s m, readF (seen x.d) n = (s, m) := ⟨_, _, rfl⟩
  rw [hsm] at hrd
  have hc2 := read_at n H2.out.2.2.1 H2.out.2.2.2 hrd ⟨by have := HV.out.2.2.2.2.2.1; omega, hfo⟩
  have HS := Lib.hid (And.intro (hsf n) (And.intro hfo (And.intro hsm hkw)))
  clear hk0 hdn hsf hkd hkw hfo hrd hsm
  go_wp2_with fail
  refine hc2.out.mono ?_
  rintro _ w3 ⟨rfl, b3⟩
  have HI : SafeAt w w3 w.heap.size n (seen x.d) (wtD x.d) ws 0 := ⟨z, by rw [H2.out.2.2.2]; exact HS.out.1, by rw [H2.out.2.2.2]; exact HS.out.2.1, by rw [H2.out.2.2.2]; have := HS.out.2.2.2; omega, H2.out.2.1.past b3 H2.out.2.1.inside, H2.out.2.2.1.keep b3, H2.out.1.trans (b3.mono H2.out.1.size)⟩
  have HII := Lib.hid HI
  clear HI b3 hc2 d0 d1 d2 d3 d4
  go_wp2_with fail
  go_loopw [37] (fun i wr => ∃ j : Nat, i = .int .i64 (j : Int) ∧ j ≤ ws.length ∧ SafeAt w wr w.heap.size n (seen x.d) (wtD x.d) ws j) (fun i _ => ws.length - (intOf i).toNat)
  case atStart => exact ⟨0, rfl, by omega, HII.out⟩
  case round =>
    obtain ⟨j, rfl, hj, y, hsy, hfy, hwt, oy, iy, hb⟩ := hrel
    by_cases hlt : j < ws.length
    · have hx : ws[j]? = some ws[j] := List.getElem?_eq_getElem hlt
      obtain ⟨b, o, rfl, hB, hxs⟩ := HV.out.2.2.2.1 (by omega)
      have x0 := (hb.cell (p := ⟨b, o + j * 4 + 0, none⟩) hB).trans (hxs j _ hx 0 _ rfl)
      have x1 := (hb.cell (p := ⟨b, o + j * 4 + 1, none⟩) hB).trans (hxs j _ hx 1 _ rfl)
      have x2 := (hb.cell (p := ⟨b, o + j * 4 + 2, none⟩) hB).trans (hxs j _ hx 2 _ rfl)
      have x3 := (hb.cell (p := ⟨b, o + j * 4 + 3, none⟩) hB).trans (hxs j _ hx 3 _ rfl)
      have hwm := wtW_more hx
      have hwp := wtW_part ws (j + 1)
      generalize ws[j] = f at *
      simp only [Nat.add_zero] at x0
      obtain ⟨W4, hW4, bW4, sW4, oW4⟩ := wrbox wr f
      obtain ⟨W5, hW5, bW5, sW5, oW5⟩ := wrbox W4 f
      have oy4 := oy.past bW4 oy.inside
      obtain ⟨d0, d1, d2, d3, d4⟩ := own5 oy4
      have f0 := oW4.at_ 0
      have f1 := oW4.at_ 1
      have f2 := oW4.at_ 2
      have f3 := oW4.at_ 3
      simp only [Wr.cells, List.getElem?_cons_zero, List.getElem?_cons_succ] at f0 f1 f2 f3
      have q0 : (0 : Int) ≤ (j : Int) := by omega
      have q1 : (j : Int) < (ws.length : Int) := by omega
      have hb4 : Below w.heap.size w W4 := hb.trans (bW4.mono hb.size)
      have hskip := Lib.hid (show SafeAt w W4 w.heap.size n (seen x.d) (wtD x.d) ws (j + 1) from ⟨y, hsy, hfy, by omega, oy4, iy.keep bW4, hb4⟩)
      by_cases hoff : off n f
      · have t1 : (f.n.toList == n.toList) = false := str_ne hoff.1
        have t2 : (f.t.toList == n.toList) = false := str_ne hoff.2
        obtain ⟨k', e, hdo⟩ : ∃ k e, doD y.d [f] = (k, e) := ⟨_, _, rfl⟩
        have hs' := do_safe hsy hoff hdo
        have hk'w := doD_wt hdo
        have hfo' : FOk k' := (doD_told (m := 0) hdo hfy (by have := HV.out.2.2.2.2.2.1; omega)).fuse
        have hc4 := do_at (W := W5) (B := some ⟨W4.heap.size, 0, none⟩) 1 ((iy.keep bW4).keep bW5) rfl hdo (lies4_own (t := 36) (l := [f]) oW5) ⟨by have := HV.out.2.2.2.2.2.1; omega, hfy⟩
        have HJ := Lib.hid (And.intro hs' (And.intro hfo' (And.intro (show wtD k' ≤ wtD x.d + wtW (ws.take (j + 1)) by omega) (And.intro (oy4.past bW5 oy4.inside) (hb4.trans (bW5.mono hb4.size))))))
        clear hsy hfy hwt oy iy hb hx hxs hwm hwp hoff hs' hk'w hfo' hdo oy4 bW4 sW4 oW4 bW5 sW5 oW5 hskip hb4 HII
        go_upto_region 10 with fail
        rw [← hW4]
        clear hW4
        go_wp2_with fail
        rw [← hW5]
        clear hW5
        refine hc4.out.mono ?_
        rintro _ w6 ⟨b6, z6, rfl, hz6, iz6⟩
        have o6 := HJ.out.2.2.2.1.past b6 HJ.out.2.2.2.1.inside
        obtain ⟨g0, g1, g2, g3, g4⟩ := open5 o6
        clear d0 d1 d2 d3 d4
        obtain ⟨d0, d1, d2, d3, d4⟩ := own5 o6
        obtain ⟨W6, hW6, oW6, iW6, bW6⟩ := var_set o6 iz6
        have HK := Lib.hid (show SafeAt w W6 w.heap.size n (seen x.d) (wtD x.d) ws (j + 1) from ⟨z6, by rw [hz6]; exact HJ.out.1, by rw [hz6]; exact HJ.out.2.1, by rw [hz6]; exact HJ.out.2.2.1, oW6, iW6, HJ.out.2.2.2.2.trans ((b6.mono HJ.out.2.2.2.2.size).trans (bW6 _ (Nat.le_refl _)))⟩)
        clear oW6 iW6 bW6 b6 o6 iz6 hz6 hc4
        go_upto_region 12 with fail
        rw [← hW6]
        clear hW6 d0 d1 d2 d3 d4 g0 g1 g2 g3 g4
        go_wp2_with fail
        go_roundw
        case rel => exact ⟨j + 1, by go_num, by omega, HK.out⟩
        case measure => simp [intOf]; omega
      · clear hsy hfy hwt oy iy hb hx hxs hwm hwp oy4 bW4 sW4 oW4 bW5 sW5 oW5 hb4 HII hW5
        by_cases h1 : f.n = n
        · have t1 : (f.n.toList == n.toList) = true := by rw [h1]; exact beq_self_eq_true _
          clear hoff h1
          go_upto_region 10 with fail
          rw [← hW4]
          clear hW4
          go_wp2_with fail
          go_roundw
          case rel => exact ⟨j + 1, by go_num, by omega, hskip.out⟩
          case measure => simp [intOf]; omega
        · have t1 : (f.n.toList == n.toList) = false := str_ne h1
          have h2 : f.t = n := Classical.byContradiction fun e => hoff ⟨h1, e⟩
          have t2 : (f.t.toList == n.toList) = true := by rw [h2]; exact beq_self_eq_true _
          clear hoff h1 h2
          go_upto_region 10 with fail
          rw [← hW4]
          clear hW4
          go_wp2_with fail
          go_roundw
          case rel => exact ⟨j + 1, by go_num, by omega, hskip.out⟩
          case measure => simp [intOf]; omega
    · obtain rfl : j = ws.length := by omega
      obtain ⟨k9, hcr, hd9, hf9, hw9, hg9, hget⟩ := crash_safe (keep := keep) (tear := tear) hsy
      have hcw := crash_wt hcr hsy.good
      rw [List.take_length] at hwt
      have hbig : wtD y.d ≤ 1048576 := by have := HV.out.2.2.2.2.2.1; omega
      have hrd : readD k9 n = (s, m) := by rw [look_read hg9 hd9 hw9, read_same hget]; exact HS.out.2.2.1
      have hc9 := crash_at keep tear iy rfl hcr ⟨by omega, hfy⟩
      have tk9 : DTold k9 0 := ⟨by omega, by rw [hf9]; decide⟩
      obtain ⟨d0, d1, d2, d3, d4⟩ := own5 oy
      have HR := Lib.hid (And.intro hb (And.intro hrd (And.intro tk9 (And.intro hd9 (And.intro hf9 hw9)))))
      clear hsy hfy hwt oy iy hb hcr hd9 hf9 hw9 hg9 hget hcw hbig hrd tk9 HII
      go_wp2_with fail
      refine hc9.out.mono ?_
      rintro _ w7 ⟨b7, z7, rfl, hz7, iz7⟩
      obtain ⟨W7, hW7, oW7, iW7, bW7⟩ := var_new iz7
      have hc10 := read_at n iW7 hz7 HR.out.2.1 HR.out.2.2.1
      have z7d := Lib.hid (show z7.down = false by have := congrArg Dk.down hz7; exact this.trans HR.out.2.2.2.1)
      have z7f := Lib.hid (show z7.fuse = -1 by have := congrArg Dk.fuse hz7; exact this.trans HR.out.2.2.2.2.1)
      have z7w := Lib.hid (show z7.waits = [] by have := congrArg Dk.waits hz7; exact this.trans HR.out.2.2.2.2.2)
      clear d0 d1 d2 d3 d4
      obtain ⟨d0, d1, d2, d3, d4⟩ := own5 oW7
      have H7 := Lib.hid (And.intro (HR.out.1.trans ((b7.trans (bW7.mono b7.size)).mono HR.out.1.size)) oW7)
      clear iW7 oW7 bW7 b7 iz7 hz7 hc9
      go_upto_region 14 with fail
      rw [← hW7]
      clear hW7
      go_wp2_with fail
      refine hc10.out.mono ?_
      rintro _ w8 ⟨rfl, b8⟩
      clear d0 d1 d2 d3 d4
      obtain ⟨d0, d1, d2, d3, d4⟩ := own5 (H7.out.2.past b8 H7.out.2.inside)
      rw [z7w.out] at d1
      rw [z7d.out] at d3
      rw [z7f.out] at d4
      simp only [List.length_nil] at d1
      have HZ := Lib.hid (H7.out.1.trans (b8.mono H7.out.1.size))
      clear b8 hc10 z7d z7f z7w
      go_wp2_with fail
      go_ret
      exact ⟨rfl, HZ.out⟩
theorem safe_law {P : Prop} (x : Dl) (n : ByteArray) (A : Option Addr) (c : Nat) (ws : List Wr) (keep tear : Int) (w : World) (h : DIn w w.heap.size x) (hf : -9223372036854775808 ≤ x.fuse ∧ x.fuse ≤ 9223372036854775807) (_ : wtD x.d ≤ 524288000) (_ : P) (_ : ws.length ≤ c) (_ : c ≤ maxLen) (hws : Lies 4 Wr.cells w w.heap.size A ws) (_ : wtW ws ≤ 524288000) (_ : -9223372036854775808 ≤ keep) (_ : keep ≤ 9223372036854775807) (_ : -9223372036854775808 ≤ tear) (_ : tear ≤ 9223372036854775807) (hn : wtD x.d + wtW ws ≤ 1048576) :
    Calls Try.prog 9 #[x.val, .string n, .slice A ws.length c, .int .i64 keep, .int .i64 tear] w fun e w' => e = .returned (.bool true) ∧ Below w.heap.size w w' := safe_true x n A c ws keep tear w h hf hws hn
end Go.Proofs.Ytcgplhmicfmjeaa
