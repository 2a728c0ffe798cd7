/- Part 6 of the texts on which DiskWrites rests: facts and contracts. -/
import Derived.Test.YtfelpjacccclkaaDiskWritesM5
import Derived.Laws.Concat
import Derived.BigQuiet
namespace Go.Proofs.Ytfelpjacccclkaa
open Go Go.RowKit

def FOk (k : Dk) : Prop := -9223372036854775808 ≤ k.fuse ∧ k.fuse ≤ 9223372036854775807
theorem wtW_cons (r : Wr) (ws : List Wr) : wtW (r :: ws) = 2 + r.d.size + wtW ws := by unfold wtW; simp
theorem wtW_append (a b : List Wr) : wtW (a ++ b) = wtW a + wtW b := by unfold wtW; simp
theorem write_wt (d : Dk) (l : List Fl) (r : Wr) : wtD (writeD d l r).1 ≤ wtD d + (2 + r.d.size) := by
  have hw : ∀ x : List Wr, wtW (x ++ [r]) = wtW x + (2 + r.d.size) := fun x => by rw [wtW_append, wtW_cons]; rfl
  unfold writeD
  repeat' split
  all_goals first
    | omega
    | (dsimp only; omega)
    | (unfold wtD; dsimp only; omega)
    | (unfold wtD; dsimp only; rw [hw]; omega)
theorem doS_wt : ∀ (ws : List Wr) (d : Dk) (l : List Fl), wtD (doS d l ws).1 ≤ wtD d + wtW ws
  | [], d, l => by simp [doS]
  | r :: ws, d, l => by
    have h1 := write_wt d l r
    have h2 := doS_wt ws (writeD d l r).1 (writeD d l r).2.1
    rw [wtW_cons]
    simp only [doS]
    split
    · omega
    · dsimp only; omega
theorem doS_fuse : ∀ (ws : List Wr) (d : Dk) (l : List Fl), FOk d → FOk (doS d l ws).1
  | [], d, l, h => h
  | r :: ws, d, l, h => by
    have h1 : FOk (writeD d l r).1 := by
      unfold FOk
      rcases write_fuse d l r with e | e
      · rw [e]; exact h
      · rw [e]; exact lessN_fit h
    simp only [doS]
    split
    · exact doS_fuse ws _ _ h1
    · exact h1
theorem doD_told {d k : Dk} {n : Int} {a : List Wr} {m : Nat} (hd : doD d a = (k, n)) (hf : FOk d) (hm : wtD d + wtW a + m ≤ 1099511627776) : DTold k m := by
  have e : k = (doD d a).1 := by rw [hd]
  subst e
  unfold doD
  split
  · exact ⟨by have := doS_wt a d (seen d); omega, doS_fuse a d _ hf⟩
  · exact ⟨by show 0 + m ≤ _; omega, by decide⟩
theorem lies_drop {w : World} {B b o : Nat} {l : List Wr} {q : Nat} (h : Lies 4 Wr.cells w B (some ⟨b, o, none⟩) l) : Lies 4 Wr.cells w B (some ⟨b, o + q * 4, none⟩) (l.drop q) := fun hp => by
  have hl : 0 < l.length := by rw [List.length_drop] at hp; omega
  obtain ⟨b', o', e, hb, hc⟩ := h hl
  obtain ⟨rfl, rfl⟩ : b = b' ∧ o = o' := by injection e with e; injection e with e1 e2; exact ⟨e1, e2⟩
  refine ⟨b, o + q * 4, rfl, hb, fun i x hi j u hj => ?_⟩
  have := hc (q + i) x (by rw [List.getElem?_drop] at hi; exact hi) j u hj
  rw [show o + q * 4 + i * 4 + j = o + (q + i) * 4 + j by rw [Nat.add_mul]; omega]
  exact this
theorem lies_rest {w : World} {B q c : Nat} {A : Option Addr} {l : List Wr} (h : Lies 4 Wr.cells w B A l) (hc : l.length ≤ c) : Lies 4 Wr.cells w B (if c = q then A else Option.map (fun x => x.add (q * 4)) A) (l.drop q) := fun hp => by
  have hp' := hp
  rw [List.length_drop] at hp'
  obtain ⟨b, o, e, _, _⟩ := h (by omega)
  subst e
  rw [if_neg (by omega)]
  have hadd : (⟨b, o, none⟩ : Addr).add (q * 4) = ⟨b, o + q * 4, none⟩ := by unfold Addr.add; split <;> simp_all
  simp only [Option.map_some, hadd]
  exact lies_drop h hp
theorem parts_do {d k1 k2 k3 : Dk} {n1 n2 n3 : Int} {ws : List Wr} {q : Nat} (h1 : doD d ws = (k1, n1)) (h2 : doD d (ws.take q) = (k2, n2)) (h3 : doD k2 (ws.drop q) = (k3, n3)) :
    (n2 ≠ 0 → n1 = n2 ∧ k1 = k2) ∧ (n2 = 0 → n1 = n3 ∧ k1 = k3) := by
  have h := do_parts d (ws.take q) (ws.drop q)
  rw [List.take_append_drop, h1, h2] at h
  dsimp only at h
  constructor
  · intro hz
    rw [if_neg hz] at h
    injection h with e1 e2
    exact ⟨e2, e1⟩
  · intro hz
    rw [if_pos hz, h3] at h
    injection h with e1 e2
    exact ⟨e2, e1⟩
end Go.Proofs.Ytfelpjacccclkaa
namespace Go.Proofs.Ytfelpjacccclkaa
open Go Go.RowKit

structure FInv (k : Dk) (sz : Nat) : Prop where
  good : goodD k = true
  up : k.down = false
  fuse : k.fuse = -1
  room : k.room = (sz : Int)
  fit : szF (seen k) ≤ sz
theorem full_zero (sz : Nat) : FInv ⟨[], [], (sz : Int), false, -1⟩ sz := by
  refine ⟨?_, rfl, rfl, rfl, ?_⟩
  · rw [good_iff]
    refine ⟨by dsimp only; omega, ⟨by simp, fun f hf => by simp at hf, by unfold SortedF namesF SortedN; simp⟩, by simp, rfl⟩
  · have : seen ⟨[], [], (sz : Int), false, -1⟩ = [] := rfl
    rw [this]; show 0 ≤ _; omega
theorem full_step {k k' : Dk} {n : Int} {r : Wr} {sz : Nat} (h : FInv k sz) (hd : doD k [r] = (k', n)) : FInv k' sz ∧ (n ≠ 0 → k' = k) := by
  obtain ⟨g1, g2⟩ := write_good (w := r) h.good rfl
  have key : ((writeD k (seen k) r).1 = k ∧ (writeD k (seen k) r).2.2 ≠ 0) ∨ ((writeD k (seen k) r).2.2 = 0 ∧ (writeD k (seen k) r).1 = ⟨k.files, k.waits ++ [r], k.room, k.down, lessN k.fuse⟩ ∧ (writeD k (seen k) r).2.1 = appF (seen k) r ∧ ¬ (k.room < (szF (appF (seen k) r) : Int))) := by
    unfold writeD
    rw [if_neg (by rw [h.up]; decide)]
    split
    · exact .inl ⟨rfl, by simp⟩
    split
    · exact .inl ⟨rfl, by simp⟩
    split
    · exact .inl ⟨rfl, by simp⟩
    rename_i q
    rw [if_neg (by rw [h.fuse]; decide)]
    exact .inr ⟨rfl, rfl, rfl, fun e => q (.inr (.inr e))⟩
  have hk : k' = (writeD k (seen k) r).1 ∧ n = (writeD k (seen k) r).2.2 := by
    unfold doD at hd
    rw [if_pos h.good] at hd
    simp only [doS] at hd
    split at hd
    · rename_i hz
      injection hd with e1 e2
      exact ⟨e1.symm, by rw [hz]; exact e2.symm⟩
    · injection hd with e1 e2
      exact ⟨e1.symm, e2.symm⟩
  obtain ⟨rfl, rfl⟩ := hk
  rcases key with ⟨e, hne⟩ | ⟨hz, e, es, hr⟩
  · rw [e]; exact ⟨h, fun _ => rfl⟩
  · refine ⟨⟨g1, ?_, ?_, ?_, ?_⟩, fun hne => absurd hz hne⟩
    · rw [e]; exact h.up
    · rw [e]; show lessN k.fuse = -1; rw [h.fuse]; decide
    · rw [e]; exact h.room
    · rw [← (g2 hz).1, es]
      have := h.room
      omega
theorem seen_len {k : Dk} (h : goodD k = true) : (seen k).length ≤ 256 := by
  rw [seen_good h]
  exact okW_len _ (good_iff.1 h).2.1.1 (good_iff.1 h).2.2.2
theorem szF_more {l : List Fl} {m : Nat} {f : Fl} (h : l[m]? = some f) : szF (l.take (m + 1)) = szF (l.take m) + f.d.size := by
  rw [List.take_add_one, h, Option.toList_some, szF_app, szF_cons]; rfl
theorem szF_part (l : List Fl) (m : Nat) : szF (l.take m) ≤ szF l := by
  have := szF_app (l.take m) (l.drop m)
  rw [List.take_append_drop] at this
  omega
theorem wtW_more {l : List Wr} {m : Nat} {f : Wr} (h : l[m]? = some f) : wtW (l.take (m + 1)) = wtW (l.take m) + wtW [f] := by
  rw [List.take_add_one, h, Option.toList_some, wtW_append]
theorem wtW_part (l : List Wr) (m : Nat) : wtW (l.take m) ≤ wtW l := by
  have := wtW_append (l.take m) (l.drop m)
  rw [List.take_append_drop] at this
  omega
theorem doD_wt {k k' : Dk} {n : Int} {a : List Wr} (hd : doD k a = (k', n)) : wtD k' ≤ wtD k + wtW a := by
  have e : k' = (doD k a).1 := by rw [hd]
  subst e
  unfold doD
  split
  · exact doS_wt a k (seen k)
  · show 0 ≤ _; omega
theorem see_at {W : World} {y : Dl} {k : Dk} {l : List Fl} (hd : DIn W W.heap.size y) (hk : y.d = k) (hs : seeD k = (l, 0)) (ht : DTold k 0) :
    RowKit.Hid (Calls Try.prog 15 #[.agg #[.slice y.fA y.files.length y.fc, .slice y.wA y.waits.length y.wc, .int .i64 y.room, .bool y.down, .int .i64 y.fuse]] W fun e w' => Below W.heap.size W w' ∧ ∃ A c, e = .returned (.tuple #[.slice A l.length c, .int .i64 0]) ∧ Lies 2 Fl.cells w' w'.heap.size A l) := by
  subst hk
  have h := dsee_any y W hd (ht.ok rfl)
  rw [hs] at h
  exact Lib.hid h
theorem check_at {W : World} {y : Dl} {k : Dk} (hd : DIn W W.heap.size y) (hk : y.d = k) (hs : goodD k = true) (ht : DTold k 0) :
    RowKit.Hid (Calls Try.prog 20 #[.agg #[.slice y.fA y.files.length y.fc, .slice y.wA y.waits.length y.wc, .int .i64 y.room, .bool y.down, .int .i64 y.fuse]] W fun e w' => e = .returned (.int .i64 0) ∧ Below W.heap.size W w') := by
  subst hk
  have h := dcheck_any y W hd (ht.ok rfl)
  unfold chkD at h
  rw [if_pos hs] at h
  exact Lib.hid h
end Go.Proofs.Ytfelpjacccclkaa
namespace Go.Proofs.Ytfelpjacccclkaa
open Go Go.RowKit

def off (n : ByteArray) (w : Wr) : Prop := w.n ≠ n ∧ w.t ≠ n
theorem get_off {l : List Fl} {w : Wr} {n : ByteArray} (hs : SortedF l) (h : off n w) : getF (appF l w) n = getF l n := by
  unfold appF
  split
  · rw [get_ext hs, if_neg (fun e => h.1 e.symm)]
  split
  · cases hh : hasF l w.n
    · unfold renF; rw [hh]; rfl
    · rw [get_ren hs hh, if_neg (fun e => h.2 e.symm), if_neg (fun e => h.1 e.symm)]
  split
  · rw [get_take hs, if_neg (fun e => h.1 e.symm)]
  · rfl
theorem get_look {n : ByteArray} : ∀ (ws : List Wr) {l : List Fl}, SortedF l → (∀ w ∈ ws, off n w) → getF (ws.foldl appF l) n = getF l n
  | [], _, _, _ => rfl
  | w :: ws, l, hs, h => by
    rw [List.foldl_cons, get_look ws (sorted_app hs) (fun x hx => h x (List.mem_cons_of_mem _ hx)), get_off hs (h w (List.mem_cons_self))]
theorem ext_len (l : List Fl) (n d d' : ByteArray) : (extF l n d).length = (extF l n d').length := by
  unfold extF
  split
  · simp
  · unfold putF; simp
/-- between a sync and a crash -/
structure Safe (k : Dk) (F : List Fl) (n : ByteArray) : Prop where
  good : goodD k = true
  files : k.files = F
  offs : ∀ w ∈ k.waits, off n w
theorem write_safe {k : Dk} {F : List Fl} {n : ByteArray} {r : Wr} (h : Safe k F n) (hr : off n r) : Safe (writeD k (seen k) r).1 F n := by
  obtain ⟨g1, _⟩ := write_good (w := r) h.good rfl
  refine ⟨g1, ?_, ?_⟩
  · unfold writeD
    repeat' split
    all_goals exact h.files
  · have hm : ∀ w ∈ k.waits ++ [r], off n w := fun w hw => by
      rcases List.mem_append.1 hw with hw | hw
      · exact h.offs w hw
      · obtain rfl : w = r := by simpa using hw
        exact hr
    unfold writeD
    repeat' split
    all_goals first
      | exact h.offs
      | exact hm
theorem do_safe {k k' : Dk} {F : List Fl} {n : ByteArray} {r : Wr} {e : Int} (h : Safe k F n) (hr : off n r) (hd : doD k [r] = (k', e)) : Safe k' F n := by
  have hk : k' = (writeD k (seen k) r).1 := by
    unfold doD at hd
    rw [if_pos h.good] at hd
    simp only [doS] at hd
    split at hd
    · injection hd with e1 e2; exact e1.symm
    · injection hd with e1 e2; exact e1.symm
  rw [hk]; exact write_safe h hr
theorem sync_safe {d k : Dk} (h : syncD d = (k, 0)) : k = ⟨seen d, [], d.room, d.down, lessN d.fuse⟩ ∧ d.down = false ∧ (∀ n, Safe k (seen d) n) ∧ k.down = false := by
  unfold syncD at h
  split at h
  · rename_i hg
    split at h
    · injection h with h1 h2; cases h2
    · rename_i hdn
      split at h
      · injection h with h1 h2; cases h2
      · injection h with h1 h2
        subst h1
        have hdn' : d.down = false := by simpa using hdn
        have g := good_iff.1 hg
        refine ⟨rfl, hdn', fun n => ⟨?_, rfl, fun w hw => by simp at hw⟩, hdn'⟩
        rw [good_iff]
        refine ⟨g.1, ⟨seen_len hg, ?_, seen_sorted hg⟩, by simp, rfl⟩
        show Named (seen d)
        rw [seen_good hg]
        exact named_look _ g.2.1.2.1 g.2.2.2
  · injection h with h1 h2; cases h2
theorem look_read {k : Dk} {n : ByteArray} (hg : goodD k = true) (hd : k.down = false) (hw : k.waits = []) : readD k n = readF k.files n := by
  unfold readD
  rw [if_pos hg, hd, seen_good hg, hw]; rfl
/-- the crashed disk -/
theorem crash_safe {k : Dk} {F : List Fl} {n : ByteArray} {keep tear : Int} (h : Safe k F n) :
    ∃ k', crashD k keep tear = (k', 0) ∧ k'.down = false ∧ k'.fuse = -1 ∧ k'.waits = [] ∧ goodD k' = true ∧ getF k'.files n = getF F n := by
  have g := good_iff.1 h.good
  have hs := g.2.1.2.2
  unfold crashD
  rw [if_pos h.good]
  refine ⟨_, rfl, rfl, rfl, rfl, ?_⟩
  dsimp only
  have hl : ∀ ws, lookF k.files ws = ws.foldl appF k.files := fun ws => by unfold lookF; rw [base_sorted hs]
  have hq : ∀ q, okW k.files (k.waits.take q) = true := fun q => by
    have h2 := okW_app (l := k.files) (a := k.waits.take q) (b := k.waits.drop q)
    rw [List.take_append_drop, g.2.2.2] at h2
    have h3 := h2.symm
    rw [Bool.and_eq_true] at h3
    exact h3.1
  have key : SortedF (leftD k keep tear) ∧ Named (leftD k keep tear) ∧ (leftD k keep tear).length ≤ 256 ∧ getF (leftD k keep tear) n = getF F n := by
    unfold leftD
    generalize keepN keep k.waits.length = q
    rw [hl]
    have s1 := sorted_look (k.waits.take q) hs
    have n1 := named_look (k.waits.take q) g.2.1.2.1 (hq q)
    have l1 := okW_len (k.waits.take q) g.2.1.1 (hq q)
    have g1 : getF ((k.waits.take q).foldl appF k.files) n = getF F n := by
      rw [get_look _ hs (fun w hw => h.offs w (List.mem_of_mem_take hw)), h.files]
    cases hw : k.waits[q]? with
    | none => exact ⟨s1, n1, l1, g1⟩
    | some w =>
      have hoff := h.offs w (List.mem_of_getElem? hw)
      have hok := hq (q + 1)
      rw [List.take_add_one, hw, Option.toList_some, okW_app, Bool.and_eq_true] at hok
      obtain ⟨hrw, hlen, _⟩ := okW_cons hok.2
      unfold tornF
      dsimp only
      split
      · rename_i hc
        refine ⟨sorted_ext s1, named_ext (by unfold rightW at hrw; rw [Bool.and_eq_true] at hrw; exact hrw.1) n1, ?_, ?_⟩
        · have : appF ((k.waits.take q).foldl appF k.files) w = extF ((k.waits.take q).foldl appF k.files) w.n w.d := by unfold appF; rw [if_pos hc.1]
          rw [this] at hlen
          rw [ext_len _ _ _ w.d]; exact hlen
        · rw [get_ext s1, if_neg (fun e => hoff.1 e.symm)]; exact g1
      · exact ⟨s1, n1, l1, g1⟩
  refine ⟨?_, key.2.2.2⟩
  rw [good_iff]
  exact ⟨g.1, ⟨key.2.2.1, key.2.1, key.1⟩, by simp, rfl⟩
theorem read_same {l m : List Fl} {n : ByteArray} (h : getF l n = getF m n) : readF l n = readF m n := by unfold readF; rw [h]
end Go.Proofs.Ytfelpjacccclkaa
namespace Go.Proofs.Ytfelpjacccclkaa
open Go Go.RowKit

theorem wtF_eq : ∀ l : List Fl, wtF l = 2 * l.length + szF l
  | [] => rfl
  | f :: l => by
    have h1 : wtF (f :: l) = 2 + f.d.size + wtF l := by unfold wtF; simp
    rw [h1, wtF_eq l, szF_cons, List.length_cons]; omega
theorem len_putF (l : List Fl) (f : Fl) : (putF l f).length = l.length + 1 := by
  have := posF_le l f.n
  unfold putF
  rw [List.length_append, List.length_cons, List.length_take, List.length_drop]; omega
theorem len_take_le (l : List Fl) (n : ByteArray) : (takeF l n).length ≤ l.length := by
  unfold takeF
  split
  · rw [List.length_append, List.length_take, List.length_drop]; omega
  · exact Nat.le_refl _
theorem len_takeF {l : List Fl} {n : ByteArray} (hs : SortedF l) (h : hasF l n = true) : (takeF l n).length + 1 = l.length := by
  obtain ⟨d, hd⟩ := hasF_at hs h
  have := (List.getElem?_eq_some_iff.1 hd).1
  unfold takeF
  rw [if_pos h, List.length_append, List.length_take, List.length_drop]; omega
theorem len_ext (l : List Fl) (n d : ByteArray) : (extF l n d).length ≤ l.length + 1 := by
  unfold extF
  split
  · simp
  · rw [len_putF]; omega
theorem szF_take_le {l : List Fl} {n : ByteArray} (hs : SortedF l) : szF (takeF l n) ≤ szF l := by
  cases h : hasF l n
  · unfold takeF; rw [h]; exact Nat.le_refl _
  · have := szF_take hs h; omega
theorem wtF_app {l : List Fl} {w : Wr} (hs : SortedF l) : wtF (appF l w) ≤ wtF l + (2 + w.d.size) := by
  rw [wtF_eq, wtF_eq]
  unfold appF
  split
  · have h1 := szF_ext (n := w.n) (d := w.d) hs
    have h2 := len_ext l w.n w.d
    omega
  split
  · cases h : hasF l w.n
    · unfold renF; rw [h]; simp only [Bool.false_eq_true, if_false]; omega
    · have e : renF l w.n w.t = putF (takeF (takeF l w.n) w.t) ⟨w.t, (oldF l w.n).d⟩ := by unfold renF; rw [if_pos h]
      have h1 := szF_take hs h
      have h2 := len_takeF hs h
      have h3 := szF_take_le (n := w.t) (sorted_take (n := w.n) hs)
      have h4 := len_take_le (takeF l w.n) w.t
      rw [e, len_putF, szF_put]
      dsimp only
      omega
  split
  · have h1 := szF_take_le (n := w.n) hs
    have h2 := len_take_le l w.n
    omega
  · omega
theorem wtF_look : ∀ (ws : List Wr) {l : List Fl}, SortedF l → wtF (ws.foldl appF l) ≤ wtF l + wtW ws
  | [], _, _ => by simp
  | w :: ws, l, hs => by
    have h1 := wtF_look ws (sorted_app (w := w) hs)
    have h2 := wtF_app (w := w) hs
    rw [List.foldl_cons, wtW_cons]; omega
theorem wtF_seen {k : Dk} (h : goodD k = true) : wtF (seen k) ≤ wtD k := by
  rw [seen_good h]; exact wtF_look k.waits (good_iff.1 h).2.1.2.2
theorem sync_wt {d k : Dk} (h : syncD d = (k, 0)) : wtD k ≤ wtD d := by
  have hg : goodD d = true := by
    cases hg : goodD d
    · unfold syncD at h; rw [hg] at h; simp at h
    · rfl
  rw [(sync_safe h).1]
  have := wtF_seen hg
  have h0 : wtD ⟨seen d, [], d.room, d.down, lessN d.fuse⟩ = wtF (seen d) + 0 := rfl
  omega
theorem crash_wt {k k' : Dk} {a b : Int} (h : crashD k a b = (k', 0)) (hg : goodD k = true) : wtD k' ≤ wtD k + wtD k := by
  unfold crashD at h
  rw [if_pos hg] at h
  injection h with h1 _
  subst h1
  have hs := (good_iff.1 hg).2.1.2.2
  have h0 : ∀ l r d f, wtD ⟨l, [], r, d, f⟩ = wtF l + 0 := fun _ _ _ _ => rfl
  rw [h0]
  unfold leftD
  generalize keepN a k.waits.length = q
  have hl : lookF k.files (k.waits.take q) = (k.waits.take q).foldl appF k.files := by unfold lookF; rw [base_sorted hs]
  rw [hl]
  have h2 := wtF_look (k.waits.take q) hs
  have h3 := wtW_part k.waits q
  have hd : wtD k = wtF k.files + wtW k.waits := rfl
  unfold tornF
  cases hw : k.waits[q]? with
  | none => dsimp only; omega
  | some w =>
    dsimp only
    have h4 := wtW_more hw
    have h5 := wtW_part k.waits (q + 1)
    have h6 : wtW [w] = 2 + w.d.size := rfl
    split
    · have s1 := sorted_look (k.waits.take q) hs
      have e1 := szF_ext (n := w.n) (d := w.d.extract 0 (min b.toNat w.d.size)) s1
      have e2 := len_ext ((k.waits.take q).foldl appF k.files) w.n (w.d.extract 0 (min b.toNat w.d.size))
      have e3 : (w.d.extract 0 (min b.toNat w.d.size)).size ≤ w.d.size := by rw [ByteArray.size_extract]; omega
      have e4 := wtF_eq ((k.waits.take q).foldl appF k.files)
      rw [wtF_eq]
      omega
    · omega
end Go.Proofs.Ytfelpjacccclkaa
namespace Go.Proofs.Ytfelpjacccclkaa
open Go Go.RowKit

def TellsF (B : Nat) (m : List Fl) (w : World) (e : Ending) (w' : World) : Prop := ∃ (A : Option Addr) (c : Nat), e = .returned (.slice A m.length c) ∧ Lies 2 Fl.cells w' w'.heap.size A m ∧ Below B w w'
theorem tells_of {base : Nat} {m : List Fl} {w : World} {e : Ending} {w' : World} (h : GivesF base m w e w') : ∃ (A : Option Addr) (c : Nat), e = .returned (.slice A m.length c) ∧ Lies 2 Fl.cells w' w'.heap.size A m ∧ Below w.heap.size w w' := by
  obtain ⟨v, rfl, ho, hb⟩ := h
  obtain ⟨A, c, rfl, _, hl⟩ := ret_row ho
  exact ⟨A, c, rfl, hl, hb⟩
theorem flbox2 (w : World) (n d : ByteArray) : ∃ W, W = w.alloc (.cells #[.string n, .string d] 67) ∧ Below w.heap.size w W ∧ W.heap.size = w.heap.size + 1 ∧ Own W w.heap.size 67 [.string n, .string d] :=
  ⟨_, rfl, (Below.refl _ _).alloc (Nat.le_refl _) _, by simp, Own.made w _ _⟩
theorem sz_in {l : List Fl} {i : Nat} {f : Fl} (h : l[i]? = some f) : f.d.size ≤ szF l := by
  have h1 := sz_snoc h
  have h2 := sz_take l (i + 1)
  omega
/-- how a write's kind stands -/
def KindOk (k : Int) : Prop := k = 1 ∨ k = 2 ∨ k = 3
theorem kind_ok {x : Wr} (h : rightW x = true) : KindOk x.k := by
  unfold rightW at h
  rw [Bool.and_eq_true] at h
  by_cases k1 : x.k = 1
  · exact .inl k1
  · by_cases k2 : x.k = 2
    · exact .inr (.inl k2)
    · by_cases k3 : x.k = 3
      · exact .inr (.inr k3)
      · have := h.2
        rw [if_neg k1, if_neg k2, if_neg k3] at this
        cases this
set_option maxRecDepth 100000 in
set_option maxHeartbeats 3200000 in
theorem done_app (A : Option Addr) (c : Nat) (l : List Fl) (x : Wr) (w : World) (hl : Lies 2 Fl.cells w w.heap.size A l) (hs : SortedF l) (k1 : x.k = 1) (hn : wtF l + x.d.size ≤ 900000000000) :
    Calls Try.prog 40 #[.slice A l.length c, x.val] w (TellsF w.heap.size (appF l x) w) := by
  obtain ⟨V, hV, hVb, hVs, oV⟩ := wrbox w x
  have hlV := lies_keep hl hVb
  have hln := len_le_wtF l
  have hle := wtF_eq l
  have y1 := Lib.hid (find_ref A c l x.n V hlV (by omega))
  have e1 : Hid (appF l x = withF l ⟨x.n, (getF l x.n).getD ⟨#[]⟩ ++ x.d⟩) := Lib.hid (by unfold appF; rw [if_pos k1, ext_with hs])
  obtain ⟨xk, xn, xt, xd⟩ := x
  dsimp only at k1 e1 y1 hn ⊢
  subst k1
  have d0 := oV.at_ 0
  have d1 := oV.at_ 1
  simp only [Wr.cells, List.getElem?_cons_zero, List.getElem?_cons_succ] at d0 d1
  have HV := Lib.hid (And.intro hVb (And.intro oV (And.intro hlV hs)))
  unfold Wr.val
  clear hl hVb hVs oV hlV hs
  go_enter Try.func40, Try.ntmps40
  go_upto_region 1 with fail
  rw [← hV]
  clear hV
  go_wp2_with fail
  refine y1.out.mono ?_
  rintro _ w1 ⟨r, rfl, hF, b1⟩
  have o1 := HV.out.2.1.past b1 HV.out.2.1.inside
  clear d0 d1
  have d0 := o1.at_ 0
  have d1 := o1.at_ 1
  have d3 := o1.at_ 3
  simp only [Wr.cells, List.getElem?_cons_zero, List.getElem?_cons_succ] at d0 d1 d3
  obtain ⟨W, hW, bW, sW, oW⟩ := flbox2 w1 xn xd
  have hL1 := lies_keep HV.out.2.2.1 (b1.trans (bW.mono b1.size))
  have hb1s := b1.size
  rcases hF with ⟨i, f, hx, hfn, rfl, hno⟩ | ⟨rfl, hno⟩
  · have hi := (List.getElem?_eq_some_iff.1 hx).1
    obtain ⟨hh, hg, ho⟩ := found_get HV.out.2.2.2 hx hfn
    obtain ⟨b, o, hA, hB, hxs⟩ := hL1 (by omega)
    subst hA
    have hfs := sz_in hx
    have x1 := hxs i _ hx 1 _ rfl
    have q0 : (0 : Int) ≤ (i : Int) := by omega
    have q1 : (i : Int) < (l.length : Int) := by omega
    have hadd := fun w' : World => run_string_add_sum (P := Try.prog) (w := w') f.d xd (by omega)
    have oD := o1.past bW o1.inside
    have H1 := Lib.hid (And.intro (b1.trans (bW.mono b1.size)) (And.intro oW (And.intro (lies_keep HV.out.2.2.1 (b1.trans (bW.mono b1.size))) (And.intro hg oD))))
    have hod := oD.inside
    have c3 := oD.at_ 3
    simp only [Wr.cells, List.getElem?_cons_zero, List.getElem?_cons_succ] at c3
    have G0 := fun p : Past W => (p.h.cell (p := ⟨b, o + i * 2 + 1, none⟩) hB).trans x1
    have G1 := fun p : Past W => (p.h.cell (p := ⟨w.heap.size, 3, none⟩) hod).trans c3
    clear hno hx hfn hh hg ho hxs bW sW oW b1 o1 oD c3 x1 hod hB hfs
    go_upto_region 4 with fail
    rw [← hW]
    clear hW d0 d1 d3
    go_upto_region 5 with fail
    refine wp_region_past_tail W 9 (by kernel_rfl) (by kernel_rfl) (Below.refl _ _) ?_
    simp only [List.take_succ_cons, List.take_zero, List.drop_succ_cons, List.drop_zero]
    repeat (first | go_big_quiet_step (fail) | quiet_step (fail))
    refine wpQuiet_nil ?_
    intro wz hw'
    obtain ⟨⟨wy, hbz⟩, hw''⟩ := hw'
    dsimp only at hw''
    subst hw''
    have oF := H1.out.2.1.past hbz H1.out.2.1.inside
    have f1 := oF.open_ 1
    have c1 := oF.at_ 1
    simp only [List.getElem?_cons_zero, List.getElem?_cons_succ] at c1
    obtain ⟨X, hX⟩ : ∃ X, X = wz.setCell ⟨w1.heap.size, 1, none⟩ (.string (f.d ++ xd)) := ⟨_, rfl⟩
    have oX := oF.set_ 1 (.string (f.d ++ xd))
    rw [← hX] at oX
    have hb2 : Below V.heap.size V wz := H1.out.1.trans (hbz.mono H1.out.1.size)
    have bX : Below V.heap.size V X := by rw [hX]; exact hb2.setCell (p := ⟨w1.heap.size, 1, none⟩) hb1s _
    have y2 := Lib.hid (with_any (some ⟨b, o, none⟩) c l ⟨xn, f.d ++ xd⟩ X (lies_keep HV.out.2.2.1 bX) HV.out.2.2.2 (by omega))
    have H2 := Lib.hid (And.intro (HV.out.1.trans (bX.mono HV.out.1.size)) H1.out.2.2.2.1)
    have g0 := oX.at_ 0
    have g1 := oX.at_ 1
    simp only [List.set_cons_succ, List.set_cons_zero, List.getElem?_cons_zero, List.getElem?_cons_succ] at g0 g1
    have e2 : Hid (withF l ⟨xn, (getF l xn).getD ⟨#[]⟩ ++ xd⟩ = withF l ⟨xn, f.d ++ xd⟩) := Lib.hid (by rw [H1.out.2.2.2.1]; rfl)
    unfold Fl.val at y2
    clear hb2 bX oX hbz oF hadd G0 G1
    go_upto_region 6 with fail
    rw [← hX]
    clear hX c1 f1
    go_wp2_with fail
    refine y2.out.mono ?_
    intro e w4 h4
    obtain ⟨A4, c4, rfl, l4, b4⟩ := tells_of h4
    have H4 := Lib.hid (And.intro l4 (H2.out.1.trans (b4.mono H2.out.1.size)))
    clear h4 l4 b4
    go_wp2_with fail
    go_ret
    rw [e1.out, e2.out]
    exact ⟨A4, c4, rfl, H4.out.1, H4.out.2⟩
  · have q0 : decide (0 ≤ (-1 : Int)) = false := by decide
    obtain ⟨hh, hg⟩ := not_found hno
    have e2 : Hid (withF l ⟨xn, (getF l xn).getD ⟨#[]⟩ ++ xd⟩ = withF l ⟨xn, xd⟩) := Lib.hid (by rw [hg]; show withF l ⟨xn, ⟨#[]⟩ ++ xd⟩ = _; rw [empty_app])
    have y2 := Lib.hid (with_any A c l ⟨xn, xd⟩ W hL1 HV.out.2.2.2 (by omega))
    have H2 := Lib.hid (HV.out.1.trans ((b1.trans (bW.mono b1.size)).mono HV.out.1.size))
    have g0 := oW.at_ 0
    have g1 := oW.at_ 1
    simp only [List.getElem?_cons_zero, List.getElem?_cons_succ] at g0 g1
    unfold Fl.val at y2
    clear hno hh hg hL1 bW sW oW b1 o1
    go_upto_region 4 with fail
    rw [← hW]
    clear hW d0 d1 d3
    go_wp2_with fail
    refine y2.out.mono ?_
    intro e w4 h4
    obtain ⟨A4, c4, rfl, l4, b4⟩ := tells_of h4
    have H4 := Lib.hid (And.intro l4 (H2.out.trans (b4.mono H2.out.size)))
    clear h4 l4 b4
    go_wp2_with fail
    go_ret
    rw [e1.out, e2.out]
    exact ⟨A4, c4, rfl, H4.out.1, H4.out.2⟩
end Go.Proofs.Ytfelpjacccclkaa
namespace Go.Proofs.Ytfelpjacccclkaa
open Go Go.RowKit

set_option maxRecDepth 100000 in
set_option maxHeartbeats 3200000 in
theorem done_rest (A : Option Addr) (c : Nat) (l : List Fl) (x : Wr) (w : World) (hl : Lies 2 Fl.cells w w.heap.size A l) (hs : SortedF l) (k23 : x.k = 2 ∨ x.k = 3) (hn : wtF l + x.d.size ≤ 900000000000) :
    Calls Try.prog 40 #[.slice A l.length c, x.val] w (TellsF w.heap.size (appF l x) w) := by
  obtain ⟨V, hV, hVb, hVs, oV⟩ := wrbox w x
  have hlV := lies_keep hl hVb
  have hln := len_le_wtF l
  have y1 := Lib.hid (find_ref A c l x.n V hlV (by omega))
  have e3 : Hid (x.k = 3 → appF l x = takeF l x.n) := Lib.hid (fun h => by unfold appF; rw [h]; rfl)
  have e2 : Hid (x.k = 2 → appF l x = renF l x.n x.t) := Lib.hid (fun h => by unfold appF; rw [h]; rfl)
  obtain ⟨xk, xn, xt, xd⟩ := x
  dsimp only at k23 e2 e3 y1 hn ⊢
  have k1 : (xk == 1) = false := beq_eq_false_iff_ne.2 (by omega)
  have d0 := oV.at_ 0
  have d1 := oV.at_ 1
  simp only [Wr.cells, List.getElem?_cons_zero, List.getElem?_cons_succ] at d0 d1
  have HV := Lib.hid (And.intro hVb (And.intro oV (And.intro hlV (And.intro hs k23))))
  unfold Wr.val
  clear hl hVb hVs oV hlV hs k23
  go_enter Try.func40, Try.ntmps40
  go_upto_region 1 with fail
  rw [← hV]
  clear hV
  go_wp2_with fail
  refine y1.out.mono ?_
  rintro _ w1 ⟨r, rfl, hF, b1⟩
  have o1 := HV.out.2.1.past b1 HV.out.2.1.inside
  clear d0 d1
  have d0 := o1.at_ 0
  have d1 := o1.at_ 1
  have d2 := o1.at_ 2
  simp only [Wr.cells, List.getElem?_cons_zero, List.getElem?_cons_succ] at d0 d1 d2
  have hL1 := lies_keep HV.out.2.2.1 b1
  have hb1s := b1.size
  rcases hF with ⟨i, f, hx, hfn, rfl, hno⟩ | ⟨rfl, hno⟩
  · have hi := (List.getElem?_eq_some_iff.1 hx).1
    obtain ⟨hh, hg, ho⟩ := found_get HV.out.2.2.2.1 hx hfn
    obtain ⟨b, o, hA, hB, hxs⟩ := hL1 (by omega)
    subst hA
    have x0 := hxs i _ hx 0 _ rfl
    have x1 := hxs i _ hx 1 _ rfl
    simp only [Nat.add_zero] at x0
    have q0 : (0 : Int) ≤ (i : Int) := by omega
    have q1 : (i : Int) < (l.length : Int) := by omega
    obtain ⟨W, hW, bW, sW, oW⟩ := flbox w1 f
    have y2 := Lib.hid (without_any (some ⟨b, o, none⟩) c l xn W (lies_keep hL1 bW) (by omega))
    rw [woF_take HV.out.2.2.2.1] at y2
    have H1 := Lib.hid (And.intro (b1.trans (bW.mono b1.size)) (And.intro oW (And.intro (o1.past bW o1.inside) (And.intro hh (And.intro hg ho)))))
    have er : Hid (renF l xn xt = withF (takeF l xn) ⟨xt, f.d⟩) := Lib.hid (by unfold renF; rw [if_pos hh, ho]; rfl)
    have hwt := szF_take_le (n := xn) HV.out.2.2.2.1
    have hwl := len_take (l := l) (n := xn)
    have hwe := wtF_eq l
    have hwm := wtF_eq (takeF l xn)
    have hms := Lib.hid (sorted_take (n := xn) HV.out.2.2.2.1)
    clear hno hx hfn hh hg ho hxs hL1 bW sW oW b1 o1 hB d2
    generalize takeF l xn = m at *
    go_upto_region 10 with fail
    rw [← hW]
    clear hW x0 x1 d1
    have d1 := H1.out.2.2.1.at_ 1
    simp only [Wr.cells, List.getElem?_cons_zero, List.getElem?_cons_succ] at d1
    go_wp2_with fail
    refine y2.out.mono ?_
    rintro _ w2 ⟨v2, rfl, ho2, b2⟩
    obtain ⟨A2, c2, rfl, _, l2⟩ := ret_row ho2
    have o2 := H1.out.2.2.1.past b2 H1.out.2.2.1.inside
    have oF := H1.out.2.1.past b2 H1.out.2.1.inside
    clear d0 d1
    have d0 := o2.at_ 0
    have d2 := o2.at_ 2
    have f0 := oF.open_ 0
    have c0 := oF.at_ 0
    simp only [Wr.cells, Fl.cells, List.getElem?_cons_zero, List.getElem?_cons_succ] at d0 d2 c0
    have hbw : Below V.heap.size V w2 := H1.out.1.trans (b2.mono H1.out.1.size)
    rcases HV.out.2.2.2.2 with hk | hk
    · subst hk
      have t3 : ((2 : Int) == 3) = false := by decide
      obtain ⟨X, hX⟩ : ∃ X, X = w2.setCell ⟨w1.heap.size, 0, none⟩ (.string xt) := ⟨_, rfl⟩
      have oX := oF.set_ 0 (.string xt)
      rw [← hX] at oX
      have kX : Kept w2 X (fun b => b = w1.heap.size) := by rw [hX]; exact (Kept.refl w2 (fun b => b = w1.heap.size)).set_ (g := w1.heap.size) (o := 0) (.inl rfl) _
      have sW1 := H1.out.2.1.inside
      have roX := kX.row ho2 (fun k hk hS => by have := (ho2.lt k hk).1; omega)
      obtain ⟨_, _, eX, _, lX⟩ := ret_row roX
      simp only [Value.slice.injEq] at eX
      obtain ⟨rfl, _, rfl⟩ := eX
      have bX : Below V.heap.size V X := by rw [hX]; exact hbw.setCell (p := ⟨w1.heap.size, 0, none⟩) hb1s _
      have y3 := Lib.hid (with_any A2 c2 m ⟨xt, f.d⟩ X lX hms.out (by omega))
      have g0 := oX.at_ 0
      have g1 := oX.at_ 1
      simp only [Fl.cells, List.set_cons_succ, List.set_cons_zero, List.getElem?_cons_zero, List.getElem?_cons_succ] at g0 g1
      have H3 := Lib.hid (HV.out.1.trans (bX.mono HV.out.1.size))
      unfold Fl.val at y3
      clear kX roX lX bX oX ho2 l2 b2 o2 oF hbw sW1
      go_upto_region 14 with fail
      rw [← hX]
      clear hX d2 c0 f0
      go_wp2_with fail
      refine y3.out.mono ?_
      intro e w4 h4
      obtain ⟨A4, c4, rfl, l4, b4⟩ := tells_of h4
      have H4 := Lib.hid (And.intro l4 (H3.out.trans (b4.mono H3.out.size)))
      clear h4 l4 b4
      go_wp2_with fail
      go_ret
      rw [e2.out (by first | trivial | rfl), er.out]
      exact ⟨A4, c4, rfl, H4.out.1, H4.out.2⟩
    · subst hk
      have t3 : ((3 : Int) == 3) = true := by decide
      have H4 := Lib.hid (And.intro l2 (HV.out.1.trans (hbw.mono HV.out.1.size)))
      clear ho2 l2 b2 o2 oF hbw d2 f0 c0
      go_wp2_with fail
      go_ret
      rw [e3.out (by first | trivial | rfl)]
      exact ⟨A2, c2, rfl, H4.out.1, H4.out.2⟩
  · have t0 : decide ((-1 : Int) < 0) = true := by decide
    obtain ⟨hh, hg⟩ := not_found hno
    have er : Hid (appF l ⟨xk, xn, xt, xd⟩ = l) := Lib.hid (by
      rcases HV.out.2.2.2.2 with hk | hk
      · rw [e2.out hk]; unfold renF; rw [hh]; rfl
      · rw [e3.out hk]; unfold takeF; rw [hh]; rfl)
    have H4 := Lib.hid (And.intro hL1 (HV.out.1.trans (b1.mono HV.out.1.size)))
    clear hno hh hg hL1 b1 o1 d1 d2
    go_wp2_with fail
    go_ret
    rw [er.out]
    exact ⟨A, c, rfl, H4.out.1, H4.out.2⟩
theorem done_any (A : Option Addr) (c : Nat) (l : List Fl) (x : Wr) (w : World) (hl : Lies 2 Fl.cells w w.heap.size A l) (hs : SortedF l) (hk : KindOk x.k) (hn : wtF l + x.d.size ≤ 900000000000) :
    Calls Try.prog 40 #[.slice A l.length c, x.val] w (TellsF w.heap.size (appF l x) w) := by
  rcases hk with hk | hk
  · exact done_app A c l x w hl hs hk hn
  · exact done_rest A c l x w hl hs hk hn
end Go.Proofs.Ytfelpjacccclkaa
namespace Go.Proofs.Ytfelpjacccclkaa
open Go Go.RowKit

theorem wtW_at {ws : List Wr} {k : Nat} {x : Wr} (h : ws[k]? = some x) : wtW (ws.take k) + (2 + x.d.size) ≤ wtW ws := by
  have hlt := (List.getElem?_eq_some_iff.1 h).1
  have e : ws = ws.take k ++ x :: ws.drop (k + 1) := by
    rw [← (List.getElem?_eq_some_iff.1 h).2, ← List.drop_eq_getElem_cons hlt, List.take_append_drop]
  have : wtW ws = wtW (ws.take k) + wtW (x :: ws.drop (k + 1)) := by rw [← wtW_append, ← e]
  unfold wtW at this ⊢
  rw [List.map_cons, List.sum_cons] at this
  omega
theorem sorted_fold : ∀ (ws : List Wr) {l : List Fl}, SortedF l → SortedF (ws.foldl appF l)
  | [], _, h => h
  | _ :: ws, _, h => sorted_fold ws (sorted_app h)
theorem fold_at {ws : List Wr} {l : List Fl} {k : Nat} {x : Wr} (hs : SortedF l) (h : ws[k]? = some x) (hn : wtF l + wtW ws ≤ 900000000000) : wtF ((ws.take k).foldl appF l) + x.d.size ≤ 900000000000 ∧ SortedF ((ws.take k).foldl appF l) ∧ (ws.take (k + 1)).foldl appF l = appF ((ws.take k).foldl appF l) x := by
  have h1 := wtF_look (ws.take k) hs
  have h2 := wtW_at h
  exact ⟨by omega, sorted_fold _ hs, fold_snoc appF ws k x l h⟩
set_option maxRecDepth 100000 in
set_option maxHeartbeats 3200000 in
theorem seen_any (x : Dl) (w : World) (h : DIn w w.heap.size x) (hs : SortedF x.files) (hk : ∀ r ∈ x.waits, KindOk r.k) (hn : wtD x.d ≤ 900000000000) :
    Calls Try.prog 32 #[x.val] w (TellsF w.heap.size (x.waits.foldl appF x.files) w) := by
  obtain ⟨i0, hi, hz0, hz1, hz2⟩ := info_parts infoFl
  have HI := Lib.hid (And.intro Try.underlying22 (And.intro hi (And.intro hz0 (And.intro hz1 hz2))))
  obtain ⟨V, hV, hVb, hVs, oV⟩ := dbox w x
  have iV := h.keep hVb
  have hin := oV.inside
  obtain ⟨d0, d1, d2, d3, d4⟩ := own5 oV
  unfold wtD Dl.d at hn
  dsimp only at hn
  have hfl := len_le_wtF x.files
  have hwl := len_le_wtW x.waits
  have hr0 := Lib.hid (show (V.alloc (.cells #[] 67)).ownsRow V.heap.size 67 2 (.slice (some ⟨V.heap.size, 0, none⟩) 0 0) 0 [] from World.ownsRow_made V #[] 0 (Nat.le_refl _) (Nat.zero_le _) rfl)
  have hL0 := Lib.hid (iV.files.past ((Below.refl _ V).alloc (Nat.le_refl _) (.cells #[] 67)) (Nat.le_refl _))
  have HV := Lib.hid (And.intro hVb (And.intro oV (And.intro iV (And.intro hs hk))))
  unfold Dl.val
  clear h hs hk hi hz0 hz1 hz2 hVb hVs oV iV
  go_enter Try.func32, Try.ntmps32
  go_upto_region 1 with fail
  rw [← hV]
  clear hV
  go_wp2_with (at_builtin; refine wpList_append_lies (l := x.files) _ rfl (.tmp 6) (.tmp 8) 22 67 rfl i0 _ 32 HI.out.1 HI.out.2.1 HI.out.2.2.1 HI.out.2.2.2.1 HI.out.2.2.2.2 rfl (by decide) flc_len fl_one V.heap.size _ _ _ rfl hr0.out x.fc rfl hL0.out ?m1 ?m2 ?m3 ?m4)
  case m1 => unfold maxLen; omega
  case m2 => omega
  case m3 => simp
  case m4 =>
  intro v3 w3 ho3 hb3
  have bV3 := ((Below.refl V.heap.size V).alloc (Nat.le_refl _) (.cells #[] 67)).trans hb3
  obtain ⟨A3, c3, rfl, _, l3⟩ := ret_row ho3
  have o3 := HV.out.2.1.past bV3 HV.out.2.1.inside
  clear d0 d1 d2 d3 d4
  obtain ⟨d0, d1, d2, d3, d4⟩ := own5 o3
  have H3 := Lib.hid (And.intro bV3 (And.intro l3 (HV.out.2.2.1.keep bV3).waits))
  clear bV3 ho3 l3 o3 hb3
  go_wp2_with fail
  clear d0 d1 d2 d3 d4
  go_loopw [3, 13] (fun s i wr => ∃ (k : Nat) (A : Option Addr) (c : Nat), i = .int .i64 (k : Int) ∧ k ≤ x.waits.length ∧ s = .slice A ((x.waits.take k).foldl appF x.files).length c ∧ Lies 2 Fl.cells wr wr.heap.size A ((x.waits.take k).foldl appF x.files) ∧ Below w3.heap.size w3 wr)
    (fun _ i _ => x.waits.length - (intOf i).toNat)
  case atStart => exact ⟨0, A3, c3, rfl, by omega, rfl, H3.out.2.1, Below.refl _ _⟩
  case round =>
    obtain ⟨k, A, c, rfl, hk, rfl, hl, hb⟩ := hrel
    by_cases hlt : k < x.waits.length
    · have hx : x.waits[k]? = some x.waits[k] := List.getElem?_eq_getElem hlt
      obtain ⟨b, o, hA, hB, hxs⟩ := H3.out.2.2 (by omega)
      have c0 := (hb.cell (p := ⟨b, o + k * 4 + 0, none⟩) hB).trans (hxs k _ hx 0 _ rfl)
      have c1 := (hb.cell (p := ⟨b, o + k * 4 + 1, none⟩) hB).trans (hxs k _ hx 1 _ rfl)
      have c2 := (hb.cell (p := ⟨b, o + k * 4 + 2, none⟩) hB).trans (hxs k _ hx 2 _ rfl)
      have c3 := (hb.cell (p := ⟨b, o + k * 4 + 3, none⟩) hB).trans (hxs k _ hx 3 _ rfl)
      obtain ⟨hwt, hso, hsn⟩ := fold_at HV.out.2.2.2.1 hx hn
      have hko := HV.out.2.2.2.2 _ (List.mem_of_getElem? hx)
      have HA := Lib.hid hA
      generalize x.waits[k] = r at *
      simp only [Nat.add_zero] at c0
      obtain ⟨W, hW, bW, sW, oW⟩ := wrbox wr r
      have y := Lib.hid (done_any A c _ r W (lies_keep hl bW) hso hko hwt)
      have g0 := oW.at_ 0
      have g1 := oW.at_ 1
      have g2 := oW.at_ 2
      have g3 := oW.at_ 3
      simp only [Wr.cells, List.getElem?_cons_zero, List.getElem?_cons_succ] at g0 g1 g2 g3
      have HH := Lib.hid (And.intro (hb.trans (bW.mono hb.size)) hsn)
      have q0 : (0 : Int) ≤ (k : Int) := by omega
      have q1 : (k : Int) < (x.waits.length : Int) := by omega
      unfold Wr.val at y
      generalize (x.waits.take k).foldl appF x.files = m at *
      clear hl hb hx hxs hwt hso hsn hko bW sW oW
      rw [hA]
      clear hA
      go_upto_region 5 with fail
      rw [← hW]
      clear hW c0 c1 c2 c3
      go_wp2_with fail
      refine y.out.mono ?_
      rintro _ w4 ⟨A4, c4, rfl, l4, b4⟩
      have H4 := Lib.hid (And.intro l4 (HH.out.1.trans (b4.mono HH.out.1.size)))
      clear l4 b4
      go_wp2_with fail
      go_roundw
      case rel =>
        refine ⟨k + 1, A4, c4, by go_num, by omega, ?_, ?_, H4.out.2⟩
        · rw [HH.out.2]
        · rw [HH.out.2]; exact H4.out.1
      case measure => simp [intOf]; omega
    · have hk2 : k = x.waits.length := by omega
      have HH := Lib.hid (And.intro hb (And.intro hl hk2))
      have hb1 := H3.out.1
      have HE := Lib.hid (HV.out.1.trans ((hb1.trans (hb.mono hb1.size)).mono HV.out.1.size))
      clear hb hl hb1
      have hf : Hid ((x.waits.take k).foldl appF x.files = x.waits.foldl appF x.files) := Lib.hid (by rw [hk2, List.take_length])
      generalize (x.waits.take k).foldl appF x.files = m at *
      clear hk2
      go_wp2_with fail
      go_ret
      rw [← hf.out]
      exact ⟨A, c, rfl, HH.out.2.1, HE.out⟩
end Go.Proofs.Ytfelpjacccclkaa
namespace Go.Proofs.Ytfelpjacccclkaa
open Go Go.RowKit

theorem fold_bare : ∀ (ws : List Wr) {l : List Fl}, SortedF l → ws.foldl (fun a x => appF a (bareW x)) (bareF l) = bareF (ws.foldl appF l)
  | [], _, _ => rfl
  | w :: ws, l, h => by
    rw [List.foldl_cons, List.foldl_cons, bare_app w h]
    exact fold_bare ws (sorted_app h)
theorem sz_bare : ∀ l : List Fl, szF (bareF l) = 0
  | [] => rfl
  | f :: l => by
    show szF (⟨f.n, ⟨#[]⟩⟩ :: bareF l) = 0
    rw [szF_cons, sz_bare l]; rfl
theorem wt_bare (l : List Fl) : wtF (bareF l) = 2 * l.length := by rw [wtF_eq, sz_bare, bare_len]; omega
theorem bare_snoc {l : List Fl} {k : Nat} {f : Fl} (h : l[k]? = some f) : bareF (l.take (k + 1)) = bareF (l.take k) ++ [⟨f.n, ⟨#[]⟩⟩] := by
  have hlt := (List.getElem?_eq_some_iff.1 h).1
  rw [List.take_succ_eq_append_getElem hlt, (List.getElem?_eq_some_iff.1 h).2]
  unfold bareF
  rw [List.map_append]; rfl
/-- what is right of a disk, in the reference's order -/
structure Rt (d : Dk) : Prop where
  room : 0 ≤ d.room
  nf : d.files.length ≤ 256
  nw : d.waits.length ≤ 4096
  fs : okFs d.files = true
  ws : ∀ r ∈ d.waits, rightW r = true
  ns : okN (bareF d.files) d.waits = true
theorem rt_iff (d : Dk) : goodD d = true ↔ Rt d := by
  rw [good_iff]
  constructor
  · rintro ⟨h1, ⟨h2, h3, h4⟩, h5, h6⟩
    rw [okN_eq _ h4, Bool.and_eq_true, List.all_eq_true] at h6
    exact ⟨h1, h2, h5, okFs_iff.2 ⟨h3, h4⟩, h6.1, h6.2⟩
  · rintro ⟨h1, h2, h3, h4, h5, h6⟩
    obtain ⟨k1, k2⟩ := okFs_iff.1 h4
    exact ⟨h1, ⟨h2, k1, k2⟩, h3, by rw [okN_eq _ k2, Bool.and_eq_true, List.all_eq_true]; exact ⟨h5, h6⟩⟩
theorem chk_no {d : Dk} (h : ¬ Rt d) : chkD d = 8 := by unfold chkD; rw [if_neg (fun k => h ((rt_iff d).1 k))]
theorem chk_yes {d : Dk} (h : Rt d) : chkD d = 0 := by unfold chkD; rw [if_pos ((rt_iff d).2 h)]
theorem okN_take : ∀ (ws : List Wr) (k : Nat) (l : List Fl), okN l ws = true → okN l (ws.take k) = true
  | [], k, _, _ => by cases k <;> rfl
  | w :: ws, 0, _, _ => rfl
  | w :: ws, k + 1, l, h => by
    rw [List.take_succ_cons]
    unfold okN at h ⊢
    rw [Bool.and_eq_true] at h ⊢
    exact ⟨h.1, okN_take ws k _ h.2⟩
def RChk (d : Dk) (w : World) (e : Ending) (w' : World) : Prop := e = .returned (.int .i64 (chkD d)) ∧ Below w.heap.size w w'
end Go.Proofs.Ytfelpjacccclkaa
namespace Go.Proofs.Ytfelpjacccclkaa
open Go Go.RowKit

theorem own_str3 {W : World} {g : Nat} {t : TypeId} {a b c d : Value} (h : Own W g t [a, b, c, d]) (u : Value) : ∃ X, X = W.setCell ⟨g, 3, none⟩ u ∧ Own X g t [a, b, c, u] ∧ (∀ B u', Below B u' W → B ≤ g → Below B u' X) :=
  ⟨_, rfl, h.set_ 3 u, fun B u' hb hB => hb.setCell (p := ⟨g, 3, none⟩) hB _⟩
set_option maxRecDepth 100000 in
set_option maxHeartbeats 6400000 in
theorem rcheck_any (x : Dl) (w : World) (h : DIn w w.heap.size x) (hn : wtD x.d ≤ 900000000000) :
    Calls Try.prog 21 #[x.val] w (RChk x.d w) := by
  obtain ⟨i0, hi, hz0, hz1, hz2⟩ := info_parts infoFl
  have HI := Lib.hid (And.intro Try.underlying22 (And.intro hi (And.intro hz0 (And.intro hz1 hz2))))
  obtain ⟨V, hV, hVb, hVs, oV⟩ := dbox w x
  have iV := h.keep hVb
  have hin := oV.inside
  obtain ⟨d0, d1, d2, d3, d4⟩ := own5 oV
  have hn' := hn
  unfold wtD Dl.d at hn'
  dsimp only at hn'
  have hfl := len_le_wtF x.files
  have hwl := len_le_wtW x.waits
  have HV := Lib.hid (And.intro hVb (And.intro oV iV))
  have y1 := Lib.hid rname_any
  have y2 := Lib.hid rrightW_any
  have hbad := Lib.hid (fun (hr : ¬ Rt x.d) => chk_no hr)
  have hgood := Lib.hid (fun (hr : Rt x.d) => chk_yes hr)
  unfold Dl.val
  clear h hi hz0 hz1 hz2 hVb hVs oV iV hn
  by_cases hnf : 256 < x.files.length
  · have t1 : decide ((256 : Int) < (x.files.length : Int)) = true := decide_eq_true (by omega)
    have hc := Lib.hid (hbad.out fun hr => by have := hr.nf; unfold Dl.d at this; dsimp only at this; omega)
    clear hnf
    go_enter Try.func21, Try.ntmps21
    go_upto_region 1 with fail
    rw [← hV]
    clear hV
    go_wp2_with fail
    go_ret
    exact ⟨by rw [hc.out]; rfl, HV.out.1⟩
  have t1 : decide ((256 : Int) < (x.files.length : Int)) = false := decide_eq_false (by omega)
  by_cases hnw : 4096 < x.waits.length
  · have t2 : decide ((4096 : Int) < (x.waits.length : Int)) = true := decide_eq_true (by omega)
    have hc := Lib.hid (hbad.out fun hr => by have := hr.nw; unfold Dl.d at this; dsimp only at this; omega)
    clear hnf hnw
    go_enter Try.func21, Try.ntmps21
    go_upto_region 1 with fail
    rw [← hV]
    clear hV
    go_wp2_with fail
    go_ret
    exact ⟨by rw [hc.out]; rfl, HV.out.1⟩
  have t2 : decide ((4096 : Int) < (x.waits.length : Int)) = false := decide_eq_false (by omega)
  by_cases hrm : x.room < 0
  · have t3 : decide (x.room < 0) = true := decide_eq_true hrm
    have hc := Lib.hid (hbad.out fun hr => by have := hr.room; unfold Dl.d at this; dsimp only at this; omega)
    clear hnf hnw hrm
    go_enter Try.func21, Try.ntmps21
    go_upto_region 1 with fail
    rw [← hV]
    clear hV
    go_wp2_with fail
    go_ret
    exact ⟨by rw [hc.out]; rfl, HV.out.1⟩
  have t3 : decide (x.room < 0) = false := decide_eq_false hrm
  have HR := Lib.hid (And.intro (show 0 ≤ x.room by omega) (And.intro (show x.files.length ≤ 256 by omega) (show x.waits.length ≤ 4096 by omega)))
  have hl4 : x.waits.length ≤ 4096 := by omega
  have hl2 : x.files.length ≤ 256 := by omega
  clear hnf hnw hrm hfl hwl
  go_enter Try.func21, Try.ntmps21
  go_upto_region 1 with fail
  rw [← hV]
  clear hV
  go_wp2_with fail
  clear d0 d1 d2 d3 d4 t1 t2 t3
  go_loopw [30] (fun i wr => ∃ k : Nat, i = .int .i64 (k : Int) ∧ k ≤ x.files.length ∧ okFs (x.files.take k) = true ∧ Below V.heap.size V wr) (fun i _ => x.files.length - (intOf i).toNat)
  case atStart => exact ⟨0, rfl, by omega, rfl, Below.refl _ _⟩
  case round =>
    obtain ⟨k, rfl, hk, hok, hb⟩ := hrel
    by_cases hlt : k < x.files.length
    · have hx : x.files[k]? = some x.files[k] := List.getElem?_eq_getElem hlt
      obtain ⟨b, o, hA, hB, hxs⟩ := HV.out.2.2.files (by omega)
      have x0 := (hb.cell (p := ⟨b, o + k * 2 + 0, none⟩) hB).trans (hxs k _ hx 0 _ rfl)
      have x1 := (hb.cell (p := ⟨b, o + k * 2 + 1, none⟩) hB).trans (hxs k _ hx 1 _ rfl)
      have hbadF : okFs (x.files.take (k + 1)) = false → chkD x.d = 8 := fun hf => hbad.out fun hr => by
        have h1 := okFs_bad hf
        rw [show x.files = x.d.files from rfl, hr.fs] at h1
        cases h1
      have hprev : ∀ j, k = j + 1 → ∃ g : Fl, wr.cell? ⟨b, o + j * 2, none⟩ = some (.string g.n) ∧ okFs (x.files.take (k + 1)) = (rightN (x.files[k]).n && decide (cmpN g.n (x.files[k]).n < 0)) := fun j hj => by
        have hjl : j < x.files.length := by omega
        have hxj : x.files[j]? = some x.files[j] := List.getElem?_eq_getElem hjl
        refine ⟨x.files[j], (hb.cell (p := ⟨b, o + j * 2 + 0, none⟩) hB).trans (hxs j _ hxj 0 _ rfl), ?_⟩
        subst hj
        exact okFs_next hx hxj hok
      have hzero : k = 0 → okFs (x.files.take (k + 1)) = rightN (x.files[k]).n := fun hz => by subst hz; exact okFs_zero hx
      generalize x.files[k] = f at *
      obtain ⟨W, hW, bW, sW, oW⟩ := flbox wr f
      have f0 := oW.at_ 0
      have f1 := oW.at_ 1
      simp only [Fl.cells, List.getElem?_cons_zero, List.getElem?_cons_succ, Nat.add_zero] at f0 f1 x0 x1
      have bVW := hb.trans (bW.mono hb.size)
      have HX := Lib.hid (And.intro (HV.out.1.trans (bVW.mono HV.out.1.size)) (And.intro hbadF bVW))
      have z1 : Hid (∀ W, Calls Try.prog 38 #[.string f.n] W fun e w' => e = .returned (.bool (rightN f.n)) ∧ w' = W) := Lib.hid (fun W => (y1.out f.n W).mono fun _ _ ⟨h, k⟩ => ⟨h, k.symm⟩)
      have hBW : b < wr.heap.size := by have := hb.size; omega
      obtain ⟨d0, d1, d2, d3, d4⟩ := own5 (HV.out.2.1.past bVW HV.out.2.1.inside)
      rw [hA] at d0 ⊢
      clear hxs hx hok hb oW sW bVW hA
      generalize rightN f.n = r at *
      go_upto_region 6 with fail
      rw [← hW]
      clear hW x0 x1
      have q9 : (k : Int) + 1 < 9223372036854775808 := by omega
      by_cases hz : k = 0
      · have hq := Lib.hid (hzero hz)
        have t2 : decide (0 < k) = false := by simp; omega
        clear hprev hzero hbadF hz
        cases r
        · go_quiet ((go_at_call 38; exact Calls.quiet_of_same (z1.out _)))
          go_wp2_with fail
          go_ret
          exact ⟨by rw [HX.out.2.1 hq.out]; rfl, below_draws HX.out.1 _⟩
        · refine wp_region_quiet_lit (by kernel_rfl) (by kernel_rfl) ?_
          repeat (first | go_big_quiet_step ((go_at_call 38; exact Calls.quiet_of_same (z1.out _))) | quiet_step ((go_at_call 38; exact Calls.quiet_of_same (z1.out _))))
          refine wpQuiet_nil ?_
          intro _ hw'
          obtain ⟨nq, hw''⟩ := hw'
          subst hw''
          go_wp2_with fail
          go_roundw
          case rel => exact ⟨k + 1, by go_num, by omega, hq.out, below_draws HX.out.2.2 _⟩
          case measure => simp [intOf]; omega
      · obtain ⟨j, hj⟩ : ∃ j, k = j + 1 := ⟨k - 1, by omega⟩
        obtain ⟨g, g0, hq⟩ := hprev j hj
        have hq2 := Lib.hid hq
        have t2 : decide ((0 : Int) < (k : Int)) = true := by simp; omega
        have t3 := less_cmp g.n f.n
        have g1 := (bW.cell (p := ⟨b, o + j * 2, none⟩) hBW).trans g0
        have hjl : j < x.files.length := by omega
        subst hj
        clear hprev hzero hbadF hz hq g0
        generalize decide (cmpN g.n f.n < 0) = q at *
        cases r
        · go_quiet ((go_at_call 38; exact Calls.quiet_of_same (z1.out _)))
          go_wp2_with fail
          go_ret
          exact ⟨by rw [HX.out.2.1 hq2.out]; rfl, below_draws HX.out.1 _⟩
        · cases q
          · go_quiet ((go_at_call 38; exact Calls.quiet_of_same (z1.out _)))
            go_wp2_with fail
            go_ret
            exact ⟨by rw [HX.out.2.1 hq2.out]; rfl, below_draws HX.out.1 _⟩
          · go_quiet ((go_at_call 38; exact Calls.quiet_of_same (z1.out _)))
            go_wp2_with fail
            go_roundw
            case rel => exact ⟨j + 1 + 1, by go_num, by omega, hq2.out, below_draws HX.out.2.2 _⟩
            case measure => simp [intOf]; omega
    · have hk2 : k = x.files.length := by omega
      subst hk2
      rw [List.take_length] at hok
      have HA := Lib.hid (And.intro hok hb)
      obtain ⟨V1, hV1⟩ : ∃ V1, V1 = wr := ⟨_, rfl⟩
      subst hV1
      obtain ⟨d0, d1, d2, d3, d4⟩ := own5 (HV.out.2.1.past hb HV.out.2.1.inside)
      have hkl := hk
      clear hok hb hk hlt
      go_wp2_with fail
      clear d0 d1 d2 d3 d4
      go_loopw [59] (fun i w2 => ∃ k : Nat, i = .int .i64 (k : Int) ∧ k ≤ x.waits.length ∧ (∀ r ∈ x.waits.take k, rightW r = true) ∧ Below V1.heap.size V1 w2) (fun i _ => x.waits.length - (intOf i).toNat)
      case atStart => exact ⟨0, rfl, by omega, (fun r hr => by cases hr), Below.refl _ _⟩
      case round =>
        obtain ⟨k, rfl, hk, hws, hb⟩ := hrel
        have hbV := HA.out.2.trans (hb.mono HA.out.2.size)
        by_cases hlt : k < x.waits.length
        · have hx : x.waits[k]? = some x.waits[k] := List.getElem?_eq_getElem hlt
          obtain ⟨b, o, hwA, hB, hxs⟩ := HV.out.2.2.waits (by omega)
          have x0 := (hbV.cell (p := ⟨b, o + k * 4 + 0, none⟩) hB).trans (hxs k _ hx 0 _ rfl)
          have x1 := (hbV.cell (p := ⟨b, o + k * 4 + 1, none⟩) hB).trans (hxs k _ hx 1 _ rfl)
          have x2 := (hbV.cell (p := ⟨b, o + k * 4 + 2, none⟩) hB).trans (hxs k _ hx 2 _ rfl)
          have x3 := (hbV.cell (p := ⟨b, o + k * 4 + 3, none⟩) hB).trans (hxs k _ hx 3 _ rfl)
          have hmem := List.mem_of_getElem? hx
          have htk : ∀ q ∈ x.waits.take (k + 1), q ∈ x.waits.take k ∨ q = x.waits[k] := fun q hq => by
            rw [List.take_succ_eq_append_getElem hlt] at hq
            rcases List.mem_append.1 hq with h | h
            · exact .inl h
            · exact .inr (by simpa using h)
          generalize x.waits[k] = r at *
          obtain ⟨W, hW, bW, sW, oW⟩ := wrbox wr r
          have f0 := oW.at_ 0
          have f1 := oW.at_ 1
          have f2 := oW.at_ 2
          have f3 := oW.at_ 3
          simp only [Wr.cells, List.getElem?_cons_zero, List.getElem?_cons_succ, Nat.add_zero] at f0 f1 f2 f3 x0
          have z := Lib.hid (y2.out r W)
          have q0 : (0 : Int) ≤ (k : Int) := by omega
          have q1 : (k : Int) < (x.waits.length : Int) := by omega
          have bW1 := hb.trans (bW.mono hb.size)
          have bWV := hbV.trans (bW.mono hbV.size)
          have HX := Lib.hid (And.intro (HV.out.1.trans (bWV.mono HV.out.1.size)) (And.intro bW1 (And.intro hws (And.intro hmem htk))))
          have Hw := Lib.hid hwA
          unfold Wr.val at z
          rw [hwA]
          clear hws hb hbV hx hxs hmem htk bW sW oW bW1 bWV hwA
          cases hr : rightW r
          · rw [hr] at z
            have hc := Lib.hid (hbad.out fun hR => by
              have := hR.ws r HX.out.2.2.2.1
              rw [hr] at this; cases this)
            clear hr
            go_upto_region 12 with fail
            rw [← hW]
            clear hW x0 x1 x2 x3
            go_wp2_with fail
            refine z.out.mono ?_
            rintro _ w3 ⟨rfl, b3⟩
            have H3 := Lib.hid (HX.out.1.trans (b3.mono HX.out.1.size))
            clear b3
            go_wp2_with fail
            go_ret
            exact ⟨by rw [hc.out]; rfl, H3.out⟩
          · rw [hr] at z
            have hr' := Lib.hid hr
            clear hr
            go_upto_region 12 with fail
            rw [← hW]
            clear hW x0 x1 x2 x3
            go_wp2_with fail
            refine z.out.mono ?_
            rintro _ w3 ⟨rfl, b3⟩
            have H3 := Lib.hid (HX.out.2.1.trans (b3.mono HX.out.2.1.size))
            clear b3
            go_wp2_with fail
            go_roundw
            case rel =>
              refine ⟨k + 1, by go_num, by omega, fun q hq => ?_, H3.out⟩
              rcases HX.out.2.2.2.2 q hq with h | h
              · exact HX.out.2.2.1 q h
              · rw [h]; exact hr'.out
            case measure => simp [intOf]; omega
        · have hk2 : k = x.waits.length := by omega
          subst hk2
          rw [List.take_length] at hws
          have HB := Lib.hid (And.intro hws hbV)
          obtain ⟨V2, hV2⟩ : ∃ V2, V2 = wr := ⟨_, rfl⟩
          subst hV2
          obtain ⟨d0, d1, d2, d3, d4⟩ := own5 (HV.out.2.1.past hbV HV.out.2.1.inside)
          clear hws hb hbV hk hlt
          go_wp2_with fail
          clear d0 d1 d2 d3 d4
          go_loopw [7, 70] (fun v i w3 => ∃ k : Nat, i = .int .i64 (k : Int) ∧ k ≤ x.files.length ∧ w3.ownsRow V2.heap.size 67 2 v k ((bareF (x.files.take k)).flatMap Fl.cells) ∧ Below V2.heap.size V2 w3) (fun _ i _ => x.files.length - (intOf i).toNat)
          case atStart => exact ⟨0, rfl, by omega, World.ownsRow_nil _ _ _ _, Below.refl _ _⟩
          case round =>
            obtain ⟨k, rfl, hk, hown, hb⟩ := hrel
            have hbV := HB.out.2.trans (hb.mono HB.out.2.size)
            by_cases hlt : k < x.files.length
            · have hx : x.files[k]? = some x.files[k] := List.getElem?_eq_getElem hlt
              obtain ⟨b, o, hA, hB, hxs⟩ := HV.out.2.2.files (by omega)
              have x0 := (hbV.cell (p := ⟨b, o + k * 2 + 0, none⟩) hB).trans (hxs k _ hx 0 _ rfl)
              have x1 := (hbV.cell (p := ⟨b, o + k * 2 + 1, none⟩) hB).trans (hxs k _ hx 1 _ rfl)
              have hsn := bare_snoc hx
              generalize x.files[k] = f at *
              obtain ⟨W, hW, bW, sW, oW⟩ := flbox wr f
              have f0 := oW.at_ 0
              have f1 := oW.at_ 1
              simp only [Fl.cells, List.getElem?_cons_zero, List.getElem?_cons_succ, Nat.add_zero] at f0 f1 x0
              have ho2 := Lib.hid (own_below (own_below hown bW) ((Below.refl _ _).alloc (Nat.le_refl _) (.cells #[.string f.n, .string ⟨#[]⟩] 67)))
              have hLf := Lib.hid (fl_made W ⟨f.n, ⟨#[]⟩⟩)
              have HX := Lib.hid (And.intro (hb.trans (bW.mono hb.size)) hsn)
              have hbz := (hb.trans (bW.mono hb.size)).size
              have q0 : (0 : Int) ≤ (k : Int) := by omega
              have q1 : (k : Int) < (x.files.length : Int) := by omega
              rw [hA]
              clear hown hb hbV hx hxs hsn bW sW oW hA
              go_upto_region 19 with fail
              rw [← hW]
              clear hW x0 x1
              go_wp2_with (at_builtin; refine wpList_append_lies (l := [Fl.mk f.n ⟨#[]⟩]) _ rfl (.tmp 74) (.tmp 78) 22 67 rfl i0 _ 32 HI.out.1 HI.out.2.1 HI.out.2.2.1 HI.out.2.2.2.1 HI.out.2.2.2.2 rfl (by decide) flc_len fl_one V2.heap.size _ _ _ rfl ho2.out 1 rfl hLf.out ?m1 ?m2 ?m3 ?m4)
              case m1 => unfold maxLen; first | omega | (simp; omega)
              case m2 => first | omega | (simp; omega)
              case m3 => first | omega | (simp; omega)
              case m4 =>
              intro v3 w3 ho3 hb3
              have H3 := Lib.hid (And.intro ho3 (((HX.out.1.alloc HX.out.1.size _)).trans hb3))
              clear ho3 hb3 hbz
              go_wp2_with fail
              go_roundw
              case rel =>
                refine ⟨k + 1, by go_num, by omega, ?_, H3.out.2⟩
                rw [HX.out.2, List.flatMap_append]; exact H3.out.1
              case measure => simp [intOf]; omega
            · have hk2 : k = x.files.length := by omega
              subst hk2
              rw [List.take_length] at hown
              have hbl := bare_len x.files
              rw [← hbl] at hown
              obtain ⟨A3, c3, rfl, _, l3⟩ := ret_row hown
              rw [hbl]
              obtain ⟨V3, hV3⟩ : ∃ V3, V3 = wr := ⟨_, rfl⟩
              subst hV3
              have hso : SortedF x.files := (okFs_iff.1 HA.out.1).2
              have HC := Lib.hid (And.intro hbV (And.intro l3 hso))
              obtain ⟨d0, d1, d2, d3, d4⟩ := own5 (HV.out.2.1.past hbV HV.out.2.1.inside)
              clear hown hb hbV l3 hk hlt hbl hso
              go_wp2_with fail
              clear d0 d1 d2 d3 d4
              go_loopw [7, 84] (fun v i w4 => ∃ (k : Nat) (A : Option Addr) (c : Nat), i = .int .i64 (k : Int) ∧ k ≤ x.waits.length ∧ v = .slice A (bareF ((x.waits.take k).foldl appF x.files)).length c ∧ Lies 2 Fl.cells w4 w4.heap.size A (bareF ((x.waits.take k).foldl appF x.files)) ∧ (bareF ((x.waits.take k).foldl appF x.files)).length ≤ 256 ∧ okN (bareF x.files) (x.waits.take k) = true ∧ Below V3.heap.size V3 w4)
                (fun _ i _ => x.waits.length - (intOf i).toNat)
              case atStart => exact ⟨0, A3, c3, rfl, by omega, by rw [List.take_zero, List.foldl_nil, bare_len], HC.out.2.1, by rw [List.take_zero, List.foldl_nil, bare_len]; exact hl2, rfl, Below.refl _ _⟩
              case round =>
                obtain ⟨k, A, c, rfl, hk, rfl, hl, hlen, hns, hb⟩ := hrel
                have hbV := HC.out.1.trans (hb.mono HC.out.1.size)
                by_cases hlt : k < x.waits.length
                · have hx : x.waits[k]? = some x.waits[k] := List.getElem?_eq_getElem hlt
                  obtain ⟨b, o, hwA, hB, hxs⟩ := HV.out.2.2.waits (by omega)
                  have x0 := (hbV.cell (p := ⟨b, o + k * 4 + 0, none⟩) hB).trans (hxs k _ hx 0 _ rfl)
                  have x1 := (hbV.cell (p := ⟨b, o + k * 4 + 1, none⟩) hB).trans (hxs k _ hx 1 _ rfl)
                  have x2 := (hbV.cell (p := ⟨b, o + k * 4 + 2, none⟩) hB).trans (hxs k _ hx 2 _ rfl)
                  have x3 := (hbV.cell (p := ⟨b, o + k * 4 + 3, none⟩) hB).trans (hxs k _ hx 3 _ rfl)
                  have hrW := HB.out.1 _ (List.mem_of_getElem? hx)
                  have hsf := sorted_fold (x.waits.take k) HC.out.2.2
                  have hfo := fold_snoc appF x.waits k _ x.files hx
                  have hba := bare_app x.waits[k] hsf
                  have hos := okN_snoc x.waits k _ (bareF x.files) hx
                  rw [fold_bare _ HC.out.2.2, hns, Bool.true_and] at hos
                  have hwt := wt_bare ((x.waits.take k).foldl appF x.files)
                  have hbs := bare_sorted hsf
                  rw [bare_len] at hlen
                  generalize x.waits[k] = r at *
                  obtain ⟨W, hW, bW, sW, oW⟩ := wrbox wr r
                  obtain ⟨X, hX, oX, bX⟩ := own_str3 oW (.string ⟨#[]⟩)
                  have bWX : Below wr.heap.size wr X := bX _ _ bW (Nat.le_refl _)
                  have f3 := oW.at_ 3
                  have g3 := oW.open_ 3
                  have f0 := oX.at_ 0
                  have f1 := oX.at_ 1
                  have f2 := oX.at_ 2
                  have f4 := oX.at_ 3
                  simp only [Wr.cells, List.getElem?_cons_zero, List.getElem?_cons_succ, Nat.add_zero] at f0 f1 f2 f3 f4 x0
                  have z := Lib.hid (done_any A c _ (bareW r) X (lies_keep hl bWX) hbs (show KindOk r.k from kind_ok hrW) (by rw [hwt]; show 2 * _ + 0 ≤ _; omega))
                  rw [hba] at z
                  have q0 : (0 : Int) ≤ (k : Int) := by omega
                  have q1 : (k : Int) < (x.waits.length : Int) := by omega
                  have bXV := hbV.trans (bWX.mono hbV.size)
                  rw [hba, bare_len] at hos
                  have HX := Lib.hid (And.intro (HV.out.1.trans (bXV.mono HV.out.1.size)) (And.intro (hb.trans (bWX.mono hb.size)) (And.intro hfo hos)))
                  have hbl := bare_len (appF ((x.waits.take k).foldl appF x.files) r)
                  unfold bareW Wr.val at z
                  (try dsimp only at z)
                  have Hx := Lib.hid hx
                  rw [hwA]
                  clear hl hlen hns hb hbV hx hxs hrW hsf hfo hos hba hwt hbs bW sW oW bX bWX oX bXV hwA
                  generalize (x.waits.take k).foldl appF x.files = m at *
                  obtain ⟨M, hM⟩ : ∃ M, bareF (appF m r) = M := ⟨_, rfl⟩
                  rw [hM] at z hbl
                  have HM := Lib.hid (And.intro hM hbl)
                  have t9 := Lib.hid hbl
                  by_cases hc : (appF m r).length ≤ 256
                  · have t1 : decide ((256 : Int) < (M.length : Int)) = false := decide_eq_false (by omega)
                    have HT := Lib.hid hc
                    clear hM hbl hc
                    go_upto_region 24 with fail
                    rw [← hW]
                    clear hW x0 x1 x2 x3
                    go_upto_region 25 with fail
                    rw [← hX]
                    clear hX f3 g3
                    go_wp2_with fail
                    refine z.out.mono ?_
                    rintro _ w5 ⟨A5, c5, rfl, l5, b5⟩
                    have H5 := Lib.hid (And.intro l5 (HX.out.2.1.trans (b5.mono HX.out.2.1.size)))
                    clear l5 b5
                    go_wp2_with fail
                    go_roundw
                    case rel =>
                      refine ⟨k + 1, A5, c5, by go_num, by omega, ?_, ?_, ?_, ?_, H5.out.2⟩
                      · rw [HX.out.2.2.1, HM.out.1]
                      · rw [HX.out.2.2.1, HM.out.1]; exact H5.out.1
                      · rw [HX.out.2.2.1, bare_len]; exact HT.out
                      · rw [HX.out.2.2.2]; exact decide_eq_true HT.out
                    case measure => simp [intOf]; omega
                  · have t1 : decide ((256 : Int) < (M.length : Int)) = true := decide_eq_true (by omega)
                    have hbd := Lib.hid (hbad.out fun hR => by
                      have h1 := okN_take x.waits (k + 1) _ hR.ns
                      have h2 := HX.out.2.2.2
                      rw [show x.d.files = x.files from rfl] at h1
                      rw [h1] at h2
                      exact hc (of_decide_eq_true h2.symm))
                    clear hM hbl hc
                    go_upto_region 24 with fail
                    rw [← hW]
                    clear hW x0 x1 x2 x3
                    go_upto_region 25 with fail
                    rw [← hX]
                    clear hX f3 g3
                    go_wp2_with fail
                    refine z.out.mono ?_
                    rintro _ w5 ⟨A5, c5, rfl, l5, b5⟩
                    have H5 := Lib.hid (HX.out.1.trans (b5.mono HX.out.1.size))
                    clear l5 b5
                    go_wp2_with fail
                    go_ret
                    exact ⟨by rw [hbd.out]; rfl, H5.out⟩
                · have hk2 : k = x.waits.length := by omega
                  have hgd := Lib.hid (hgood.out ⟨HR.out.1, HR.out.2.1, HR.out.2.2, HA.out.1, HB.out.1, by
                    rw [hk2, List.take_length] at hns; exact hns⟩)
                  have H5 := Lib.hid (HV.out.1.trans (hbV.mono HV.out.1.size))
                  clear hl hlen hns hb hbV hk2
                  go_wp2_with fail
                  go_ret
                  exact ⟨by rw [hgd.out]; rfl, H5.out⟩
end Go.Proofs.Ytfelpjacccclkaa
namespace Go.Proofs.Ytfelpjacccclkaa
open Go Go.RowKit

structure GoodK (x : Dl) : Prop where
  good : goodD x.d = true
  sorted : SortedF x.files
  kinds : ∀ r ∈ x.waits, KindOk r.k
  seen_ : seen x.d = x.waits.foldl appF x.files
theorem good_k {x : Dl} (h : goodD x.d = true) : GoodK x := by
  have hr := (rt_iff x.d).1 h
  exact ⟨h, (okFs_iff.1 hr.fs).2, fun r hrm => kind_ok (hr.ws r hrm), seen_good h⟩
theorem d_room (x : Dl) : x.d.room = x.room ∧ x.d.down = x.down ∧ x.d.fuse = x.fuse ∧ x.d.waits = x.waits ∧ x.d.files = x.files := ⟨rfl, rfl, rfl, rfl, rfl⟩
def SeesF (m : List Fl) (n : Int) (w : World) (e : Ending) (w' : World) : Prop := ∃ (A : Option Addr) (c : Nat), e = .returned (.tuple #[.slice A m.length c, .int .i64 n]) ∧ Lies 2 Fl.cells w' w'.heap.size A m ∧ Below w.heap.size w w'
set_option maxRecDepth 100000 in
set_option maxHeartbeats 3200000 in
theorem rsee_any (x : Dl) (w : World) (h : DIn w w.heap.size x) (hn : wtD x.d ≤ 900000000000) :
    Calls Try.prog 16 #[x.val] w (SeesF (seeD x.d).1 (seeD x.d).2 w) := by
  obtain ⟨V, hV, hVb, hVs, oV⟩ := dbox w x
  have iV := h.keep hVb
  obtain ⟨d0, d1, d2, d3, d4⟩ := own5 oV
  have y1 := Lib.hid (rcheck_any x V iV hn)
  have HV := Lib.hid (And.intro hVb (And.intro oV iV))
  clear h hVb hVs oV iV
  cases hg : goodD x.d
  · have hc := Lib.hid (show chkD x.d = 8 by unfold chkD; rw [hg]; rfl)
    have hs := Lib.hid (show seeD x.d = ([], 8) by unfold seeD; rw [hg]; rfl)
    rw [hs.out]
    unfold Dl.val at y1 ⊢
    clear hg
    go_enter Try.func16, Try.ntmps16
    go_upto_region 1 with fail
    rw [← hV]
    clear hV
    go_wp2_with fail
    refine y1.out.mono ?_
    rintro _ w1 ⟨rfl, b1⟩
    rw [hc.out]
    have H1 := Lib.hid (HV.out.1.trans (b1.mono HV.out.1.size))
    clear b1
    go_wp2_with fail
    go_ret2
    exact ⟨none, 0, rfl, Lies.nil_, H1.out⟩
  · have hc := Lib.hid (show chkD x.d = 0 by unfold chkD; rw [hg]; rfl)
    have hs := Lib.hid (show seeD x.d = (if x.down then ([], 7) else (seen x.d, 0)) by unfold seeD; rw [hg]; rfl)
    have hk := good_k hg
    have y2 := Lib.hid (fun (W : World) (hb : Below V.heap.size V W) => seen_any x W (HV.out.2.2.keep hb) hk.sorted hk.kinds hn)
    have he := Lib.hid hk.seen_
    unfold Dl.val at y1 y2 ⊢
    clear hg hk
    cases hd : x.down
    · have hs2 : Hid (seeD x.d = (seen x.d, 0)) := Lib.hid (by rw [hs.out, hd]; rfl)
      have Hd := Lib.hid hd
      rw [hs2.out]
      rw [hd] at y1 hV d3
      clear hd
      go_enter Try.func16, Try.ntmps16
      go_upto_region 1 with fail
      rw [← hV]
      clear hV
      go_wp2_with fail
      refine y1.out.mono ?_
      rintro _ w1 ⟨rfl, b1⟩
      rw [hc.out]
      have o1 := HV.out.2.1.past b1 HV.out.2.1.inside
      have y3 := Lib.hid (y2.out w1 b1)
      have H1 := Lib.hid (HV.out.1.trans (b1.mono HV.out.1.size))
      clear d0 d1 d2 d3 d4
      obtain ⟨d0, d1, d2, d3, d4⟩ := own5 o1
      rw [Hd.out] at d3 y3
      clear o1 b1
      go_wp2_with fail
      refine y3.out.mono ?_
      rintro _ w2 ⟨A2, c2, rfl, l2, b2⟩
      have H2 := Lib.hid (And.intro l2 (H1.out.trans (b2.mono H1.out.size)))
      clear l2 b2
      go_wp2_with fail
      go_ret2
      rw [he.out]
      exact ⟨A2, c2, rfl, H2.out.1, H2.out.2⟩
    · have hs2 : Hid (seeD x.d = ([], 7)) := Lib.hid (by rw [hs.out, hd]; rfl)
      have Hd := Lib.hid hd
      rw [hs2.out]
      rw [hd] at y1 hV d3
      clear hd
      go_enter Try.func16, Try.ntmps16
      go_upto_region 1 with fail
      rw [← hV]
      clear hV
      go_wp2_with fail
      refine y1.out.mono ?_
      rintro _ w1 ⟨rfl, b1⟩
      rw [hc.out]
      have o1 := HV.out.2.1.past b1 HV.out.2.1.inside
      have H1 := Lib.hid (HV.out.1.trans (b1.mono HV.out.1.size))
      clear d0 d1 d2 d3 d4
      obtain ⟨d0, d1, d2, d3, d4⟩ := own5 o1
      rw [Hd.out] at d3
      clear o1 b1
      go_wp2_with fail
      go_ret2
      exact ⟨none, 0, rfl, Lies.nil_, H1.out⟩
set_option maxRecDepth 100000 in
set_option maxHeartbeats 3200000 in
theorem rread_any (x : Dl) (n : ByteArray) (w : World) (h : DIn w w.heap.size x) (hn : wtD x.d ≤ 900000000000) :
    Calls Try.prog 18 #[x.val, .string n] w fun e w' => e = .returned (.tuple #[.string (readD x.d n).1, .int .i64 (readD x.d n).2]) ∧ Below w.heap.size w w' := by
  obtain ⟨V, hV, hVb, hVs, oV⟩ := dbox w x
  have iV := h.keep hVb
  obtain ⟨d0, d1, d2, d3, d4⟩ := own5 oV
  have y1 := Lib.hid (rsee_any x V iV hn)
  have HV := Lib.hid hVb
  have hr : Hid (readD x.d n = if (seeD x.d).2 = 0 then readF (seeD x.d).1 n else (⟨#[]⟩, (seeD x.d).2)) := Lib.hid (by
    unfold readD seeD
    by_cases hg : goodD x.d = true
    · rw [if_pos hg, if_pos hg]
      by_cases hd : x.d.down = true
      · rw [if_pos hd, if_pos hd]; rfl
      · rw [if_neg hd, if_neg hd]; rfl
    · rw [if_neg hg, if_neg hg]; rfl)
  have hso : (seeD x.d).2 = 0 → SortedF (seeD x.d).1 ∧ wtF (seeD x.d).1 ≤ wtD x.d := fun h0 => by
    unfold seeD at h0 ⊢
    by_cases hg : goodD x.d = true
    · rw [if_pos hg] at h0 ⊢
      by_cases hd : x.d.down = true
      · rw [if_pos hd] at h0; simp at h0
      · rw [if_neg hd]; exact ⟨seen_sorted hg, wtF_seen hg⟩
    · rw [if_neg hg] at h0; simp at h0
  have HS := Lib.hid hso
  generalize (seeD x.d).1 = m at *
  generalize (seeD x.d).2 = E at *
  unfold Dl.val at y1 ⊢
  clear h hVb hVs oV iV hso
  by_cases hE : E = 0
  · subst hE
    have hs := HS.out rfl
    have hr2 : Hid (readD x.d n = readF m n) := Lib.hid (by rw [hr.out]; rfl)
    have hml := len_le_wtF m
    have hmn : m.length ≤ 1099511627776 := by omega
    have HM := Lib.hid hs.1
    clear hs hml
    go_enter Try.func18, Try.ntmps18
    go_upto_region 1 with fail
    rw [← hV]
    clear hV
    go_wp2_with fail
    refine y1.out.mono ?_
    rintro _ w1 ⟨A1, c1, rfl, l1, b1⟩
    have y2 := Lib.hid (find_ref A1 c1 m n w1 l1 hmn)
    have H1 := Lib.hid (And.intro (HV.out.trans (b1.mono HV.out.size)) l1)
    clear l1 b1 d0 d1 d2 d3 d4
    go_wp2_with fail
    refine y2.out.mono ?_
    rintro _ w2 ⟨r, rfl, hF, b2⟩
    rcases hF with ⟨i, f, hx, hfn, rfl, hno⟩ | ⟨rfl, hno⟩
    · obtain ⟨hh, hg, ho⟩ := found_get HM.out hx hfn
      have hi := (List.getElem?_eq_some_iff.1 hx).1
      obtain ⟨b, o, hA, hB, hxs⟩ := (lies_keep H1.out.2 b2) (by omega)
      subst hA
      have x1 := hxs i _ hx 1 _ rfl
      have hr3 : Hid (readD x.d n = (f.d, 0)) := Lib.hid (by rw [hr2.out]; unfold readF; rw [hg])
      have q0 : (0 : Int) ≤ (i : Int) := by omega
      have q1 : (i : Int) < (m.length : Int) := by omega
      have H2 := Lib.hid (H1.out.1.trans (b2.mono H1.out.1.size))
      clear hno hx hfn hh hg ho hxs hB b2
      go_wp2_with fail
      go_ret2
      rw [hr3.out]
      exact ⟨rfl, H2.out⟩
    · obtain ⟨hh, hg⟩ := not_found hno
      have hr3 : Hid (readD x.d n = (⟨#[]⟩, 5)) := Lib.hid (by rw [hr2.out]; unfold readF; rw [hg])
      have t0 : decide ((-1 : Int) < 0) = true := by decide
      have H2 := Lib.hid (H1.out.1.trans (b2.mono H1.out.1.size))
      clear hno hh hg b2
      go_wp2_with fail
      go_ret2
      rw [hr3.out]
      exact ⟨rfl, H2.out⟩
  · have hr2 : Hid (readD x.d n = (⟨#[]⟩, E)) := Lib.hid (by rw [hr.out, if_neg hE])
    have t1 : (E != 0) = true := bne_iff_ne.2 hE
    clear hE
    go_enter Try.func18, Try.ntmps18
    go_upto_region 1 with fail
    rw [← hV]
    clear hV
    go_wp2_with fail
    refine y1.out.mono ?_
    rintro _ w1 ⟨A1, c1, rfl, l1, b1⟩
    have H1 := Lib.hid (HV.out.trans (b1.mono HV.out.size))
    clear l1 b1 d0 d1 d2 d3 d4
    go_wp2_with fail
    go_ret2
    rw [hr2.out]
    exact ⟨rfl, H1.out⟩
set_option maxRecDepth 100000 in
set_option maxHeartbeats 1600000 in
theorem great_any (A : Option Addr) (c : Nat) (l : List Fl) (r : Int) (w : World) (hl : Lies 2 Fl.cells w w.heap.size A l) (hr : 0 ≤ r) (hr2 : r ≤ 9223372036854775807) (hn : wtF l ≤ 1099511627776) :
    Calls Try.prog 54 #[.slice A l.length c, .int .i64 r] w fun e w' => e = .returned (.bool (greatF l r)) ∧ Below w.heap.size w w' := by
  have hln := len_le_wtF l
  have hwe := wtF_eq l
  have hl9 : l.length ≤ 1099511627776 := by omega
  have Hl := Lib.hid hl
  clear hl
  go_enter Try.func54, Try.ntmps54
  go_wp2_with fail
  go_loopw [1, 9] (fun v i wr => ∃ k : Nat, i = .int .i64 (k : Int) ∧ k ≤ l.length ∧ v = .int .i64 (r - (szF (l.take k) : Int)) ∧ (szF (l.take k) : Int) ≤ r ∧ Below w.heap.size w wr)
    (fun _ i _ => l.length - (intOf i).toNat)
  case atStart => exact ⟨0, rfl, by omega, by rw [show szF (l.take 0) = 0 from rfl]; simp, by rw [show szF (l.take 0) = 0 from rfl]; omega, Below.refl _ _⟩
  case round =>
    obtain ⟨k, rfl, hk, rfl, hle, hb⟩ := hrel
    by_cases hlt : k < l.length
    · have hx : l[k]? = some l[k] := List.getElem?_eq_getElem hlt
      obtain ⟨b, o, hA, hB, hxs⟩ := Hl.out (by omega)
      have x0 := (hb.cell (p := ⟨b, o + k * 2 + 0, none⟩) hB).trans (hxs k _ hx 0 _ rfl)
      have x1 := (hb.cell (p := ⟨b, o + k * 2 + 1, none⟩) hB).trans (hxs k _ hx 1 _ rfl)
      have hsn := sz_snoc hx
      have hst := sz_take l (k + 1)
      generalize l[k] = f at *
      simp only [Nat.add_zero] at x0
      obtain ⟨W, hW, bW, sW, oW⟩ := flbox wr f
      have f0 := oW.at_ 0
      have f1 := oW.at_ 1
      simp only [Fl.cells, List.getElem?_cons_zero, List.getElem?_cons_succ] at f0 f1
      obtain ⟨s, hs⟩ : ∃ s : Nat, szF (l.take k) = s := ⟨_, rfl⟩
      rw [hs] at hsn hle ⊢
      have HH := Lib.hid (And.intro (hb.trans (bW.mono hb.size)) hsn)
      have q0 : (0 : Int) ≤ (k : Int) := by omega
      have q1 : (k : Int) < (l.length : Int) := by omega
      have q4 : (0 : Int) ≤ r - (s : Int) := by omega
      have q5 : r - (s : Int) ≤ 9223372036854775807 := by omega
      have q6 : (f.d.size : Int) ≤ 1099511627776 := by omega
      rw [hA]
      by_cases hc : r - (s : Int) < (f.d.size : Int)
      · have t1 : decide (r - (s : Int) < (f.d.size : Int)) = true := decide_eq_true hc
        have hg := Lib.hid (show greatF l r = true by unfold greatF; rw [decide_eq_true (show r < (szF l : Int) by omega)]; rfl)
        clear hb hx hxs hsn hst bW sW oW hs hc hA hln hwe hle
        go_upto_region 4 with fail
        rw [← hW]
        clear hW x0 x1
        go_wp2_with fail
        go_ret
        exact ⟨by rw [hg.out]; rfl, HH.out.1⟩
      · have t1 : decide (r - (s : Int) < (f.d.size : Int)) = false := decide_eq_false hc
        have hc2 : (f.d.size : Int) ≤ r - (s : Int) := by omega
        clear hb hx hxs hsn hst bW sW oW hs hc hA hln hwe hle
        go_upto_region 4 with fail
        rw [← hW]
        clear hW x0 x1
        go_wp2_with fail
        go_roundw
        case rel =>
          refine ⟨k + 1, by go_num, by omega, ?_, ?_, HH.out.1⟩
          · rw [HH.out.2]; congr 1; omega
          · rw [HH.out.2]; omega
        case measure => simp [intOf]; omega
    · have hk2 : k = l.length := by omega
      subst hk2
      rw [List.take_length] at hle ⊢
      have hg := Lib.hid (show greatF l r = decide (256 < l.length) by unfold greatF; rw [decide_eq_false (show ¬ r < (szF l : Int) by omega)]; rfl)
      have HH := Lib.hid hb
      have e2 := Lib.hid (show decide ((256 : Int) < (l.length : Int)) = decide (256 < l.length) by rw [Bool.eq_iff_iff]; simp; omega)
      clear hb hle
      go_wp2_with fail
      go_ret
      exact ⟨by rw [hg.out]; first | rfl | (rw [← e2.out]; rfl) | (simp; done), HH.out⟩
end Go.Proofs.Ytfelpjacccclkaa
namespace Go.Proofs.Ytfelpjacccclkaa
open Go Go.RowKit

theorem lies_low {α : Type} {size : Nat} {cells : α → List Value} {w : World} {B B' : Nat} {A : Option Addr} {l : List α} (h : Lies size cells w B A l) (k : ∀ b o, A = some ⟨b, o, none⟩ → b < B') : Lies size cells w B' A l := fun hp => by
  obtain ⟨b, o, e, _, hc⟩ := h hp
  exact ⟨b, o, e, k b o e, hc⟩
theorem infoWr' : (Try.prog.info? 45).map (fun i => (i.zero, i.size, i.bytes)) = some (some (.agg #[.int .u8 0, .string ⟨#[]⟩, .string ⟨#[]⟩, .string ⟨#[]⟩]), 4, 56) := by kernel_rfl
theorem wrc_len (f : Wr) : f.cells.length = 4 := rfl
structure CopyD (w : World) (x : Dl) (w' : World) (y : Dl) : Prop where
  d_ : y.d = x.d
  below : Below w.heap.size w w'
  row : ∃ B1, w.heap.size ≤ B1 ∧ B1 ≤ w'.heap.size ∧ Lies 2 Fl.cells w' B1 y.fA y.files ∧ w'.ownsRow B1 45 4 (.slice y.wA y.waits.length y.wc) y.waits.length (y.waits.flatMap Wr.cells)
  din : DIn w' w'.heap.size y
def Copies (w : World) (x : Dl) (e : Ending) (w' : World) : Prop := ∃ y : Dl, e = .returned y.val ∧ CopyD w x w' y
set_option maxRecDepth 100000 in
set_option maxHeartbeats 3200000 in
theorem rcopy_any (x : Dl) (w : World) (h : DIn w w.heap.size x) (hn : wtD x.d ≤ 900000000000) :
    Calls Try.prog 8 #[x.val] w (Copies w x) := by
  obtain ⟨i0, hi, hz0, hz1, hz2⟩ := info_parts infoFl
  have HI := Lib.hid (And.intro Try.underlying22 (And.intro hi (And.intro hz0 (And.intro hz1 hz2))))
  obtain ⟨i1, hj, hy0, hy1, hy2⟩ := info_parts infoWr'
  have HJ := Lib.hid (And.intro Try.underlying23 (And.intro hj (And.intro hy0 (And.intro hy1 hy2))))
  obtain ⟨V, hV, hVb, hVs, oD, oR⟩ := do_box w x
  have iV := h.keep hVb
  obtain ⟨d0, d1, d2, d3, d4⟩ := own5 oD
  obtain ⟨f0, f1, f2, f3, f4⟩ := open5 oD
  have hin := oD.inside
  unfold wtD Dl.d at hn
  dsimp only at hn
  have hfl := len_le_wtF x.files
  have hwl := len_le_wtW x.waits
  have hr0 := Lib.hid (show (V.alloc (.cells #[] 67)).ownsRow V.heap.size 67 2 (.slice (some ⟨V.heap.size, 0, none⟩) 0 0) 0 [] from World.ownsRow_made V #[] 0 (Nat.le_refl _) (Nat.zero_le _) rfl)
  have hL0 := Lib.hid (iV.files.past ((Below.refl _ V).alloc (Nat.le_refl _) (.cells #[] 67)) (Nat.le_refl _))
  have HV := Lib.hid (And.intro hVb (And.intro oD (And.intro oR (And.intro iV hVs))))
  unfold Dl.val
  clear h hi hz0 hz1 hz2 hj hy0 hy1 hy2 hVb hVs oD oR iV
  go_enter Try.func8, Try.ntmps8
  go_upto_region 1 with fail
  rw [← hV]
  clear hV
  go_wp2_with (at_builtin; refine wpList_append_lies (l := x.files) _ rfl (.tmp 3) (.tmp 5) 22 67 rfl i0 _ 32 HI.out.1 HI.out.2.1 HI.out.2.2.1 HI.out.2.2.2.1 HI.out.2.2.2.2 rfl (by decide) flc_len fl_one V.heap.size _ _ _ rfl hr0.out x.fc rfl hL0.out ?m1 ?m2 ?m3 ?m4)
  case m1 => unfold maxLen; omega
  case m2 => omega
  case m3 => simp
  case m4 =>
  intro v3 w3 ho3 hb3
  have bV3 := ((Below.refl V.heap.size V).alloc (Nat.le_refl _) (.cells #[] 67)).trans hb3
  obtain ⟨A3, c3, rfl, hc3, l3⟩ := ret_row ho3
  have o3 := HV.out.2.1.past bV3 HV.out.2.1.inside
  clear d0 d1 d2 d3 d4 f0 f1 f2 f3 f4
  have g0 := o3.open_ 0
  have d0 := o3.at_ 0
  simp only [Dl.cells, List.getElem?_cons_zero] at d0
  obtain ⟨X, hX⟩ : ∃ X, X = w3.setCell ⟨w.heap.size, 0, none⟩ (.slice A3 x.files.length c3) := ⟨_, rfl⟩
  have oX := o3.set_ 0 (.slice A3 x.files.length c3)
  rw [← hX] at oX
  have kX : Kept w3 X (fun b => b = w.heap.size) := by rw [hX]; exact (Kept.refl w3 (fun b => b = w.heap.size)).set_ (g := w.heap.size) (o := 0) (.inl rfl) _
  have rX := kX.row ho3 (fun k hk hS => by have := (ho3.lt k hk).1; omega)
  have bX : Below w.heap.size w X := by
    rw [hX]; exact (HV.out.1.trans (bV3.mono HV.out.1.size)).setCell (p := ⟨w.heap.size, 0, none⟩) (Nat.le_refl _) _
  have oRX : Own X (w.heap.size + 1) 25 zero5 := kX.own (HV.out.2.2.1.past bV3 HV.out.2.2.1.inside) (by omega)
  have lW : Lies 4 Wr.cells X X.heap.size x.wA x.waits := by
    have hw := HV.out.2.2.2.1.waits
    intro hp
    obtain ⟨b, q, e, hb, hc⟩ := hw hp
    have hne := off_waits (y := x) hw HV.out.2.1 hp b q e
    refine ⟨b, q, e, by have := bV3.size; have := kX.size; omega, fun i z hz j u hu => ?_⟩
    refine kept_cell kX hne (by have := bV3.size; omega) ?_
    exact (bV3.cell (p := ⟨b, q + i * 4 + j, none⟩) hb).trans (hc i z hz j u hu)
  obtain ⟨e0, e1, e2, e3, e4⟩ := own5 oX
  have g1 := oX.open_ 1
  have hinX := oX.inside
  have hr1 := Lib.hid (show (X.alloc (.cells #[] 45)).ownsRow X.heap.size 45 4 (.slice (some ⟨X.heap.size, 0, none⟩) 0 0) 0 [] from World.ownsRow_made X #[] 0 (Nat.le_refl _) (Nat.zero_le _) rfl)
  have hL1 := Lib.hid (lW.past ((Below.refl _ X).alloc (Nat.le_refl _) (.cells #[] 45)) (Nat.le_refl _))
  have H3 := Lib.hid (And.intro bX (And.intro oX (And.intro oRX rX)))
  have hvlt : ∀ b q, A3 = some (⟨b, q, none⟩ : Addr) → V.heap.size ≤ b ∧ b < X.heap.size := fun b q e => by subst e; exact rX.lt b rfl
  have HLT := Lib.hid hvlt
  clear bV3 ho3 l3 o3 hb3 kX rX bX oX oRX lW hvlt hc3
  go_upto_region 2 with fail
  rw [← hX]
  clear hX d0 g0
  go_wp2_with (at_builtin; refine wpList_append_lies (l := x.waits) _ rfl (.tmp 8) (.tmp 10) 23 45 rfl i1 _ 56 HJ.out.1 HJ.out.2.1 HJ.out.2.2.1 HJ.out.2.2.2.1 HJ.out.2.2.2.2 rfl (by decide) wrc_len wr_one X.heap.size _ _ _ rfl hr1.out x.wc rfl hL1.out ?n1 ?n2 ?n3 ?n4)
  case n1 => unfold maxLen; omega
  case n2 => omega
  case n3 => simp
  case n4 =>
  intro v4 w4 ho4 hb4
  have bX4 := ((Below.refl X.heap.size X).alloc (Nat.le_refl _) (.cells #[] 45)).trans hb4
  obtain ⟨A4, c4, hv4, hc4, _, l4⟩ := lies_of_own (size := 4) (cells := Wr.cells) (l := x.waits) (by decide) wrc_len rfl ho4
  subst hv4
  have o4 := H3.out.2.1.past bX4 H3.out.2.1.inside
  have oR4 := H3.out.2.2.1.past bX4 H3.out.2.2.1.inside
  have r4 := own_below H3.out.2.2.2 bX4
  clear e0 e1 e2 e3 e4 g1
  have g1 := o4.open_ 1
  have e1 := o4.at_ 1
  simp only [Dl.cells, List.set_cons_zero, List.set_cons_succ, List.getElem?_cons_zero, List.getElem?_cons_succ] at e1
  obtain ⟨Y, hY⟩ : ∃ Y, Y = w4.setCell ⟨w.heap.size, 1, none⟩ (.slice A4 x.waits.length c4) := ⟨_, rfl⟩
  have oY := o4.set_ 1 (.slice A4 x.waits.length c4)
  rw [← hY] at oY
  have kY : Kept w4 Y (fun b => b = w.heap.size) := by rw [hY]; exact (Kept.refl w4 (fun b => b = w.heap.size)).set_ (g := w.heap.size) (o := 1) (.inl rfl) _
  have hXs := H3.out.1.size
  have rY := kY.row r4 (fun k hk hS => by have := (r4.lt k hk).1; omega)
  have rW := kY.row ho4 (fun k hk hS => by have := (ho4.lt k hk).1; omega)
  have oRY : Own Y (w.heap.size + 1) 25 zero5 := kY.own oR4 (by omega)
  have bY : Below w.heap.size w Y := by
    rw [hY]; exact (H3.out.1.trans (bX4.mono H3.out.1.size)).setCell (p := ⟨w.heap.size, 1, none⟩) (Nat.le_refl _) _
  obtain ⟨e0', e1', e2', e3', e4'⟩ := own5 oY
  obtain ⟨u0, u1, u2, u3, u4⟩ := open5 oRY
  obtain ⟨z0, z1, z2, z3, z4⟩ := own5 oRY
  have hinY := oY.inside
  have kZ := set5_kept Y (w.heap.size + 1) (.slice A3 x.files.length c3) (.slice A4 x.waits.length c4) (.int .i64 x.room) (.bool x.down) (.int .i64 x.fuse)
  have oZ := set5_own oRY (.slice A3 x.files.length c3) (.slice A4 x.waits.length c4) (.int .i64 x.room) (.bool x.down) (.int .i64 x.fuse)
  obtain ⟨s0, s1, s2, s3, s4⟩ := own5 oZ
  have rY2 := kZ.row rY (fun k hk hS => by have h1 := (rY.lt k hk).1; have := HV.out.2.2.2.2; omega)
  have rW2 := kZ.row rW (fun k hk hS => by have h1 := (rW.lt k hk).1; have := H3.out.2.2.1.inside; omega)
  have bZ := bY.trans (kZ.below (B := w.heap.size) (fun b e => by omega) bY.size)
  have hZs := kZ.size
  have hYs := kY.size
  have h4s := bX4.size
  unfold set5 at s0 s1 s2 s3 s4 rY2 rW2 bZ hZs
  have HZ := Lib.hid (And.intro bZ (And.intro rY2 (And.intro rW2 (And.intro (show X.heap.size ≤ Y.heap.size by omega) hZs))))
  clear bX4 ho4 l4 o4 oR4 r4 hb4 kY rY rW oY oRY bY kZ oZ rY2 rW2 bZ hZs hYs h4s hXs hc4
  go_upto_region 3 with fail
  rw [← hY]
  clear hY e1 g1
  go_wp2_with fail
  exact bodyPost_ret (v := .agg #[.slice A3 x.files.length c3, .slice A4 x.waits.length c4, .int .i64 x.room, .bool x.down, .int .i64 x.fuse]) (by simp [results, Try.results8, go_sem, s0, s1, s2, s3, s4]) rfl ⟨⟨A3, c3, x.files, A4, c4, x.waits, x.room, x.down, x.fuse⟩, rfl, rfl, HZ.out.1, ⟨X.heap.size, H3.out.1.size, Nat.le_trans HZ.out.2.2.2.1 HZ.out.2.2.2.2, lies_low (row_lies (size := 2) (cells := Fl.cells) (by decide) flc_len HZ.out.2.1) (fun b q e => (HLT.out b q e).2), HZ.out.2.2.1⟩, ⟨row_lies (size := 2) (cells := Fl.cells) (by decide) flc_len HZ.out.2.1, row_lies (size := 4) (cells := Wr.cells) (by decide) wrc_len HZ.out.2.2.1, row_cap HZ.out.2.2.1⟩⟩
end Go.Proofs.Ytfelpjacccclkaa
namespace Go.Proofs.Ytfelpjacccclkaa
open Go Go.RowKit

theorem din_at {w : World} {G : Nat} {t : TypeId} {y z : Dl} (o : Own w G t y.cells) (h : DIn w w.heap.size z) (q : Nat) (u : Value) :
    ∃ W, W = w.setCell ⟨G, q, none⟩ u ∧ DIn W W.heap.size z ∧ Kept w W (fun b => b = G) ∧ Own W G t (y.cells.set q u) := by
  have k : Kept w (w.setCell ⟨G, q, none⟩ u) (fun b => b = G) := (Kept.refl w (fun b => b = G)).set_ (g := G) (o := q) (.inl rfl) u
  refine ⟨_, rfl, ⟨fun hp => ?_, fun hp => ?_, h.cap⟩, k, o.set_ q u⟩
  · obtain ⟨b, q, e, hb, hc⟩ := h.files hp
    exact ⟨b, q, e, Nat.lt_of_lt_of_le hb k.size, fun i x hi j u hj => kept_cell k (off_files h.files o hp b q e) hb (hc i x hi j u hj)⟩
  · obtain ⟨b, q, e, hb, hc⟩ := h.waits hp
    exact ⟨b, q, e, Nat.lt_of_lt_of_le hb k.size, fun i x hi j u hj => kept_cell k (off_waits h.waits o hp b q e) hb (hc i x hi j u hj)⟩
/-- the two boxes of a function that turns a disk: its own, and the result's -/
structure Boxes (w W : World) (y z : Dl) : Prop where
  below : Below w.heap.size w W
  own : Own W w.heap.size 25 y.cells
  res : Own W (w.heap.size + 1) 25 zeroDl.cells
  din : DIn W W.heap.size z
theorem Boxes.past {w W W' : World} {y z : Dl} (h : Boxes w W y z) (hb : Below W.heap.size W W') : Boxes w W' y z :=
  ⟨h.below.trans (hb.mono h.below.size), h.own.past hb h.own.inside, h.res.past hb h.res.inside, h.din.keep hb⟩
theorem Boxes.with_ {w W : World} {y z z' : Dl} (h : Boxes w W y z) (hz : DIn W W.heap.size z') : Boxes w W y z' := ⟨h.below, h.own, h.res, hz⟩
/-- a field of its own turned -/
theorem Boxes.field {w W : World} {y y' z : Dl} (h : Boxes w W y z) (q : Nat) (u : Value) (e : y.cells.set q u = y'.cells) : ∃ X, X = W.setCell ⟨w.heap.size, q, none⟩ u ∧ Boxes w X y' z := by
  obtain ⟨X, hX, hd, hk, ho⟩ := din_at h.own h.din q u
  rw [e] at ho
  exact ⟨X, hX, ⟨by rw [hX]; exact h.below.setCell (p := ⟨w.heap.size, q, none⟩) (Nat.le_refl _) _, ho, hk.own h.res (by omega), hd⟩⟩
/-- all of it -/
theorem Boxes.all {w W : World} {y z : Dl} (h : Boxes w W y z) : ∃ X, X = set5 W w.heap.size (.slice z.fA z.files.length z.fc) (.slice z.wA z.waits.length z.wc) (.int .i64 z.room) (.bool z.down) (.int .i64 z.fuse) ∧ Boxes w X z z := by
  obtain ⟨X, hX, ho, hd, hb⟩ := var_set h.own h.din
  have k := set5_kept W w.heap.size (.slice z.fA z.files.length z.fc) (.slice z.wA z.waits.length z.wc) (.int .i64 z.room) (.bool z.down) (.int .i64 z.fuse)
  refine ⟨X, hX, ⟨h.below.trans (hb _ (Nat.le_refl _)), ho, ?_, hd⟩⟩
  rw [hX]; exact k.own h.res (by omega)
/-- handed back -/
theorem Boxes.back {w W : World} {y z : Dl} (h : Boxes w W y z) : ∃ X, X = set5 W (w.heap.size + 1) (.slice z.fA z.files.length z.fc) (.slice z.wA z.waits.length z.wc) (.int .i64 z.room) (.bool z.down) (.int .i64 z.fuse) ∧ Own X (w.heap.size + 1) 25 z.cells ∧ DIn X X.heap.size z ∧ Below w.heap.size w X := by
  obtain ⟨X, hX, ho, hd, hb⟩ := var_set h.res h.din
  exact ⟨X, hX, ho, hd, h.below.trans (hb _ (by omega))⟩
theorem boxes_start (w : World) (x : Dl) (h : DIn w w.heap.size x) : ∃ V, V = (w.alloc (.cells #[.slice x.fA x.files.length x.fc, .slice x.wA x.waits.length x.wc, .int .i64 x.room, .bool x.down, .int .i64 x.fuse] 25)).alloc (.cells #[.slice none 0 0, .slice none 0 0, .int .i64 0, .bool false, .int .i64 0] 25) ∧ Boxes w V x x := by
  obtain ⟨V, hV, hVb, hVs, oD, oR⟩ := do_box w x
  exact ⟨V, hV, hVb, oD, oR, h.keep hVb⟩
theorem boxes_zero {w V : World} {x : Dl} (h : Boxes w V x x) {w1 : World} (b1 : Below V.heap.size V w1) : ∃ X, X = set5 w1 (w.heap.size + 1) (.slice none 0 0) (.slice none 0 0) (.int .i64 0) (.bool false) (.int .i64 0) ∧ Own X (w.heap.size + 1) 25 zeroDl.cells ∧ DIn X X.heap.size zeroDl ∧ Below w.heap.size w X :=
  ((h.past b1).with_ (z' := zeroDl) (zero_din _)).back
theorem Boxes.cells {w W : World} {y z : Dl} (h : Boxes w W y z) :
    W.cell? ⟨w.heap.size, 0, none⟩ = some (.slice y.fA y.files.length y.fc) ∧ W.cell? ⟨w.heap.size, 1, none⟩ = some (.slice y.wA y.waits.length y.wc) ∧ W.cell? ⟨w.heap.size, 2, none⟩ = some (.int .i64 y.room) ∧ W.cell? ⟨w.heap.size, 3, none⟩ = some (.bool y.down) ∧ W.cell? ⟨w.heap.size, 4, none⟩ = some (.int .i64 y.fuse) := own5 h.own
theorem Boxes.rcells {w W : World} {y z : Dl} (h : Boxes w W y z) :
    W.cell? ⟨w.heap.size + 1, 0, none⟩ = some (.slice none 0 0) ∧ W.cell? ⟨w.heap.size + 1, 1, none⟩ = some (.slice none 0 0) ∧ W.cell? ⟨w.heap.size + 1, 2, none⟩ = some (.int .i64 0) ∧ W.cell? ⟨w.heap.size + 1, 3, none⟩ = some (.bool false) ∧ W.cell? ⟨w.heap.size + 1, 4, none⟩ = some (.int .i64 0) := own5 h.res
theorem d_eq {y : Dl} {k : Dk} (h : y.d = k) : y.files = k.files ∧ y.waits = k.waits ∧ y.room = k.room ∧ y.down = k.down ∧ y.fuse = k.fuse := by subst h; exact ⟨rfl, rfl, rfl, rfl, rfl⟩
set_option maxRecDepth 100000 in
set_option maxHeartbeats 3200000 in
theorem rsync_any (x : Dl) (w : World) (h : DIn w w.heap.size x) (hf : FOk x.d) (hn : wtD x.d ≤ 900000000000) :
    Calls Try.prog 12 #[x.val] w fun e w' => Gives w w' e (syncD x.d) := by
  obtain ⟨V, hV, hB⟩ := boxes_start w x h
  have y1 := Lib.hid (rcheck_any x V hB.din hn)
  have y2 := Lib.hid (fun W (hb : Below V.heap.size V W) => rcopy_any x W (hB.din.keep hb) hn)
  have HB := Lib.hid hB
  obtain ⟨d0, d1, d2, d3, d4⟩ := hB.cells
  clear h hB
  cases hg : goodD x.d
  · have hc := Lib.hid (show chkD x.d = 8 by unfold chkD; rw [hg]; rfl)
    have hs := Lib.hid (show syncD x.d = (.zero, 8) by unfold syncD; rw [hg]; rfl)
    rw [hs.out]
    unfold Dl.val at y1 ⊢
    clear hg y2
    go_enter Try.func12, Try.ntmps12
    go_upto_region 1 with fail
    rw [← hV]
    clear hV
    go_wp2_with fail
    refine y1.out.mono ?_
    rintro _ w1 ⟨rfl, b1⟩
    rw [hc.out]
    have hP := HB.out.past b1
    obtain ⟨f0, f1, f2, f3, f4⟩ := open5 hP.res
    obtain ⟨r0, r1, r2, r3, r4⟩ := hP.rcells
    obtain ⟨X, hX, oX, iX, bX⟩ := boxes_zero HB.out b1
    obtain ⟨e0, e1, e2, e3, e4⟩ := own5 oX
    have HX := Lib.hid (And.intro iX bX)
    unfold set5 at hX
    subst hX
    clear hP oX iX bX b1 d0 d1 d2 d3 d4
    go_wp2_with fail
    exact bodyPost_ret (v := .tuple #[.agg #[.slice none 0 0, .slice none 0 0, .int .i64 0, .bool false, .int .i64 0], .int .i64 8]) (by simp [results, Try.results12, go_sem, e0, e1, e2, e3, e4, zeroDl]) rfl ⟨HX.out.2, zeroDl, rfl, rfl, HX.out.1⟩
  · have hc := Lib.hid (show chkD x.d = 0 by unfold chkD; rw [hg]; rfl)
    have hs := Lib.hid (show syncD x.d = (if x.down then (x.d, 7) else if x.fuse = 0 then (⟨x.files, x.waits, x.room, true, x.fuse⟩, 7) else (⟨seen x.d, [], x.room, x.down, lessN x.fuse⟩, 0)) by unfold syncD; rw [hg]; rfl)
    have hk := good_k hg
    have HK := Lib.hid hk
    obtain ⟨s, hsE⟩ : ∃ s, syncD x.d = s := ⟨_, rfl⟩
    rw [hsE] at hs ⊢
    unfold Dl.val at y1 y2 ⊢
    clear hg hk
    go_enter Try.func12, Try.ntmps12
    go_upto_region 1 with fail
    rw [← hV]
    clear hV
    go_wp2_with fail
    refine y1.out.mono ?_
    rintro _ w1 ⟨rfl, b1⟩
    rw [hc.out]
    have hB1 := HB.out.past b1
    have y3 := Lib.hid (y2.out w1 b1)
    have HB1 := Lib.hid hB1
    clear d0 d1 d2 d3 d4
    obtain ⟨d0, d1, d2, d3, d4⟩ := hB1.cells
    clear hB1 b1 y1 y2
    go_wp2_with fail
    refine y3.out.mono ?_
    rintro _ w2 ⟨⟨yfA, yfc, yfs, ywA, ywc, yws, yr, yd, yf⟩, rfl, cop⟩
    obtain ⟨q1, q2, q3, q4, q5⟩ := d_eq cop.d_
    dsimp only [Dl.d] at q1 q2 q3 q4 q5
    subst q1 q2 q3 q4 q5
    have hB2 := (HB1.out.past cop.below).with_ cop.din
    obtain ⟨X, hX, hB3⟩ := hB2.all
    obtain ⟨f0, f1, f2, f3, f4⟩ := open5 hB2.own
    clear d0 d1 d2 d3 d4
    obtain ⟨d0, d1, d2, d3, d4⟩ := hB2.cells
    have HB3 := Lib.hid hB3
    unfold set5 at hX
    dsimp only at hX
    unfold Dl.val
    dsimp only
    clear cop hB2 y3
    go_upto_region 4 with fail
    rw [← hX]
    clear hX d0 d1 d2 d3 d4 f0 f1 f2 f3 f4
    obtain ⟨d0, d1, d2, d3, d4⟩ := hB3.cells
    dsimp only at d0 d1 d2 d3 d4
    obtain ⟨f0, f1, f2, f3, f4⟩ := open5 hB3.own
    by_cases hdf : x.down = true ∨ x.fuse = 0
    · have hs2 : s = (⟨x.files, x.waits, x.room, true, x.fuse⟩, 7) := (by
        rw [hs.out]
        by_cases hd : x.down = true
        · rw [if_pos hd]; unfold Dl.d; rw [hd]
        · rw [if_neg hd, if_pos (hdf.resolve_left hd)])
      clear hsE hs
      subst hs2
      obtain ⟨X4, hX4, hB4⟩ := hB3.field (y' := ⟨yfA, yfc, x.files, ywA, ywc, x.waits, x.room, true, x.fuse⟩) 3 (.bool true) rfl
      have hB4' := hB4.with_ (z' := ⟨yfA, yfc, x.files, ywA, ywc, x.waits, x.room, true, x.fuse⟩) ⟨hB4.din.files, hB4.din.waits, hB4.din.cap⟩
      obtain ⟨X5, hX5, o5, i5, b5⟩ := hB4'.back
      obtain ⟨e0, e1, e2, e3, e4⟩ := own5 o5
      have H5 := Lib.hid (And.intro i5 b5)
      unfold set5 at hX5
      dsimp only at hX5
      have step : ∀ b : Bool, x.down = b → (b = true ∨ (b = false ∧ (x.fuse == 0) = true)) := fun b hb => by
        cases b with
        | true => exact .inl rfl
        | false => exact .inr ⟨rfl, by rcases hdf with h | h; (rw [hb] at h; cases h); (rw [h]; rfl)⟩
      obtain ⟨bd, hbd⟩ : ∃ b, x.down = b := ⟨_, rfl⟩
      have hst := step bd hbd
      rw [hbd] at d3
      clear hB3 step hdf
      rcases hst with hst | ⟨hst, t1⟩
      · subst hst
        clear hbd
        go_upto_region 5 with fail
        have g0 := (HB3.out).own.open_ 3
        go_upto_region 6 with fail
        rw [← hX4]
        clear hX4 d0 d1 d2 d3 d4 f0 f1 f2 f3 f4 g0
        obtain ⟨d0, d1, d2, d3, d4⟩ := hB4.cells
        obtain ⟨r0, r1, r2, r3, r4⟩ := hB4.rcells
        obtain ⟨f0, f1, f2, f3, f4⟩ := open5 hB4.res
        dsimp only at d0 d1 d2 d3 d4
        clear hB4 hB4' o5 i5 b5
        subst hX5
        go_wp2_with fail
        exact bodyPost_ret (v := .tuple #[.agg #[.slice yfA x.files.length yfc, .slice ywA x.waits.length ywc, .int .i64 x.room, .bool true, .int .i64 x.fuse], .int .i64 7]) (by simp [results, Try.results12, go_sem, e0, e1, e2, e3, e4]) rfl ⟨H5.out.2, _, rfl, rfl, H5.out.1⟩
      · subst hst
        clear hbd
        go_upto_region 5 with fail
        have g0 := (HB3.out).own.open_ 3
        go_upto_region 6 with fail
        rw [← hX4]
        clear hX4 d0 d1 d2 d3 d4 f0 f1 f2 f3 f4 g0
        obtain ⟨d0, d1, d2, d3, d4⟩ := hB4.cells
        obtain ⟨r0, r1, r2, r3, r4⟩ := hB4.rcells
        obtain ⟨f0, f1, f2, f3, f4⟩ := open5 hB4.res
        dsimp only at d0 d1 d2 d3 d4
        clear hB4 hB4' o5 i5 b5
        subst hX5
        go_wp2_with fail
        exact bodyPost_ret (v := .tuple #[.agg #[.slice yfA x.files.length yfc, .slice ywA x.waits.length ywc, .int .i64 x.room, .bool true, .int .i64 x.fuse], .int .i64 7]) (by simp [results, Try.results12, go_sem, e0, e1, e2, e3, e4]) rfl ⟨H5.out.2, _, rfl, rfl, H5.out.1⟩
    · have hd : x.down = false := by cases h : x.down with | true => exact absurd (Or.inl h) hdf | false => rfl
      have hz : x.fuse ≠ 0 := fun h => hdf (.inr h)
      have t1 : (x.fuse == 0) = false := beq_eq_false_iff_ne.2 hz
      have hs2 : s = (⟨seen x.d, [], x.room, false, lessN x.fuse⟩, 0) := by rw [hs.out, hd, if_neg (by simp), if_neg hz]
      clear hsE hs
      rw [hd] at d3 hB3
      have q1 : -9223372036854775808 ≤ x.fuse := hf.1
      have q2 : x.fuse ≤ 9223372036854775807 := hf.2
      clear hd hz hdf
      by_cases hp : 0 < x.fuse
      · have t2 : decide (0 < x.fuse) = true := decide_eq_true hp
        have hs3 : s = (⟨seen x.d, [], x.room, false, x.fuse - 1⟩, 0) := by rw [hs2]; unfold lessN; rw [if_pos hp]
        clear hs2
        subst hs3
        obtain ⟨X4, hX4, hB4⟩ := hB3.field (y' := ⟨yfA, yfc, x.files, ywA, ywc, x.waits, x.room, false, x.fuse - 1⟩) 4 (.int .i64 (x.fuse - 1)) rfl
        have hB5 := hB4.with_ (z' := ⟨yfA, yfc, x.files, ywA, ywc, x.waits, x.room, false, x.fuse - 1⟩) ⟨hB4.din.files, hB4.din.waits, hB4.din.cap⟩
        clear hB3 hB4
        go_upto_region 9 with fail
        rw [← hX4]
        clear hX4 d0 d1 d2 d3 d4 f0 f1 f2 f3 f4
        have f0 := hB5.own.open_ 0
        have f1 := f0
        have f2 := f0
        have f3 := f0
        have f4 := f0
        have hB5a := hB5
        have y5a := Lib.hid (seen_any ⟨yfA, yfc, x.files, ywA, ywc, x.waits, x.room, false, x.fuse - 1⟩ X4 hB5a.din HK.out.sorted HK.out.kinds hn)
        unfold Dl.val at y5a
        dsimp only at y5a
        obtain ⟨d0, d1, d2, d3, d4⟩ := hB5a.cells
        dsimp only at d0 d1 d2 d3 d4
        have HB5a := Lib.hid hB5a
        clear hB5a
        go_wp2_with fail
        refine y5a.out.mono ?_
        rintro _ w6 ⟨A6, c6, rfl, l6, b6⟩
        have hs6 := HK.out.seen_
        have hB6 := (HB5a.out.past b6)
        have hB6' := hB6.with_ (z' := ⟨A6, c6, x.waits.foldl appF x.files, none, 0, [], x.room, false, x.fuse - 1⟩) ⟨l6, Lies.nil_, Nat.zero_le _⟩
        obtain ⟨X7, hX7, hB7⟩ := hB6'.field (y' := ⟨A6, c6, x.waits.foldl appF x.files, ywA, ywc, x.waits, x.room, false, x.fuse - 1⟩) 0 (.slice A6 (x.waits.foldl appF x.files).length c6) rfl
        obtain ⟨X8, hX8, hB8⟩ := hB7.field (y' := ⟨A6, c6, x.waits.foldl appF x.files, none, 0, [], x.room, false, x.fuse - 1⟩) 1 (.slice none 0 0) rfl
        obtain ⟨X9, hX9, o9, i9, b9⟩ := hB8.back
        obtain ⟨e0, e1, e2, e3, e4⟩ := own5 o9
        have H9 := Lib.hid (And.intro i9 b9)
        have HS := Lib.hid hs6
        unfold set5 at hX9
        dsimp only at hX9
        simp only [List.length_nil] at hX9 e1
        clear d0 d1 d2 d3 d4 f0 f1 f2 f3 f4
        obtain ⟨d0, d1, d2, d3, d4⟩ := hB6.cells
        obtain ⟨f0, f1, f2, f3, f4⟩ := open5 hB6.own
        obtain ⟨d0', d1', d2', d3', d4'⟩ := hB7.cells
        obtain ⟨f0', f1', f2', f3', f4'⟩ := open5 hB7.own
        obtain ⟨d0'', d1'', d2'', d3'', d4''⟩ := hB8.cells
        obtain ⟨r0, r1, r2, r3, r4⟩ := hB8.rcells
        obtain ⟨g0, g1, g2, g3, g4⟩ := open5 hB8.res
        dsimp only at d0 d1 d2 d3 d4 d0' d1' d2' d3' d4' d0'' d1'' d2'' d3'' d4''
        simp only [List.length_nil] at d1''
        generalize x.waits.foldl appF x.files = M at *
        clear l6 b6 hs6 hB6 hB6' hB7 hB8 o9 i9 b9
        go_upto_region 10 with fail
        rw [← hX7]
        clear hX7 d0 d1 d2 d3 d4 f0 f1 f2 f3 f4
        go_upto_region 11 with fail
        rw [← hX8]
        clear hX8 d0' d1' d2' d3' d4' f0' f1' f2' f3' f4'
        subst hX9
        go_wp2_with fail
        exact bodyPost_ret (v := .tuple #[.agg #[.slice A6 M.length c6, .slice none 0 0, .int .i64 x.room, .bool false, .int .i64 (x.fuse - 1)], .int .i64 0]) (by simp [results, Try.results12, go_sem, e0, e1, e2, e3, e4]) rfl ⟨H9.out.2, ⟨A6, c6, M, none, 0, [], x.room, false, x.fuse - 1⟩, rfl, by unfold Dl.d; dsimp only; rw [← HS.out]; rfl, H9.out.1⟩

      · have t2 : decide (0 < x.fuse) = false := decide_eq_false hp
        have hs3 : s = (⟨seen x.d, [], x.room, false, x.fuse⟩, 0) := by rw [hs2]; unfold lessN; rw [if_neg hp]
        clear hs2
        subst hs3
        have hB5 := hB3.with_ (z' := ⟨yfA, yfc, x.files, ywA, ywc, x.waits, x.room, false, x.fuse⟩) ⟨hB3.din.files, hB3.din.waits, hB3.din.cap⟩
        clear hB3
        go_upto_region 9 with fail
        clear d0 d1 d2 d3 d4
        have hB5b := hB5
        have y5b := Lib.hid (seen_any ⟨yfA, yfc, x.files, ywA, ywc, x.waits, x.room, false, x.fuse⟩ X hB5b.din HK.out.sorted HK.out.kinds hn)
        unfold Dl.val at y5b
        dsimp only at y5b
        obtain ⟨d0, d1, d2, d3, d4⟩ := hB5b.cells
        dsimp only at d0 d1 d2 d3 d4
        have HB5b := Lib.hid hB5b
        clear hB5b
        go_wp2_with fail
        refine y5b.out.mono ?_
        rintro _ w6 ⟨A6, c6, rfl, l6, b6⟩
        have hs6 := HK.out.seen_
        have hB6 := (HB5b.out.past b6)
        have hB6' := hB6.with_ (z' := ⟨A6, c6, x.waits.foldl appF x.files, none, 0, [], x.room, false, x.fuse⟩) ⟨l6, Lies.nil_, Nat.zero_le _⟩
        obtain ⟨X7, hX7, hB7⟩ := hB6'.field (y' := ⟨A6, c6, x.waits.foldl appF x.files, ywA, ywc, x.waits, x.room, false, x.fuse⟩) 0 (.slice A6 (x.waits.foldl appF x.files).length c6) rfl
        obtain ⟨X8, hX8, hB8⟩ := hB7.field (y' := ⟨A6, c6, x.waits.foldl appF x.files, none, 0, [], x.room, false, x.fuse⟩) 1 (.slice none 0 0) rfl
        obtain ⟨X9, hX9, o9, i9, b9⟩ := hB8.back
        obtain ⟨e0, e1, e2, e3, e4⟩ := own5 o9
        have H9 := Lib.hid (And.intro i9 b9)
        have HS := Lib.hid hs6
        unfold set5 at hX9
        dsimp only at hX9
        simp only [List.length_nil] at hX9 e1
        clear d0 d1 d2 d3 d4 f0 f1 f2 f3 f4
        obtain ⟨d0, d1, d2, d3, d4⟩ := hB6.cells
        obtain ⟨f0, f1, f2, f3, f4⟩ := open5 hB6.own
        obtain ⟨d0', d1', d2', d3', d4'⟩ := hB7.cells
        obtain ⟨f0', f1', f2', f3', f4'⟩ := open5 hB7.own
        obtain ⟨d0'', d1'', d2'', d3'', d4''⟩ := hB8.cells
        obtain ⟨r0, r1, r2, r3, r4⟩ := hB8.rcells
        obtain ⟨g0, g1, g2, g3, g4⟩ := open5 hB8.res
        dsimp only at d0 d1 d2 d3 d4 d0' d1' d2' d3' d4' d0'' d1'' d2'' d3'' d4''
        simp only [List.length_nil] at d1''
        generalize x.waits.foldl appF x.files = M at *
        clear l6 b6 hs6 hB6 hB6' hB7 hB8 o9 i9 b9
        go_upto_region 10 with fail
        rw [← hX7]
        clear hX7 d0 d1 d2 d3 d4 f0 f1 f2 f3 f4
        go_upto_region 11 with fail
        rw [← hX8]
        clear hX8 d0' d1' d2' d3' d4' f0' f1' f2' f3' f4'
        subst hX9
        go_wp2_with fail
        exact bodyPost_ret (v := .tuple #[.agg #[.slice A6 M.length c6, .slice none 0 0, .int .i64 x.room, .bool false, .int .i64 (x.fuse)], .int .i64 0]) (by simp [results, Try.results12, go_sem, e0, e1, e2, e3, e4]) rfl ⟨H9.out.2, ⟨A6, c6, M, none, 0, [], x.room, false, x.fuse⟩, rfl, by unfold Dl.d; dsimp only; rw [← HS.out]; rfl, H9.out.1⟩
end Go.Proofs.Ytfelpjacccclkaa
namespace Go.Proofs.Ytfelpjacccclkaa
open Go Go.RowKit

section
variable {α : Type} {size : Nat} {cells : α → List Value}
/-- 'append(v, s...)' onto a row of the call's own: and what else is as it was -/
theorem wpList_append_liesK {P : Program} (w : World) {ops : Array Oper} {rest : List Oper} {o : Oper} {a : Act} {Q : Exit → Act → World → Prop} {B : Nat} {A : Option Addr} {l : List α} (hgd : o.guard = none) (s x : Operand) (t e : TypeId)
    (ho : o.op = .call { callee := .builtin .append, args := #[s, x], argTypes := #[t, t] })
    (i0 : TypeInfo) (z : Value) (bytes : Nat) (ht : P.underlying t = some (.slice e)) (hi : P.info? e = some i0) (hz0 : i0.zero = some z) (hz1 : i0.size = size) (hz2 : i0.bytes = bytes) (hzs : z.cells.size = size) (hpos : 0 < size) (hcl : ∀ x, (cells x).length = size) (hone : ∀ x, ∀ u ∈ cells x, u.oneCell' = true)
    (base : Nat) (v : Value) (n : Nat) (xs : List Value) (hs : a.eval s = v) (hown : w.ownsRow base e size v n xs)
    (c : Nat) (hx : a.eval x = .slice A l.length c) (hl : Lies size cells w B A l) (h63 : n + l.length ≤ maxLen) (hn : (n + l.length) * bytes ≤ 140737488355328) (hbase : base ≤ w.heap.size)
    (h : ∀ v' w', w'.ownsRow base e size v' (n + l.length) (xs ++ l.flatMap cells) → w.grownBy w' v.ownBlock → (v'.ownBlock = v.ownBlock ∨ v'.ownBlock = some w.heap.size) → wpList P ops Q rest (a.put o.dst v') w') :
    wpList P ops Q (o :: rest) a w := by
  refine wpList_plain hgd fun K hK => ?_
  obtain ⟨v', w', hrun, ho', hg, hb⟩ : ∃ v' w', (Builtin.append_ #[t, t] o.type #[v, .slice A l.length c]).run P w = .ok v' w' ∧ w'.ownsRow base e size v' (n + l.length) (xs ++ l.flatMap cells) ∧ w.grownBy w' v.ownBlock ∧ (v'.ownBlock = v.ownBlock ∨ v'.ownBlock = some w.heap.size) := by
    cases A with
    | none =>
      have h0 : l = [] := by
        cases l with
        | nil => rfl
        | cons x l => obtain ⟨_, _, e, _⟩ := hl (by simp); cases e
      subst h0
      exact ⟨v, w, run_append_none w base _ _ _ i0 size ht hi v n xs hown c, by simpa using hown, ⟨rfl, rfl, rfl, Nat.le_refl _, fun _ _ _ => rfl⟩, .inl rfl⟩
    | some ad =>
      have hnews : ∀ j u, (l.flatMap cells)[j]? = some u → w.cell? (ad.add j) = some u := by
        intro j u hu
        obtain ⟨i, r, y, rfl, hi, hr⟩ := flat_back hpos hcl l j u hu
        have hp : 0 < l.length := by have := (List.getElem?_eq_some_iff.1 hi).1; omega
        obtain ⟨b, o, e, _, hc⟩ := hl hp
        obtain rfl : ad = ⟨b, o, none⟩ := by injection e
        have ea : (⟨b, o, none⟩ : Addr).add (i * size + r) = ⟨b, o + i * size + r, none⟩ := by unfold Addr.add; split <;> simp_all <;> omega
        rw [ea]
        exact hc i y hi r u hr
      obtain ⟨v', w', hr, h2, h3, _, h5⟩ := run_append_own_at (P := P) w base t o.type e i0 _ size bytes ht hi hz0 hz1 hz2 hzs hpos v n xs hown ad l.length c (l.flatMap cells) (flat_size hcl l) hnews
        (fun u hu => by obtain ⟨y, _, hy⟩ := List.mem_flatMap.1 hu; exact hone y u hy) h63 hn hbase
      exact ⟨v', w', hr, h2, h3, h5⟩
  unfold Oper.wp execOp
  simp only [ho, resolve, invoke, builtin, Sem.run_bind, Sem.run_pure, Result.andThen_ok, List.map_toArray, List.map_cons, List.map_nil, hs, hx, hrun]
  exact hK _ _ (h v' w' ho' hg hb)
end
end Go.Proofs.Ytfelpjacccclkaa
