/- Part 11 of the texts on which TopMerged rests: facts and contracts. -/
import Derived.Test.YtllpfngmnccejaaGreatTopMergedM10
import Derived.Laws.Cover1
import Derived.Deep.QuietTactic
import Derived.Lib.SliceRun
namespace Go.Proofs.YtllpfngmnccejaaGreat
open Go Go.RowKit

def rightN (n : ByteArray) : Bool := decide (1 ≤ n.size) && decide (n.size ≤ 32)
def noB (s : ByteArray) : Bool := decide (s.size = 0)
def rightW (w : Wr) : Bool := rightN w.n && (if w.k = 1 then noB w.t else if w.k = 2 then rightN w.t && noB w.d else if w.k = 3 then noB w.t && noB w.d else false)
def ascN : List ByteArray → Bool
  | [] => true
  | x :: r => (match r with | [] => true | y :: _ => decide (cmpN x y < 0)) && ascN r
def rightFs (fs : List Fl) : Bool := decide (fs.length ≤ 256) && (fs.all (fun f => rightN f.n) && ascN (namesF fs))
def okW : List Fl → List Wr → Bool
  | _, [] => true
  | l, w :: ws => rightW w && (decide ((appF l w).length ≤ 256) && okW (appF l w) ws)
def rightWs (fs : List Fl) (ws : List Wr) : Bool := decide (ws.length ≤ 4096) && okW (baseF fs) ws
/-- a disk -/
structure Dk where
  files : List Fl
  waits : List Wr
  room : Int
  down : Bool
  fuse : Int
def Dk.zero : Dk := ⟨[], [], 0, false, 0⟩
def goodD (d : Dk) : Bool := decide (0 ≤ d.room) && (rightFs d.files && rightWs d.files d.waits)
def chkD (d : Dk) : Int := if goodD d then 0 else 8
def seen (d : Dk) : List Fl := lookF d.files d.waits
def lessN (n : Int) : Int := if 0 < n then n - 1 else n
def writeD (d : Dk) (l : List Fl) (w : Wr) : Dk × List Fl × Int :=
  if d.down then (d, l, 7) else if rightW w = false then (d, l, 4) else if w.k ≠ 1 ∧ hasF l w.n = false then (d, l, 5) else
  if 4096 ≤ d.waits.length ∨ 256 < (appF l w).length ∨ d.room < (szF (appF l w) : Int) then (d, appF l w, 9) else
  if d.fuse = 0 then (⟨d.files, if w.k = 1 then d.waits ++ [w] else d.waits, d.room, true, d.fuse⟩, appF l w, 7)
  else (⟨d.files, d.waits ++ [w], d.room, d.down, lessN d.fuse⟩, appF l w, 0)
def doS (d : Dk) (l : List Fl) : List Wr → Dk × Int
  | [] => (d, 0)
  | w :: ws => if (writeD d l w).2.2 = 0 then doS (writeD d l w).1 (writeD d l w).2.1 ws else ((writeD d l w).1, (writeD d l w).2.2)
def doD (d : Dk) (ws : List Wr) : Dk × Int := if goodD d then doS d (seen d) ws else (.zero, 8)
def seeD (d : Dk) : List Fl × Int := if goodD d then (if d.down then ([], 7) else (seen d, 0)) else ([], 8)
def readF (l : List Fl) (n : ByteArray) : ByteArray × Int := match getF l n with | some x => (x, 0) | none => (⟨#[]⟩, 5)
def readD (d : Dk) (n : ByteArray) : ByteArray × Int := if goodD d then (if d.down then (⟨#[]⟩, 7) else readF (seen d) n) else (⟨#[]⟩, 8)
def syncD (d : Dk) : Dk × Int :=
  if goodD d then (if d.down then (d, 7) else if d.fuse = 0 then (⟨d.files, d.waits, d.room, true, d.fuse⟩, 7) else (⟨seen d, [], d.room, d.down, lessN d.fuse⟩, 0)) else (.zero, 8)
def keepN (keep : Int) (n : Nat) : Nat := min keep.toNat n
def tornF (l : List Fl) (w : Option Wr) (tear : Int) : List Fl := match w with | some w => if w.k = 1 ∧ 1 ≤ tear then extF l w.n (w.d.extract 0 (min tear.toNat w.d.size)) else l | none => l
def leftD (d : Dk) (keep tear : Int) : List Fl := tornF (lookF d.files (d.waits.take (keepN keep d.waits.length))) d.waits[keepN keep d.waits.length]? tear
def crashD (d : Dk) (keep tear : Int) : Dk × Int := if goodD d then (⟨leftD d keep tear, [], d.room, false, -1⟩, 0) else (.zero, 8)

theorem asc_sorted : ∀ {ns : List ByteArray}, ascN ns = true ↔ SortedN ns
  | [] => by simp [ascN, SortedN]
  | [x] => by simp [ascN, SortedN]
  | x :: y :: r => by
    have ih := asc_sorted (ns := y :: r)
    unfold ascN
    rw [Bool.and_eq_true, ih, decide_eq_true_eq]
    unfold SortedN
    rw [List.pairwise_cons (a := x)]
    constructor
    · rintro ⟨h1, h2⟩
      refine ⟨fun z hz => ?_, h2⟩
      rcases List.mem_cons.1 hz with rfl | hz
      · exact h1
      · exact cmpN_lt h1 ((List.pairwise_cons.1 h2).1 z hz)
    · rintro ⟨h1, h2⟩
      exact ⟨h1 y (by simp), h2⟩
theorem rightFs_iff {fs : List Fl} : rightFs fs = true ↔ fs.length ≤ 256 ∧ (∀ f ∈ fs, rightN f.n = true) ∧ SortedF fs := by
  unfold rightFs SortedF
  rw [Bool.and_eq_true, Bool.and_eq_true, asc_sorted]
  simp
theorem good_iff {d : Dk} : goodD d = true ↔ 0 ≤ d.room ∧ (d.files.length ≤ 256 ∧ (∀ f ∈ d.files, rightN f.n = true) ∧ SortedF d.files) ∧ d.waits.length ≤ 4096 ∧ okW d.files d.waits = true := by
  unfold goodD rightWs
  rw [Bool.and_eq_true, Bool.and_eq_true, Bool.and_eq_true, rightFs_iff]
  constructor
  · rintro ⟨h1, ⟨h2, h3, h4⟩, h5, h6⟩
    rw [base_sorted h4] at h6
    exact ⟨by simpa using h1, ⟨h2, h3, h4⟩, by simpa using h5, h6⟩
  · rintro ⟨h1, ⟨h2, h3, h4⟩, h5, h6⟩
    rw [base_sorted h4]
    exact ⟨by simpa using h1, ⟨h2, h3, h4⟩, by simpa using h5, h6⟩
theorem seen_good {d : Dk} (h : goodD d = true) : seen d = d.waits.foldl appF d.files := by
  unfold seen lookF; rw [base_sorted (good_iff.1 h).2.1.2.2]
theorem seen_sorted {d : Dk} (h : goodD d = true) : SortedF (seen d) := by rw [seen_good h]; exact sorted_look _ (good_iff.1 h).2.1.2.2
theorem okW_app : ∀ {l : List Fl} {a b : List Wr}, okW l (a ++ b) = (okW l a && okW (a.foldl appF l) b)
  | l, [], b => by simp [okW]
  | l, w :: a, b => by
    have e : ∀ (l : List Fl) (w : Wr) (ws : List Wr), okW l (w :: ws) = (rightW w && (decide ((appF l w).length ≤ 256) && okW (appF l w) ws)) := fun _ _ _ => rfl
    rw [List.cons_append, e, okW_app, e, List.foldl_cons]
    simp only [Bool.and_assoc]
theorem okW_more {l : List Fl} {ws : List Wr} {w : Wr} (h : okW l ws = true) (hw : rightW w = true) (hn : (appF (ws.foldl appF l) w).length ≤ 256) : okW l (ws ++ [w]) = true := by
  rw [okW_app, h]
  simp [okW, hw, hn]
theorem okW_cons {l : List Fl} {w : Wr} {ws : List Wr} (h : okW l (w :: ws) = true) : rightW w = true ∧ (appF l w).length ≤ 256 ∧ okW (appF l w) ws = true := by
  unfold okW at h
  rw [Bool.and_eq_true, Bool.and_eq_true] at h
  exact ⟨h.1, by simpa using h.2.1, h.2.2⟩
theorem okW_len : ∀ (ws : List Wr) {l : List Fl}, l.length ≤ 256 → okW l ws = true → (ws.foldl appF l).length ≤ 256
  | [], _, h, _ => h
  | w :: ws, l, _, h => okW_len ws (okW_cons h).2.1 (okW_cons h).2.2
def Named (l : List Fl) : Prop := ∀ f ∈ l, rightN f.n = true
theorem named_of {l : List Fl} : Named l ↔ ∀ n ∈ namesF l, rightN n = true := by unfold Named namesF; simp
theorem named_put {l : List Fl} {f : Fl} (h : Named l) (hf : rightN f.n = true) : Named (putF l f) := by
  intro x hx
  unfold putF at hx
  rcases List.mem_append.1 hx with hx | hx
  · exact h x (List.mem_of_mem_take hx)
  · rcases List.mem_cons.1 hx with rfl | hx
    · exact hf
    · exact h x (List.mem_of_mem_drop hx)
theorem named_take {l : List Fl} {n : ByteArray} (h : Named l) : Named (takeF l n) := by
  intro x hx
  unfold takeF at hx
  split at hx
  · rcases List.mem_append.1 hx with hx | hx
    · exact h x (List.mem_of_mem_take hx)
    · exact h x (List.mem_of_mem_drop hx)
  · exact h x hx
theorem named_ext {l : List Fl} {n d : ByteArray} (hn : rightN n = true) (h : Named l) : Named (extF l n d) := by
  unfold extF
  split
  · intro x hx
    rcases List.mem_or_eq_of_mem_set hx with hx | rfl
    · exact h x hx
    · exact hn
  · exact named_put h hn
theorem named_app {l : List Fl} {w : Wr} (hw : rightW w = true) (h : Named l) : Named (appF l w) := by
  unfold rightW at hw
  rw [Bool.and_eq_true] at hw
  unfold appF
  split
  · exact named_ext hw.1 h
  · rename_i h1
    split
    · rename_i h2
      have h3 : rightN w.t = true := by
        have := hw.2
        rw [if_neg h1, if_pos h2, Bool.and_eq_true] at this
        exact this.1
      unfold renF
      split
      · exact named_put (named_take (named_take h)) h3
      · exact h
    · split
      · exact named_take h
      · exact h
theorem named_look : ∀ (ws : List Wr) {l : List Fl}, Named l → okW l ws = true → Named (ws.foldl appF l)
  | [], _, h, _ => h
  | _ :: ws, _, h, k => named_look ws (named_app (okW_cons k).1 h) (okW_cons k).2.2
/-- what a write leaves -/
theorem write_good {d : Dk} {l : List Fl} {w : Wr} (h : goodD d = true) (hl : l = seen d) :
    goodD (writeD d l w).1 = true ∧ ((writeD d l w).2.2 = 0 → (writeD d l w).2.1 = seen (writeD d l w).1 ∧ (writeD d l w).1.down = false ∧ d.down = false) := by
  have hg := good_iff.1 h
  have hs := seen_good h
  have key : ∀ (r : Bool) (x : Int), rightW w = true → d.waits.length < 4096 → (appF l w).length ≤ 256 → goodD ⟨d.files, d.waits ++ [w], d.room, r, x⟩ = true := by
    intro r x h1 h2 h3
    rw [good_iff]
    refine ⟨hg.1, hg.2.1, by simp; omega, okW_more hg.2.2.2 h1 ?_⟩
    rw [← hs, ← hl]; exact h3
  have hseen : ∀ (r : Bool) (x : Int), appF l w = seen ⟨d.files, d.waits ++ [w], d.room, r, x⟩ := by
    intro r x
    unfold seen lookF
    dsimp only
    rw [List.foldl_append, hl]; rfl
  have hsame : ∀ (r : Bool) (x : Int), goodD ⟨d.files, d.waits, d.room, r, x⟩ = true := fun r x => good_iff.2 hg
  unfold writeD
  by_cases h1 : d.down = true
  · rw [if_pos h1]; exact ⟨h, fun h => by simp at h⟩
  rw [if_neg h1]
  by_cases h2 : rightW w = false
  · rw [if_pos h2]; exact ⟨h, fun h => by simp at h⟩
  rw [if_neg h2]
  by_cases h3 : w.k ≠ 1 ∧ hasF l w.n = false
  · rw [if_pos h3]; exact ⟨h, fun h => by simp at h⟩
  rw [if_neg h3]
  by_cases h4 : 4096 ≤ d.waits.length ∨ 256 < (appF l w).length ∨ d.room < (szF (appF l w) : Int)
  · rw [if_pos h4]; exact ⟨h, fun h => by simp at h⟩
  rw [if_neg h4]
  have h2' : rightW w = true := by simpa using h2
  by_cases h5 : d.fuse = 0
  · rw [if_pos h5]
    refine ⟨?_, fun h => by simp at h⟩
    by_cases h6 : w.k = 1
    · rw [if_pos h6]; exact key _ _ h2' (by omega) (by omega)
    · rw [if_neg h6]; exact hsame _ _
  · rw [if_neg h5]
    exact ⟨key _ _ h2' (by omega) (by omega), fun _ => ⟨hseen _ _, by simpa using h1, by simpa using h1⟩⟩
theorem do_good : ∀ (ws : List Wr) {d : Dk} {l : List Fl}, goodD d = true → l = seen d →
    goodD (doS d l ws).1 = true ∧ ∀ more, doS d l (ws ++ more) = if (doS d l ws).2 = 0 then doS (doS d l ws).1 (seen (doS d l ws).1) more else doS d l ws
  | [], d, l, h, hl => ⟨h, fun more => by simp [doS, hl]⟩
  | w :: ws, d, l, h, hl => by
    obtain ⟨h1, h2⟩ := write_good (w := w) h hl
    simp only [doS, List.cons_append]
    by_cases hz : (writeD d l w).2.2 = 0
    · simp only [if_pos hz]
      exact do_good ws h1 (h2 hz).1
    · simp only [if_neg hz]
      exact ⟨h1, fun more => by simp⟩
/-- writes done together are done as one by one -/
theorem do_parts (d : Dk) (a b : List Wr) : doD d (a ++ b) = if (doD d a).2 = 0 then doD (doD d a).1 b else doD d a := by
  unfold doD
  by_cases h : goodD d = true
  · simp only [if_pos h]
    obtain ⟨h1, h2⟩ := do_good a h rfl
    rw [h2 b]
    split
    · rename_i hz; simp only [h1, if_true]
    · rfl
  · simp only [if_neg h]
    rfl
/-- a file called otherwise -/
theorem swap_read {d : Dk} {a b : ByteArray} (hw : (doD d [⟨2, a, b, ⟨#[]⟩⟩]).2 = 0) :
    (readD d a).2 = 0 ∧ readD (doD d [⟨2, a, b, ⟨#[]⟩⟩]).1 b = readD d a ∧ ((readD (doD d [⟨2, a, b, ⟨#[]⟩⟩]).1 a).2 = 5 ↔ a ≠ b) := by
  unfold doD at hw ⊢
  by_cases h : goodD d = true
  · simp only [if_pos h] at hw ⊢
    simp only [doS] at hw ⊢
    obtain ⟨h1, h2⟩ := write_good (w := ⟨2, a, b, ⟨#[]⟩⟩) h rfl
    by_cases hz : (writeD d (seen d) ⟨2, a, b, ⟨#[]⟩⟩).2.2 = 0
    · obtain ⟨e1, e2, e0⟩ := h2 hz
      simp only [if_pos hz]
      have hne : hasF (seen d) a = true := by
        cases hx : hasF (seen d) a
        · exfalso
          unfold writeD at hz
          split at hz
          · simp at hz
          · split at hz
            · simp at hz
            · rw [if_pos ⟨by simp, hx⟩] at hz; simp at hz
        · rfl
      have e3 : seen (writeD d (seen d) ⟨2, a, b, ⟨#[]⟩⟩).1 = renF (seen d) a b := by
        rw [← e1]
        unfold writeD at hz ⊢
        split at hz
        · simp at hz
        · rename_i q1
          rw [if_neg q1]
          split at hz
          · simp at hz
          · rename_i q2
            rw [if_neg q2]
            split at hz
            · simp at hz
            · rename_i q3
              rw [if_neg q3]
              split
              · rfl
              · split <;> rfl
      have hs := seen_sorted h
      have g1 := get_ren (t := b) hs hne
      unfold readD
      rw [if_pos h1, if_pos h1, if_pos h]
      simp only [e2, Bool.false_eq_true, if_false, e3, e0, readF, g1]
      rw [get_old hs hne]
      refine ⟨rfl, by simp, ?_⟩
      by_cases hab : a = b
      · subst hab; simp
      · simp [hab]
    · simp only [if_neg hz] at hw
      exact absurd hw hz
  · simp only [if_neg h] at hw
    simp at hw
end Go.Proofs.YtllpfngmnccejaaGreat
namespace Go.Proofs.YtllpfngmnccejaaGreat
open Go Go.RowKit

def Wr.cells (w : Wr) : List Value := [.int .u8 w.k, .string w.n, .string w.t, .string w.d]
def Wr.val (w : Wr) : Value := .agg #[.int .u8 w.k, .string w.n, .string w.t, .string w.d]
def Fl.cells (f : Fl) : List Value := [.string f.n, .string f.d]
def Fl.val (f : Fl) : Value := .agg #[.string f.n, .string f.d]
theorem wr_one (x : Wr) : ∀ u ∈ x.cells, u.oneCell' = true := by
  intro u hu; simp [Wr.cells] at hu; rcases hu with rfl | rfl | rfl | rfl <;> rfl
theorem fl_one (x : Fl) : ∀ u ∈ x.cells, u.oneCell' = true := by
  intro u hu; simp [Fl.cells] at hu; rcases hu with rfl | rfl <;> rfl
theorem wrbox (w : World) (x : Wr) : ∃ W, W = w.alloc (.cells #[.int .u8 x.k, .string x.n, .string x.t, .string x.d] 95) ∧ Below w.heap.size w W ∧ W.heap.size = w.heap.size + 1 ∧ Own W w.heap.size 95 x.cells :=
  ⟨_, rfl, (Below.refl _ _).alloc (Nat.le_refl _) _, by simp, Own.made w _ _⟩
/-- from one who sees to another one -/
def Sees (w w' : World) (base G o : Nat) (t : TypeId) (cs : List Value) (A : Option Addr) (l : List Vf) (g : List Fl → List Fl) (b : Nat) : Prop :=
  ∃ A' c' l', VisTo w w' base G o t cs (Fp A l) A' c' l' ∧ flV l' = g (flV l) ∧ wtV l' ≤ b
set_option maxRecDepth 100000 in
set_option maxHeartbeats 1600000 in
theorem apply_any (base G o : Nat) (t : TypeId) (cs : List Value) (A : Option Addr) (c : Nat) (l : List Vf) (x : Wr) (w : World) (h : VisAt w base G o t cs A c l) (hw : wtV l + 2 + x.d.size ≤ 1099511627776) :
    Calls Tryz.prog 144 #[.pointer (some ⟨G, o, none⟩), x.val] w fun e w' => e = .returned (.tuple #[]) ∧ Sees w w' base G o t cs A l (fun m => appF m x) (wtV l + 2 + x.d.size) := by
  obtain ⟨V, hV, hVb, hVs, oV⟩ := wrbox w x
  have hV1 := h.below hVb
  have y1 := Lib.hid (extend_any base G o t cs A c l x.n x.d V hV1 hw)
  have y2 := Lib.hid (rename_any base G o t cs A c l x.n x.t V hV1)
  have y3 := Lib.hid (take_anyK base G o t cs A c l x.n V hV1)
  have H := Lib.hid (And.intro h (And.intro hVb (takeV_wt_le l x.n h.sorted)))
  have d0 := oV.at_ 0
  have d1 := oV.at_ 1
  have d2 := oV.at_ 2
  have d3 := oV.at_ 3
  simp only [Wr.cells, List.getElem?_cons_zero, List.getElem?_cons_succ] at d0 d1 d2 d3
  unfold Wr.val
  clear h hVb hVs oV hV1 hw
  by_cases k1 : x.k = 1
  · have e1 : Hid ((fun m => appF m x) = fun m => extF m x.n x.d) := Lib.hid (by funext m; unfold appF; rw [if_pos k1])
    rw [k1] at d0 hV ⊢
    clear k1
    go_enter Tryz.func144, Tryz.ntmps144
    go_upto_region 1 with fail
    rw [← hV]
    clear hV
    go_wp2_with fail
    refine y1.out.mono ?_
    rintro _ w1 ⟨rfl, A', c', l', hv, hf, hwt⟩
    have HX := Lib.hid (And.intro (hv.after H.out.2.1) (And.intro hf hwt))
    clear hv hf hwt
    go_wp2_with fail
    refine bodyPost_end (results_none rfl _ _ _) rfl ⟨rfl, A', c', l', HX.out.1, ?_, HX.out.2.2⟩
    rw [e1.out]; exact HX.out.2.1
  by_cases k2 : x.k = 2
  · have e1 : Hid ((fun m => appF m x) = fun m => renF m x.n x.t) := Lib.hid (by funext m; unfold appF; rw [if_neg k1, if_pos k2])
    rw [k2] at d0 hV ⊢
    clear k1 k2
    go_enter Tryz.func144, Tryz.ntmps144
    go_upto_region 1 with fail
    rw [← hV]
    clear hV
    go_wp2_with fail
    refine y2.out.mono ?_
    rintro _ w1 ⟨rfl, A', c', l', hv, hf, hwt⟩
    have HX := Lib.hid (And.intro (hv.after H.out.2.1) (And.intro hf hwt))
    clear hv hf hwt
    go_wp2_with fail
    refine bodyPost_end (results_none rfl _ _ _) rfl ⟨rfl, A', c', l', HX.out.1, ?_, by have := HX.out.2.2; omega⟩
    rw [e1.out]; exact HX.out.2.1
  by_cases k3 : x.k = 3
  · have e1 : Hid ((fun m => appF m x) = fun m => takeF m x.n) := Lib.hid (by funext m; unfold appF; rw [if_neg k1, if_neg k2, if_pos k3])
    rw [k3] at d0 hV ⊢
    clear k1 k2 k3
    go_enter Tryz.func144, Tryz.ntmps144
    go_upto_region 1 with fail
    rw [← hV]
    clear hV
    go_wp2_with fail
    refine y3.out.mono ?_
    rintro e w1 hT
    obtain ⟨hv, v, rfl⟩ := took_to hT
    have HX := Lib.hid (hv.after H.out.2.1)
    clear hv hT
    go_wp2_with fail
    refine bodyPost_end (results_none rfl _ _ _) rfl ⟨rfl, A, c, _, HX.out, ?_, by have := H.out.2.2; omega⟩
    rw [e1.out]; exact takeV_fl _ _
  · have e1 : Hid ((fun m => appF m x) = fun m => m) := Lib.hid (by funext m; unfold appF; rw [if_neg k1, if_neg k2, if_neg k3])
    have t1 : (x.k == 1) = false := beq_eq_false_iff_ne.2 k1
    have t2 : (x.k == 2) = false := beq_eq_false_iff_ne.2 k2
    have t3 : (x.k == 3) = false := beq_eq_false_iff_ne.2 k3
    have HX := Lib.hid (VisTo.refl H.out.1 H.out.2.1)
    clear k1 k2 k3
    go_enter Tryz.func144, Tryz.ntmps144
    go_upto_region 1 with fail
    rw [← hV]
    clear hV
    go_wp2_with fail
    refine bodyPost_end (results_none rfl _ _ _) rfl ⟨rfl, A, c, l, HX.out, ?_, by omega⟩
    rw [e1.out]
end Go.Proofs.YtllpfngmnccejaaGreat
namespace Go.Proofs.YtllpfngmnccejaaGreat
open Go Go.RowKit

theorem flbox (w : World) (x : Fl) : ∃ W, W = w.alloc (.cells #[.string x.n, .string x.d] 199) ∧ Below w.heap.size w W ∧ W.heap.size = w.heap.size + 1 ∧ Own W w.heap.size 199 x.cells :=
  ⟨_, rfl, (Below.refl _ _).alloc (Nat.le_refl _) _, by simp, Own.made w _ _⟩
def wtF (fs : List Fl) : Nat := (fs.map (fun f => 2 + f.d.size)).sum
def wtW (ws : List Wr) : Nat := (ws.map (fun x => 2 + x.d.size)).sum
theorem wtF_take {fs : List Fl} {k : Nat} {f : Fl} (h : fs[k]? = some f) : wtF (fs.take (k + 1)) = wtF (fs.take k) + 2 + f.d.size := by
  unfold wtF; rw [List.take_add_one, h]; simp; omega
theorem wtW_take {ws : List Wr} {k : Nat} {f : Wr} (h : ws[k]? = some f) : wtW (ws.take (k + 1)) = wtW (ws.take k) + 2 + f.d.size := by
  unfold wtW; rw [List.take_add_one, h]; simp; omega
theorem wtF_le (fs : List Fl) (k : Nat) : wtF (fs.take k) ≤ wtF fs := by
  unfold wtF
  have : fs.map (fun f => 2 + f.d.size) = (fs.take k).map (fun f => 2 + f.d.size) ++ (fs.drop k).map (fun f => 2 + f.d.size) := by rw [← List.map_append, List.take_append_drop]
  rw [this, List.sum_append]; omega
theorem wtW_le (ws : List Wr) (k : Nat) : wtW (ws.take k) ≤ wtW ws := by
  unfold wtW
  have : ws.map (fun f => 2 + f.d.size) = (ws.take k).map (fun f => 2 + f.d.size) ++ (ws.drop k).map (fun f => 2 + f.d.size) := by rw [← List.map_append, List.take_append_drop]
  rw [this, List.sum_append]; omega
theorem len_le_wtF (fs : List Fl) : fs.length ≤ wtF fs := by
  unfold wtF; induction fs with
  | nil => simp
  | cons x l ih => simp; omega
theorem len_le_wtW (fs : List Wr) : fs.length ≤ wtW fs := by
  unfold wtW; induction fs with
  | nil => simp
  | cons x l ih => simp; omega
theorem base_take {fs : List Fl} {k : Nat} {f : Fl} (h : fs[k]? = some f) : baseF (fs.take (k + 1)) = extF (baseF (fs.take k)) f.n f.d := by
  unfold baseF; rw [List.take_add_one, h]; simp
theorem look_take {fs : List Fl} {ws : List Wr} {k : Nat} {x : Wr} (h : ws[k]? = some x) : lookF fs (ws.take (k + 1)) = appF (lookF fs (ws.take k)) x := by
  unfold lookF; rw [List.take_add_one, h]; simp
theorem Vis.lower {w : World} {base b : Nat} {A : Option Addr} {c : Nat} {l : List Vf} (h : Vis w base A c l) (hb : b ≤ base) : Vis w b A c l := by
  have low : ∀ {e : TypeId} {size n : Nat} {v : Value} {xs : List Value}, w.ownsRow base e size v n xs → w.ownsRow b e size v n xs := by
    rintro e size n v xs ⟨h1, h2 | ⟨g, cap, cur, h3, h4, h5⟩⟩
    · exact ⟨h1, .inl h2⟩
    · exact ⟨h1, .inr ⟨g, cap, cur, h3, by omega, h5⟩⟩
  exact ⟨low h.row, fun f hf => low (h.parts f hf), h.apart, h.row_apart⟩
theorem VisTo.below {B : Nat} {w V wr : World} {base G o : Nat} {t : TypeId} {cs : List Value} {A : Option Addr} {c : Nat} {l : List Vf} {F : Nat → Prop} (h : VisTo V wr base G o t cs F A c l) (hb : Below B w V) (hG : B ≤ G) (hF : ∀ k, F k → B ≤ k) (hB : B ≤ V.heap.size) : Below B w wr :=
  hb.trans ⟨h.kept.os, h.kept.tape, h.kept.output, h.kept.size, fun k hk => h.kept.block k (by omega) (fun e => by rcases e with e | e; omega; have := hF k e; omega)⟩
def cs0 : List Value := [.slice none 0 0, .int .i64 0]
/-- nothing is seen yet -/
theorem vis_start (w : World) (base : Nat) (hb : base ≤ w.heap.size) : VisAt (w.alloc (.cells #[.slice none 0 0, .int .i64 0] 151)) base w.heap.size 0 151 cs0 none 0 [] :=
  ⟨Own.made w _ _, rfl, rfl, ⟨World.ownsRow_nil _ _ _ _, fun _ h => (by cases h), List.Pairwise.nil, fun _ h => (by cases h)⟩, (fun h => by rcases h with h | ⟨_, h, _⟩ <;> cases h), List.Pairwise.nil, by decide, by simp; omega⟩
def LookInv (V w : World) (G : Nat) (wr : World) (m : List Fl) (b : Nat) : Prop :=
  ∃ A c l, VisTo V wr (w.heap.size + 2) G 0 151 cs0 (Fp none []) A c l ∧ flV l = m ∧ wtV l ≤ b
def Looked (w w' : World) (e : Ending) (m : List Fl) (b : Nat) : Prop :=
  ∃ A c l, e = .returned (.agg #[.slice A l.length c, .int .i64 (szF (flV l) : Int)]) ∧ Vis w' w.heap.size A c l ∧ flV l = m ∧ SortedN (namesV l) ∧ wtV l ≤ b ∧ Below w.heap.size w w'
theorem inv_below {V w wr : World} {G b : Nat} {m : List Fl} (h : LookInv V w G wr m b) (hV : Below w.heap.size w V) (hG : w.heap.size ≤ G) (hs : V.heap.size = w.heap.size + 2) : Below w.heap.size w wr := by
  obtain ⟨A, c, l, hv, _⟩ := h
  exact hv.below hV hG (fun k e => by rcases e with e | ⟨_, e, _⟩ <;> cases e) (by omega)
theorem inv_next {V w wr V1 w2 : World} {G b' : Nat} {m : List Fl} {g : List Fl → List Fl} {A : Option Addr} {c : Nat} {l : List Vf} (h : VisTo V wr (w.heap.size + 2) G 0 151 cs0 (Fp none []) A c l) (hm : flV l = m) (hb : Below wr.heap.size wr V1)
    (k : Sees V1 w2 (w.heap.size + 2) G 0 151 (setV cs0 0 A c l) A l g b') : LookInv V w G w2 (g m) b' := by
  obtain ⟨A', c', l', hv, hf, hw⟩ := k
  exact ⟨A', c', l', h.trans (hv.after hb) h.fp, by rw [hf, hm], hw⟩
theorem look_start (w : World) : ∃ V, V = (w.alloc (.cells #[.slice none 0 0, .int .i64 0] 151)).alloc (.cells #[.slice none 0 0, .int .i64 0] 151) ∧ Below w.heap.size w V ∧ V.heap.size = w.heap.size + 2 ∧
    LookInv V w (w.heap.size + 1) V [] 0 ∧ Own V w.heap.size 151 cs0 := by
  refine ⟨_, rfl, ((Below.refl _ _).alloc (Nat.le_refl _) _).alloc (by simp) _, by simp, ⟨none, 0, [], ?_, rfl, by decide⟩, (Own.made w _ _).more _⟩
  have h := vis_start (w.alloc (.cells #[.slice none 0 0, .int .i64 0] 151)) (w.heap.size + 1) (by simp)
  have hs : (w.alloc (.cells #[.slice none 0 0, .int .i64 0] 151)).heap.size = w.heap.size + 1 := by simp
  rw [hs] at h
  have h2 : VisAt ((w.alloc (.cells #[.slice none 0 0, .int .i64 0] 151)).alloc (.cells #[.slice none 0 0, .int .i64 0] 151)) (w.heap.size + 2) (w.heap.size + 1) 0 151 cs0 none 0 [] :=
    ⟨h.own, h.c0, h.c1, ⟨World.ownsRow_nil _ _ _ _, fun _ h => (by cases h), List.Pairwise.nil, fun _ h => (by cases h)⟩, h.out, h.sorted, h.wt, by simp⟩
  exact VisTo.refl h2 (Below.refl _ _)
set_option maxRecDepth 100000 in
set_option maxHeartbeats 1600000 in
theorem look_any (A B : Option Addr) (ca cb : Nat) (fs : List Fl) (ws : List Wr) (w : World) (hf : Lies 2 Fl.cells w w.heap.size A fs) (hws : Lies 4 Wr.cells w w.heap.size B ws) (hb : wtF fs + wtW ws ≤ 1099511627776) :
    Calls Tryz.prog 139 #[.slice A fs.length ca, .slice B ws.length cb] w fun e w' => Looked w w' e (lookF fs ws) (wtF fs + wtW ws) := by
  obtain ⟨V, hV, hVb, hVs, hI, oR⟩ := look_start w
  have H := Lib.hid (And.intro hf (And.intro hws (And.intro hb (And.intro hVb (And.intro hVs oR)))))
  have HI := Lib.hid hI
  have hl1 : fs.length ≤ 1099511627776 := by have := len_le_wtF fs; omega
  have hl2 : ws.length ≤ 1099511627776 := by have := len_le_wtW ws; omega
  clear hf hws hb hVb hVs hI oR
  go_enter Tryz.func139, Tryz.ntmps139
  go_upto_region 2 with fail
  rw [← hV]
  clear hV
  go_wp2_with fail
  go_loopw [13] (fun i wr => ∃ k : Nat, i = .int .i64 (k : Int) ∧ k ≤ fs.length ∧ LookInv V w (w.heap.size + 1) wr (baseF (fs.take k)) (wtF (fs.take k))) (fun i _ => fs.length - (intOf i).toNat)
  case atStart => exact ⟨0, rfl, by omega, HI.out⟩
  case round =>
    obtain ⟨k, rfl, hk, hinv⟩ := hrel
    by_cases hlt : k < fs.length
    · have hx : fs[k]? = some fs[k] := List.getElem?_eq_getElem hlt
      obtain ⟨b, o, rfl, hB, hxs⟩ := H.out.1 (by omega)
      have hbw := inv_below hinv H.out.2.2.2.1 (by omega) H.out.2.2.2.2.1
      have x0 := (hbw.cell (p := ⟨b, o + k * 2 + 0, none⟩) hB).trans (hxs k _ hx 0 _ rfl)
      have x1 := (hbw.cell (p := ⟨b, o + k * 2 + 1, none⟩) hB).trans (hxs k _ hx 1 _ rfl)
      have hbt := base_take hx
      have hwk := wtF_take hx
      have hle := wtF_le fs (k + 1)
      generalize fs[k] = f at *
      obtain ⟨W, hW, bW, sW, oW⟩ := flbox wr f
      obtain ⟨A', c', l', hv, hfl, hwl⟩ := hinv
      have d0 := oW.at_ 0
      have d1 := oW.at_ 1
      simp only [Fl.cells, List.getElem?_cons_zero, List.getElem?_cons_succ, Nat.add_zero] at d0 d1 x0 x1
      have y := Lib.hid (extend_any _ _ 0 _ _ A' c' l' f.n f.d W (hv.at_.below bW) (by have := H.out.2.2.1; omega))
      have HX := Lib.hid (And.intro hv (And.intro hfl (And.intro bW (And.intro hbt (And.intro hwk hwl)))))
      clear hv hfl hwl bW sW oW hbt hwk hle hx hxs hbw HI
      go_upto_region 5 with fail
      rw [← hW]
      clear hW
      go_wp2_with fail
      refine y.out.mono ?_
      rintro _ w2 ⟨rfl, hs⟩
      have hs2 := inv_next (g := fun m => extF m f.n f.d) (b' := wtV l' + 2 + f.d.size) HX.out.1 HX.out.2.1 HX.out.2.2.1 hs
      have HS := Lib.hid hs2
      clear hs hs2 y x0 x1 d0 d1
      go_wp2_with fail
      go_roundw
      case rel =>
        refine ⟨k + 1, by go_num, by omega, ?_⟩
        rw [HX.out.2.2.2.1]
        obtain ⟨a1, a2, a3, a4, a5, a6⟩ := HS.out
        exact ⟨a1, a2, a3, a4, a5, by have := HX.out.2.2.2.2; omega⟩
      case measure => simp [intOf]; omega
    · have hk2 : k = fs.length := by omega
      subst hk2
      rw [List.take_length] at hinv
      have HJ := Lib.hid hinv
      clear hinv HI
      go_wp2_with fail
      go_loopw [25] (fun i wr => ∃ k : Nat, i = .int .i64 (k : Int) ∧ k ≤ ws.length ∧ LookInv V w (w.heap.size + 1) wr (lookF fs (ws.take k)) (wtF fs + wtW (ws.take k))) (fun i _ => ws.length - (intOf i).toNat)
      case atStart => exact ⟨0, rfl, by omega, by
        obtain ⟨a1, a2, a3, a4, a5, a6⟩ := HJ.out
        exact ⟨a1, a2, a3, a4, a5, by omega⟩⟩
      case round =>
        obtain ⟨k, rfl, hk, hinv⟩ := hrel
        by_cases hlt : k < ws.length
        · have hx : ws[k]? = some ws[k] := List.getElem?_eq_getElem hlt
          obtain ⟨b, o, rfl, hB, hxs⟩ := H.out.2.1 (by omega)
          have hbw := inv_below hinv H.out.2.2.2.1 (by omega) H.out.2.2.2.2.1
          have x0 := (hbw.cell (p := ⟨b, o + k * 4 + 0, none⟩) hB).trans (hxs k _ hx 0 _ rfl)
          have x1 := (hbw.cell (p := ⟨b, o + k * 4 + 1, none⟩) hB).trans (hxs k _ hx 1 _ rfl)
          have x2 := (hbw.cell (p := ⟨b, o + k * 4 + 2, none⟩) hB).trans (hxs k _ hx 2 _ rfl)
          have x3 := (hbw.cell (p := ⟨b, o + k * 4 + 3, none⟩) hB).trans (hxs k _ hx 3 _ rfl)
          have hbt := look_take (fs := fs) hx
          have hwk := wtW_take hx
          have hle := wtW_le ws (k + 1)
          generalize ws[k] = f at *
          obtain ⟨W, hW, bW, sW, oW⟩ := wrbox wr f
          obtain ⟨A', c', l', hv, hfl, hwl⟩ := hinv
          have d0 := oW.at_ 0
          have d1 := oW.at_ 1
          have d2 := oW.at_ 2
          have d3 := oW.at_ 3
          simp only [Wr.cells, List.getElem?_cons_zero, List.getElem?_cons_succ, Nat.add_zero] at d0 d1 d2 d3 x0 x1 x2 x3
          have y := Lib.hid (apply_any _ _ 0 _ _ A' c' l' f W (hv.at_.below bW) (by have := H.out.2.2.1; omega))
          unfold Wr.val at y
          have HX := Lib.hid (And.intro hv (And.intro hfl (And.intro bW (And.intro hbt (And.intro hwk hwl)))))
          clear hv hfl hwl bW sW oW hbt hwk hle hx hxs hbw HJ
          go_upto_region 10 with fail
          rw [← hW]
          clear hW
          go_wp2_with fail
          refine y.out.mono ?_
          rintro _ w2 ⟨rfl, hs⟩
          have hs2 := inv_next (g := fun m => appF m f) (b' := wtV l' + 2 + f.d.size) HX.out.1 HX.out.2.1 HX.out.2.2.1 hs
          have HS := Lib.hid hs2
          clear hs hs2 y x0 x1 x2 x3 d0 d1 d2 d3
          go_wp2_with fail
          go_roundw
          case rel =>
            refine ⟨k + 1, by go_num, by omega, ?_⟩
            rw [HX.out.2.2.2.1]
            obtain ⟨a1, a2, a3, a4, a5, a6⟩ := HS.out
            exact ⟨a1, a2, a3, a4, a5, by have := HX.out.2.2.2.2; omega⟩
          case measure => simp [intOf]; omega
        · have hk3 : k = ws.length := by omega
          subst hk3
          rw [List.take_length] at hinv
          have hbw := inv_below hinv H.out.2.2.2.1 (by omega) H.out.2.2.2.2.1
          obtain ⟨A', c', l', hv, hfl, hwl⟩ := hinv
          have x0 : wr.cell? ⟨w.heap.size + 1, 0, none⟩ = some (.slice A' l'.length c') := by rw [hv.at_.own.at_]; exact hv.at_.c0
          have x1 : wr.cell? ⟨w.heap.size + 1, 1, none⟩ = some (.int .i64 (szF (flV l') : Int)) := by rw [hv.at_.own.at_]; exact hv.at_.c1
          have hR := hv.kept.own H.out.2.2.2.2.2 (fun e => by rcases e with e | e | ⟨_, e, _⟩; omega; cases e; cases e)
          have r0 := hR.at_ 0
          have r1 := hR.at_ 1
          have f0 := hR.open_ 0
          have f1 := hR.open_ 1
          have oE := ((hR.set_ 0 (.slice A' l'.length c')).set_ 1 (.int .i64 (szF (flV l') : Int)))
          have e0 := oE.at_ 0
          have e1 := oE.at_ 1
          simp only [cs0, List.getElem?_cons_zero, List.getElem?_cons_succ, List.set_cons_zero, List.set_cons_succ] at r0 r1 e0 e1
          have kR : KeptK wr ((wr.setCell ⟨w.heap.size, 0, none⟩ (.slice A' l'.length c')).setCell ⟨w.heap.size, 1, none⟩ (.int .i64 (szF (flV l') : Int))) (fun k => k = w.heap.size) :=
            ((KeptK.refl wr (fun k => k = w.heap.size)).set_ (.inl rfl) _).set_ (.inl rfl) _
          have HX := Lib.hid (And.intro ((hv.at_.vis.kept kR (fun k e he => by have := (hv.at_.vis.lt k e).1; omega)).lower (b := w.heap.size) (by omega)) (And.intro hfl (And.intro hv.at_.sorted (And.intro hwl ((hbw.setCell (p := ⟨w.heap.size, 0, none⟩) (Nat.le_refl _) (.slice A' l'.length c')).setCell (p := ⟨w.heap.size, 1, none⟩) (Nat.le_refl _) (.int .i64 (szF (flV l') : Int)))))))
          clear hv hfl hwl hbw hR oE kR HJ
          go_wp2_with fail
          exact bodyPost_ret (v := .agg #[.slice A' l'.length c', .int .i64 (szF (flV l') : Int)]) (by simp [results, Tryz.results139, go_sem, e0, e1]) rfl ⟨A', c', l', rfl, HX.out.1, HX.out.2.1, HX.out.2.2.1, HX.out.2.2.2.1, HX.out.2.2.2.2⟩
end Go.Proofs.YtllpfngmnccejaaGreat
namespace Go.Proofs.YtllpfngmnccejaaGreat
open Go Go.RowKit

theorem infoFl : (Tryz.prog.info? 199).map (fun i => (i.zero, i.size, i.bytes)) = some (some (.agg #[.string ⟨#[]⟩, .string ⟨#[]⟩]), 2, 32) := by kernel_rfl
theorem fl_made (w : World) (x : Fl) : Lies 2 Fl.cells (w.alloc (.cells #[.string x.n, .string x.d] 199)) (w.heap.size + 1) (some ⟨w.heap.size, 0, none⟩) [x] := fun _ => by
  refine ⟨w.heap.size, 0, rfl, by omega, fun i y hy j u hu => ?_⟩
  match i, hy with
  | 0, hy =>
    obtain rfl : x = y := by simpa using hy
    have := (Own.made w 199 x.cells).at_ j
    rw [show 0 + 0 * 2 + j = j by omega]
    exact this.trans hu
set_option maxRecDepth 100000 in
set_option maxHeartbeats 1600000 in
theorem read_any (base G o : Nat) (t : TypeId) (cs : List Value) (A : Option Addr) (c : Nat) (l : List Vf) (n : ByteArray) (w : World) (h : VisAt w base G o t cs A c l) :
    Calls Tryz.prog 95 #[.pointer (some ⟨G, o, none⟩), .string n] w fun e w' => e = .returned (.tuple #[.string (readF (flV l) n).1, .int .i64 (readF (flV l) n).2]) ∧ Below w.heap.size w w' := by
  have hlw := len_le_wt l
  have hwl := h.wt
  have y1 := Lib.hid (find_any G o base t cs A c l n w h.own h.c0 h.vis.row h.sorted (by omega))
  have H := Lib.hid h
  cases hh : hasN (namesV l) n
  · have hg : getF (flV l) n = none := get_none.2 (by rw [has_fl]; exact hh)
    have HG := Lib.hid (by unfold readF; rw [hg] : readF (flV l) n = (⟨#[]⟩, 5))
    rw [HG.out]
    dsimp only
    rw [hh] at y1
    clear h hlw hwl hh hg
    go_enter Tryz.func95, Tryz.ntmps95
    go_wp2_with fail
    refine y1.out.mono ?_
    rintro _ w1 ⟨rfl, b1⟩
    go_wp2_with fail
    go_ret2
    exact ⟨rfl, b1⟩
  · have hat := posN_has h.sorted hh
    obtain ⟨f, hf⟩ : ∃ f, l[posN (namesV l) n]? = some f := by
      unfold namesV at hat ⊢
      rw [List.getElem?_map] at hat
      cases hx : l[posN (l.map Vf.n) n]? with
      | none => rw [hx] at hat; cases hat
      | some f => exact ⟨f, rfl⟩
    have hs := sorted_fl.2 h.sorted
    have hg : getF (flV l) n = some (catB f.ps) := by
      rw [get_old hs (by rw [has_fl]; exact hh)]
      have hp : posF (flV l) n = posN (namesV l) n := by unfold posF; rw [names_fl]
      unfold oldF
      rw [hp]
      unfold flV
      rw [List.getElem?_map, hf]; rfl
    have HG := Lib.hid (by unfold readF; rw [hg] : readF (flV l) n = (catB f.ps, 0))
    rw [HG.out]
    dsimp only
    rw [hh] at y1
    have hlt := (List.getElem?_eq_some_iff.1 hf).1
    obtain ⟨p, hp⟩ : ∃ p, p = posN (namesV l) n := ⟨_, rfl⟩
    rw [← hp] at y1 hf hlt
    have hpw := parts_le_wt (List.mem_of_getElem? hf)
    have hsw := size_le_wt (List.mem_of_getElem? hf)
    have y := fun W' (hp : Parts W' base f) => Lib.hid (data_any base f W' hp (by omega) (by unfold wtV at hwl; omega))
    have HF := Lib.hid hf
    unfold Vf.val at y
    clear h hlw hwl hh hg hat hs hp hpw hsw hf
    go_enter Tryz.func95, Tryz.ntmps95
    go_wp2_with fail
    refine y1.out.mono ?_
    rintro _ w1 ⟨rfl, b1⟩
    have VW := H.out.below b1
    obtain ⟨g, rfl, x0, x1, hg⟩ := vf_at VW.vis.row HF.out
    have a0 : w1.cell? ⟨G, o, none⟩ = some (.slice (some ⟨g, 0, none⟩) l.length c) := by rw [VW.own.at_]; exact VW.c0
    have HP := Lib.hid (And.intro (VW.vis.parts _ (List.mem_of_getElem? HF.out)) b1)
    clear VW b1 y1
    go_wp2_with fail
    refine (y _ HP.out.1).out.mono ?_
    rintro _ w2 ⟨rfl, b2⟩
    go_wp2_with fail
    go_ret2
    exact ⟨rfl, HP.out.2.trans (b2.mono HP.out.2.size)⟩
end Go.Proofs.YtllpfngmnccejaaGreat
namespace Go.Proofs.YtllpfngmnccejaaGreat
open Go Go.RowKit

theorem empty_eq (s : ByteArray) : (s.toList == (⟨#[]⟩ : ByteArray).toList) = noB s := by
  unfold noB
  rw [Bool.eq_iff_iff, beq_iff_eq, decide_eq_true_eq, ByteArray.toList_eq, ByteArray.toList_eq, ← len_of, List.length_eq_zero_iff]
theorem noB_emp (s : ByteArray) : s.toList.isEmpty = noB s := by
  rw [Bool.eq_iff_iff, List.isEmpty_iff, ByteArray.toList_eq, ← List.length_eq_zero_iff, len_of]; unfold noB; simp
set_option maxRecDepth 100000 in
set_option maxHeartbeats 800000 in
theorem rightN_any (n : ByteArray) (w : World) : Calls Tryz.prog 172 #[.string n] w fun e w' => e = .returned (.bool (rightN n)) ∧ w = w' := by
  have e1 : decide ((1 : Int) ≤ (n.size : Int)) = decide (1 ≤ n.size) := by rw [Bool.eq_iff_iff]; simp; omega
  have e2 : decide ((n.size : Int) ≤ 32) = decide (n.size ≤ 32) := by rw [Bool.eq_iff_iff]; simp; omega
  unfold rightN
  rw [← e1, ← e2]
  clear e1 e2
  cases h1 : decide ((1 : Int) ≤ (n.size : Int))
  · go_enter Tryz.func172, Tryz.ntmps172
    go_wp2_with fail
    go_ret
    exact ⟨rfl, rfl⟩
  · go_enter Tryz.func172, Tryz.ntmps172
    go_wp2_with fail
    go_ret
    exact ⟨by rw [Bool.true_and]; rfl, rfl⟩
set_option maxRecDepth 100000 in
set_option maxHeartbeats 1600000 in
theorem rightW_any (x : Wr) (w : World) : Calls Tryz.prog 142 #[x.val] w fun e w' => e = .returned (.bool (rightW x)) ∧ Below w.heap.size w w' := by
  obtain ⟨V, hV, hVb, hVs, oV⟩ := wrbox w x
  have y := fun n => Lib.hid (fun W => rightN_any n W)
  have HB := Lib.hid hVb
  have d0 := oV.at_ 0
  have d1 := oV.at_ 1
  have d2 := oV.at_ 2
  have d3 := oV.at_ 3
  simp only [Wr.cells, List.getElem?_cons_zero, List.getElem?_cons_succ] at d0 d1 d2 d3
  unfold Wr.val
  have e0 := Lib.hid (show rightW x = (rightN x.n && (if x.k = 1 then noB x.t else if x.k = 2 then rightN x.t && noB x.d else if x.k = 3 then noB x.t && noB x.d else false)) from rfl)
  have q1 := noB_emp x.t
  have q2 := noB_emp x.d
  have q3 := empty_eq x.t
  have q4 := empty_eq x.d
  clear hVb hVs oV
  generalize rightW x = r at *
  generalize hr1 : rightN x.n = r1 at *
  have y1 : Hid (∀ W, Calls Tryz.prog 172 #[.string x.n] W fun e w' => e = .returned (.bool r1) ∧ W = w') := Lib.hid (by rw [← hr1]; exact (y x.n).out)
  generalize hr2 : rightN x.t = r2 at *
  have y2 : Hid (∀ W, Calls Tryz.prog 172 #[.string x.t] W fun e w' => e = .returned (.bool r2) ∧ W = w') := Lib.hid (by rw [← hr2]; exact (y x.t).out)
  generalize noB x.t = b1 at *
  generalize noB x.d = b2 at *
  clear hr1 hr2 y
  cases r1
  · rw [Bool.false_and] at e0
    go_enter Tryz.func142, Tryz.ntmps142
    go_upto_region 1 with fail
    rw [← hV]
    clear hV
    go_wp2_with fail
    refine (y1.out _).mono ?_
    rintro _ _ ⟨rfl, rfl⟩
    go_wp2_with fail
    go_ret
    exact ⟨by rw [e0.out]; rfl, HB.out⟩
  · rw [Bool.true_and] at e0
    by_cases k1 : x.k = 1
    · rw [if_pos k1] at e0
      rw [k1] at d0 hV ⊢
      clear k1
      go_enter Tryz.func142, Tryz.ntmps142
      go_upto_region 1 with fail
      rw [← hV]
      clear hV
      go_wp2_with fail
      refine (y1.out _).mono ?_
      rintro _ _ ⟨rfl, rfl⟩
      go_wp2_with fail
      go_ret
      refine ⟨?_, HB.out⟩
      rw [e0.out]
      rfl
    rw [if_neg k1] at e0
    by_cases k2 : x.k = 2
    · rw [if_pos k2] at e0
      rw [k2] at d0 hV ⊢
      clear k1 k2
      cases r2
      · rw [Bool.false_and] at e0
        go_enter Tryz.func142, Tryz.ntmps142
        go_upto_region 1 with fail
        rw [← hV]
        clear hV
        go_wp2_with fail
        refine (y1.out _).mono ?_
        rintro _ _ ⟨rfl, rfl⟩
        go_wp2_with fail
        refine (y2.out _).mono ?_
        rintro _ _ ⟨rfl, rfl⟩
        go_wp2_with fail
        go_ret
        refine ⟨?_, HB.out⟩
        rw [e0.out]
        rfl
      · rw [Bool.true_and] at e0
        go_enter Tryz.func142, Tryz.ntmps142
        go_upto_region 1 with fail
        rw [← hV]
        clear hV
        go_wp2_with fail
        refine (y1.out _).mono ?_
        rintro _ _ ⟨rfl, rfl⟩
        go_wp2_with fail
        refine (y2.out _).mono ?_
        rintro _ _ ⟨rfl, rfl⟩
        go_wp2_with fail
        go_ret
        refine ⟨?_, HB.out⟩
        rw [e0.out]
        rfl
    rw [if_neg k2] at e0
    by_cases k3 : x.k = 3
    · rw [if_pos k3] at e0
      rw [k3] at d0 hV ⊢
      clear k1 k2 k3
      cases b1
      · rw [Bool.false_and] at e0
        go_enter Tryz.func142, Tryz.ntmps142
        go_upto_region 1 with fail
        rw [← hV]
        clear hV
        go_wp2_with fail
        refine (y1.out _).mono ?_
        rintro _ _ ⟨rfl, rfl⟩
        go_wp2_with fail
        go_ret
        refine ⟨?_, HB.out⟩
        rw [e0.out]
        rfl
      · rw [Bool.true_and] at e0
        go_enter Tryz.func142, Tryz.ntmps142
        go_upto_region 1 with fail
        rw [← hV]
        clear hV
        go_wp2_with fail
        refine (y1.out _).mono ?_
        rintro _ _ ⟨rfl, rfl⟩
        go_wp2_with fail
        go_ret
        refine ⟨?_, HB.out⟩
        rw [e0.out]
        rfl
    · rw [if_neg k3] at e0
      have t1 : (x.k == 1) = false := beq_eq_false_iff_ne.2 k1
      have t2 : (x.k == 2) = false := beq_eq_false_iff_ne.2 k2
      have t3 : (x.k == 3) = false := beq_eq_false_iff_ne.2 k3
      clear k1 k2 k3
      go_enter Tryz.func142, Tryz.ntmps142
      go_upto_region 1 with fail
      rw [← hV]
      clear hV
      go_wp2_with fail
      refine (y1.out _).mono ?_
      rintro _ _ ⟨rfl, rfl⟩
      go_wp2_with fail
      go_ret
      refine ⟨?_, HB.out⟩
      rw [e0.out]
      rfl
end Go.Proofs.YtllpfngmnccejaaGreat
namespace Go.Proofs.YtllpfngmnccejaaGreat
open Go Go.RowKit

theorem less_cmp (a b : ByteArray) : Op.bytesLess a.toList b.toList = decide (cmpN a b < 0) := by
  rw [ByteArray.toList_eq, ByteArray.toList_eq]
  unfold cmpN
  rcases cmpB_casesK a.data.toList b.data.toList with ⟨h1, h2⟩ | ⟨h1, h2, h3⟩ | ⟨h1, h2, h3⟩ <;> rw [h1, h2] <;> rfl
def okFs (l : List Fl) : Bool := l.all (fun f => rightN f.n) && ascN (namesF l)
theorem okFs_iff {l : List Fl} : okFs l = true ↔ Named l ∧ SortedF l := by
  unfold okFs Named SortedF
  rw [Bool.and_eq_true, asc_sorted]; simp
theorem okFs_take {fs : List Fl} {k : Nat} (h : okFs fs = true) : okFs (fs.take k) = true := by
  rw [okFs_iff] at *
  exact ⟨fun f hf => h.1 f (List.mem_of_mem_take hf), sorted_sub h.2 (List.take_sublist _ _)⟩
theorem okFs_zero {fs : List Fl} {f : Fl} (h : fs[0]? = some f) : okFs (fs.take (0 + 1)) = rightN f.n := by
  rw [List.take_add_one, h]
  simp [okFs, ascN, namesF]
theorem okFs_next {fs : List Fl} {k : Nat} {f g : Fl} (h : fs[k + 1]? = some f) (hg : fs[k]? = some g) (h0 : okFs (fs.take (k + 1)) = true) : okFs (fs.take (k + 1 + 1)) = (rightN f.n && decide (cmpN g.n f.n < 0)) := by
  obtain ⟨h1, h2⟩ := okFs_iff.1 h0
  have e1 : fs.take (k + 1 + 1) = fs.take (k + 1) ++ [f] := by rw [List.take_add_one, h]; rfl
  have e2 : fs.take (k + 1) = fs.take k ++ [g] := by rw [List.take_add_one, hg]; rfl
  have hgm : g ∈ fs.take (k + 1) := by rw [e2]; simp
  rw [Bool.eq_iff_iff, okFs_iff, Bool.and_eq_true, decide_eq_true_eq, e1]
  constructor
  · rintro ⟨a, b⟩
    refine ⟨a f (by simp), ?_⟩
    unfold SortedF SortedN namesF at b
    rw [List.map_append, List.pairwise_append] at b
    exact b.2.2 g.n (List.mem_map_of_mem hgm) f.n (by simp)
  · rintro ⟨a, b⟩
    refine ⟨fun x hx => ?_, ?_⟩
    · rcases List.mem_append.1 hx with hx | hx
      · exact h1 x hx
      · obtain rfl : x = f := by simpa using hx
        exact a
    · unfold SortedF SortedN namesF at *
      rw [List.map_append, List.pairwise_append]
      refine ⟨h2, by simp, ?_⟩
      intro x hx y hy
      obtain rfl : y = f.n := by simpa using hy
      obtain ⟨z, hz, rfl⟩ := List.mem_map.1 hx
      rw [e2] at hz h2
      rcases List.mem_append.1 hz with hz | hz
      · rw [List.map_append, List.pairwise_append] at h2
        exact cmpN_lt (h2.2.2 z.n (List.mem_map_of_mem hz) g.n (by simp)) b
      · obtain rfl : z = g := by simpa using hz
        exact b
theorem okFs_bad {fs : List Fl} {k : Nat} (h : okFs (fs.take k) = false) : okFs fs = false := by
  cases hx : okFs fs
  · rfl
  · rw [okFs_take hx] at h; cases h
theorem rightFs_ok (fs : List Fl) : rightFs fs = (decide (fs.length ≤ 256) && okFs fs) := rfl
set_option maxRecDepth 100000 in
set_option maxHeartbeats 3200000 in
theorem rightFs_any (A : Option Addr) (ca : Nat) (fs : List Fl) (w : World) (hf : Lies 2 Fl.cells w w.heap.size A fs) :
    Calls Tryz.prog 169 #[.slice A fs.length ca] w fun e w' => e = .returned (.bool (rightFs fs)) ∧ Below w.heap.size w w' := by
  have HF := Lib.hid hf
  rw [rightFs_ok]
  clear hf
  by_cases hn : 256 < fs.length
  · have t1 : decide ((256 : Int) < (fs.length : Int)) = true := by simp; omega
    have hr : (decide (fs.length ≤ 256) && okFs fs) = false := by rw [decide_eq_false (by omega)]; rfl
    rw [hr]
    clear hr hn HF
    go_enter Tryz.func169, Tryz.ntmps169
    go_wp2_with fail
    go_ret
    exact ⟨rfl, Below.refl _ _⟩
  · have t1 : decide ((256 : Int) < (fs.length : Int)) = false := by simp; omega
    have hr : (decide (fs.length ≤ 256) && okFs fs) = okFs fs := by rw [decide_eq_true (by omega)]; rfl
    have hl : fs.length ≤ 256 := by omega
    rw [hr]
    clear hr hn
    go_enter Tryz.func169, Tryz.ntmps169
    go_wp2_with fail
    go_loopw [10] (fun i wr => ∃ k : Nat, i = .int .i64 (k : Int) ∧ k ≤ fs.length ∧ okFs (fs.take k) = true ∧ Below w.heap.size w wr) (fun i _ => fs.length - (intOf i).toNat)
    case atStart => exact ⟨0, rfl, by omega, rfl, Below.refl _ _⟩
    case round =>
      obtain ⟨k, rfl, hk, hok, hb⟩ := hrel
      by_cases hlt : k < fs.length
      · have hx : fs[k]? = some fs[k] := List.getElem?_eq_getElem hlt
        obtain ⟨b, o, rfl, hB, hxs⟩ := HF.out (by omega)
        have x0 := (hb.cell (p := ⟨b, o + k * 2 + 0, none⟩) hB).trans (hxs k _ hx 0 _ rfl)
        have x1 := (hb.cell (p := ⟨b, o + k * 2 + 1, none⟩) hB).trans (hxs k _ hx 1 _ rfl)
        have hbad := fun h => okFs_bad (fs := fs) (k := k + 1) h
        have hprev : ∀ j, k = j + 1 → ∃ g : Fl, wr.cell? ⟨b, o + j * 2, none⟩ = some (.string g.n) ∧ okFs (fs.take (k + 1)) = (rightN (fs[k]).n && decide (cmpN g.n (fs[k]).n < 0)) := fun j hj => by
          have hjl : j < fs.length := by omega
          have hxj : fs[j]? = some fs[j] := List.getElem?_eq_getElem hjl
          refine ⟨fs[j], (hb.cell (p := ⟨b, o + j * 2 + 0, none⟩) hB).trans (hxs j _ hxj 0 _ rfl), ?_⟩
          subst hj
          exact okFs_next hx hxj hok
        have hzero : k = 0 → okFs (fs.take (k + 1)) = rightN (fs[k]).n := fun hz => by subst hz; exact okFs_zero hx
        generalize fs[k] = f at *
        obtain ⟨W, hW, bW, sW, oW⟩ := flbox wr f
        have d0 := oW.at_ 0
        have d1 := oW.at_ 1
        simp only [Fl.cells, List.getElem?_cons_zero, List.getElem?_cons_succ, Nat.add_zero] at d0 d1 x0 x1
        have HX := Lib.hid (And.intro (hb.trans (bW.mono hb.size)) hbad)
        have y1 : Hid (∀ W, Calls Tryz.prog 172 #[.string f.n] W fun e w' => e = .returned (.bool (rightN f.n)) ∧ w' = W) := Lib.hid (fun W => (rightN_any f.n W).mono fun _ _ ⟨h, k⟩ => ⟨h, k.symm⟩)
        have hBW : b < wr.heap.size := by have := hb.size; omega
        clear hxs hx hok hb oW sW
        generalize rightN f.n = r at *
        go_upto_region 6 with fail
        rw [← hW]
        clear hW x0 x1
        have q9 : (k : Int) + 1 < 9223372036854775808 := by omega
        by_cases hz : k = 0
        · have hq := Lib.hid (hzero hz)
          have t2 : decide (0 < k) = false := by simp; omega
          clear hprev hzero hbad hz
          cases r
          · go_quiet ((go_at_call 172; exact Calls.quiet_of_same (y1.out _)))
            go_wp2_with fail
            go_ret
            exact ⟨by rw [HX.out.2 hq.out]; rfl, below_draws HX.out.1 _⟩
          · refine wp_region_quiet_lit (by kernel_rfl) (by kernel_rfl) ?_
            repeat (first | go_big_quiet_step ((go_at_call 172; exact Calls.quiet_of_same (y1.out _))) | quiet_step ((go_at_call 172; exact Calls.quiet_of_same (y1.out _))))
            refine wpQuiet_nil ?_
            intro _ hw'
            obtain ⟨nq, hw''⟩ := hw'
            subst hw''
            go_wp2_with fail
            go_roundw
            case rel => exact ⟨k + 1, by go_num, by omega, hq.out, below_draws HX.out.1 _⟩
            case measure => simp [intOf]; omega
        · obtain ⟨j, hj⟩ : ∃ j, k = j + 1 := ⟨k - 1, by omega⟩
          obtain ⟨g, g0, hq⟩ := hprev j hj
          have hq2 := Lib.hid hq
          have t2 : decide ((0 : Int) < (k : Int)) = true := by simp; omega
          have t3 := less_cmp g.n f.n
          have g1 := (bW.cell (p := ⟨b, o + j * 2, none⟩) hBW).trans g0
          have hjl : j < fs.length := by omega
          subst hj
          clear hprev hzero hbad hz hq g0
          generalize decide (cmpN g.n f.n < 0) = q at *
          cases r
          · go_quiet ((go_at_call 172; exact Calls.quiet_of_same (y1.out _)))
            go_wp2_with fail
            go_ret
            exact ⟨by rw [HX.out.2 hq2.out]; rfl, below_draws HX.out.1 _⟩
          · cases q
            · go_quiet ((go_at_call 172; exact Calls.quiet_of_same (y1.out _)))
              go_wp2_with fail
              go_ret
              exact ⟨by rw [HX.out.2 hq2.out]; rfl, below_draws HX.out.1 _⟩
            · go_quiet ((go_at_call 172; exact Calls.quiet_of_same (y1.out _)))
              go_wp2_with fail
              go_roundw
              case rel => exact ⟨j + 1 + 1, by go_num, by omega, hq2.out, below_draws HX.out.1 _⟩
              case measure => simp [intOf]; omega
      · have hk2 : k = fs.length := by omega
        subst hk2
        rw [List.take_length] at hok
        have HX := Lib.hid (And.intro hok hb)
        clear hok hb
        go_wp2_with fail
        go_ret
        exact ⟨by rw [HX.out.1]; rfl, HX.out.2⟩
end Go.Proofs.YtllpfngmnccejaaGreat
namespace Go.Proofs.YtllpfngmnccejaaGreat
open Go Go.RowKit

theorem okW_next {l : List Fl} {ws : List Wr} {k : Nat} {x : Wr} (h : ws[k]? = some x) (h0 : okW l (ws.take k) = true) : okW l (ws.take (k + 1)) = (rightW x && decide ((appF ((ws.take k).foldl appF l) x).length ≤ 256)) := by
  rw [List.take_add_one, h]
  show okW l (ws.take k ++ [x]) = _
  rw [okW_app, h0]
  simp [okW]
theorem okW_bad {l : List Fl} {ws : List Wr} {k : Nat} (h : okW l (ws.take k) = false) : okW l ws = false := by
  have : ws = ws.take k ++ ws.drop k := (List.take_append_drop k ws).symm
  rw [this, okW_app, h]; rfl
theorem fold_takeK {l : List Fl} {ws : List Wr} {k : Nat} {x : Wr} (h : ws[k]? = some x) : (ws.take (k + 1)).foldl appF l = appF ((ws.take k).foldl appF l) x := by
  rw [List.take_add_one, h]; simp
def SeeInv (V : World) (base G : Nat) (t : TypeId) (cs : List Value) (F : Nat → Prop) (wr : World) (m : List Fl) (b : Nat) : Prop :=
  ∃ A c l, VisTo V wr base G 0 t cs F A c l ∧ flV l = m ∧ wtV l ≤ b
theorem see_next {V wr V1 w2 : World} {base G b' : Nat} {t : TypeId} {cs : List Value} {F : Nat → Prop} {m : List Fl} {g : List Fl → List Fl} {A : Option Addr} {c : Nat} {l : List Vf} (h : VisTo V wr base G 0 t cs F A c l) (hm : flV l = m) (hb : Below wr.heap.size wr V1)
    (k : Sees V1 w2 base G 0 t (setV cs 0 A c l) A l g b') : SeeInv V base G t cs F w2 (g m) b' := by
  obtain ⟨A', c', l', hv, hf, hw⟩ := k
  exact ⟨A', c', l', h.trans (hv.after hb) h.fp, by rw [hf, hm], hw⟩
/-- what look answered, laid in a box -/
theorem looked_box {w w1 : World} {A : Option Addr} {c b : Nat} {l : List Vf} (t : TypeId) (hv : Vis w1 w.heap.size A c l) (hs : SortedN (namesV l)) (hw : wtV l ≤ b) (hb : b ≤ 1099511627776) (hB : Below w.heap.size w w1) :
    ∃ V, V = w1.alloc (.cells #[.slice A l.length c, .int .i64 (szF (flV l) : Int)] t) ∧ Below w.heap.size w V ∧ Below w1.heap.size w1 V ∧ V.heap.size = w1.heap.size + 1 ∧ VisAt V w.heap.size w1.heap.size 0 t [.slice A l.length c, .int .i64 (szF (flV l) : Int)] A c l := by
  refine ⟨_, rfl, hB.alloc hB.size _, (Below.refl _ _).alloc (Nat.le_refl _) _, by simp, ⟨Own.made w1 t _, rfl, rfl, ?_, fun e => by have := (hv.lt _ e).2; omega, hs, by omega, ?_⟩⟩
  · exact hv.kept (KeptK.of_below ((Below.refl w1.heap.size w1).alloc (Nat.le_refl _) _) (Nat.le_refl _) (fun _ => False)) (fun _ _ h => h)
  · have := hB.size; simp; omega
set_option maxRecDepth 100000 in
set_option maxHeartbeats 3200000 in
theorem rightWs_any (A B : Option Addr) (ca cb : Nat) (fs : List Fl) (ws : List Wr) (w : World) (hf : Lies 2 Fl.cells w w.heap.size A fs) (hws : Lies 4 Wr.cells w w.heap.size B ws) (hb : wtF fs + wtW ws ≤ 1099511627776) :
    Calls Tryz.prog 170 #[.slice A fs.length ca, .slice B ws.length cb] w fun e w' => e = .returned (.bool (rightWs fs ws)) ∧ Below w.heap.size w w' := by
  have H := Lib.hid (And.intro hf (And.intro hws hb))
  have hls := len_le_wtW ws
  by_cases hn : 4096 < ws.length
  · have t1 : decide ((4096 : Int) < (ws.length : Int)) = true := by simp; omega
    have hr : rightWs fs ws = false := by unfold rightWs; rw [decide_eq_false (by omega)]; rfl
    rw [hr]
    clear hr hn H hf hws hb hls
    go_enter Tryz.func170, Tryz.ntmps170
    go_wp2_with fail
    go_ret
    exact ⟨rfl, Below.refl _ _⟩
  · have t1 : decide ((4096 : Int) < (ws.length : Int)) = false := by simp; omega
    have hr : rightWs fs ws = okW (baseF fs) ws := by unfold rightWs; rw [decide_eq_true (by omega)]; rfl
    have hl : ws.length ≤ 4096 := by omega
    have y1 := Lib.hid (look_any A none ca 0 fs [] w hf (fun h => absurd h (by simp)) (by show wtF fs + 0 ≤ _; omega))
    rw [hr]
    clear hr hn hf hws hb hls
    go_enter Tryz.func170, Tryz.ntmps170
    go_wp2_with fail
    refine y1.out.mono ?_
    rintro _ w1 ⟨A1, c1, l1, rfl, hv, hfl, hs, hw, hB⟩
    obtain ⟨V, hV, hVb, hV1, hVs, hat⟩ := looked_box 151 hv hs hw (by have := H.out.2.2; show wtF fs + 0 ≤ _; omega) hB
    have hw1 : w.heap.size ≤ w1.heap.size := hB.size
    have HV := Lib.hid (And.intro hat (And.intro hfl (And.intro hw (And.intro hVb (And.intro hVs hw1)))))
    clear hat hfl hw hVb hV1 hVs hv hs hB y1
    go_upto_region 4 with fail
    rw [← hV]
    clear hV
    go_wp2_with fail
    go_loopw [15] (fun i wr => ∃ k : Nat, i = .int .i64 (k : Int) ∧ k ≤ ws.length ∧ SeeInv V w.heap.size w1.heap.size 151 [.slice A1 l1.length c1, .int .i64 (szF (flV l1) : Int)] (Fp A1 l1) wr ((ws.take k).foldl appF (baseF fs)) (wtF fs + wtW (ws.take k)) ∧ okW (baseF fs) (ws.take k) = true) (fun i _ => ws.length - (intOf i).toNat)
    case atStart => exact ⟨0, rfl, by omega, ⟨A1, c1, l1, VisTo.refl HV.out.1 (Below.refl _ _), HV.out.2.1, HV.out.2.2.1⟩, rfl⟩
    case round =>
      obtain ⟨k, rfl, hk, ⟨A', c', l', hv, hfl, hwl⟩, hok⟩ := hrel
      have hbw : Below w.heap.size w wr := hv.below HV.out.2.2.2.1 (by have := HV.out.2.2.2.2.2; omega) (fun k e => (HV.out.1.vis.lt k e).1) (HV.out.2.2.2.1).size
      by_cases hlt : k < ws.length
      · have hx : ws[k]? = some ws[k] := List.getElem?_eq_getElem hlt
        obtain ⟨b, o, rfl, hB, hxs⟩ := H.out.2.1 (by omega)
        have x0 := (hbw.cell (p := ⟨b, o + k * 4 + 0, none⟩) hB).trans (hxs k _ hx 0 _ rfl)
        have x1 := (hbw.cell (p := ⟨b, o + k * 4 + 1, none⟩) hB).trans (hxs k _ hx 1 _ rfl)
        have x2 := (hbw.cell (p := ⟨b, o + k * 4 + 2, none⟩) hB).trans (hxs k _ hx 2 _ rfl)
        have x3 := (hbw.cell (p := ⟨b, o + k * 4 + 3, none⟩) hB).trans (hxs k _ hx 3 _ rfl)
        have hft := fold_takeK (l := baseF fs) hx
        have hnx := okW_next hx hok
        have hbad := fun h => okW_bad (l := baseF fs) (ws := ws) (k := k + 1) h
        have hwk := wtW_take hx
        have hle := wtW_le ws (k + 1)
        generalize ws[k] = f at *
        obtain ⟨W, hW, bW, sW, oW⟩ := wrbox wr f
        have d0 := oW.at_ 0
        have d1 := oW.at_ 1
        have d2 := oW.at_ 2
        have d3 := oW.at_ 3
        simp only [Wr.cells, List.getElem?_cons_zero, List.getElem?_cons_succ, Nat.add_zero] at d0 d1 d2 d3 x0 x1 x2 x3
        have y2 := Lib.hid (rightW_any f W)
        unfold Wr.val at y2
        have HX := Lib.hid (And.intro hv (And.intro hfl (And.intro bW (And.intro hft (And.intro hwk (And.intro hwl (And.intro hnx (And.intro hbad (And.intro oW (And.intro (hbw.trans (bW.mono hbw.size)) (by have := H.out.2.2; omega : wtV l' + 2 + f.d.size ≤ 1099511627776)))))))))))
        clear hv hfl hwl bW sW oW hft hnx hbad hwk hle hx hxs hbw hok
        generalize hr : rightW f = r at *
        go_upto_region 7 with fail
        rw [← hW]
        clear hW
        go_wp2_with fail
        refine y2.out.mono ?_
        rintro _ w2 ⟨rfl, b2⟩
        have oW2 := HX.out.2.2.2.2.2.2.2.2.1.past b2 HX.out.2.2.2.2.2.2.2.2.1.inside
        have HY := Lib.hid (And.intro b2 (HX.out.2.2.2.2.2.2.2.2.2.1.trans (b2.mono (HX.out.2.2.2.2.2.2.2.2.2.1).size)))
        clear x0 x1 x2 x3 d0 d1 d2 d3 y2 b2
        cases r
        · have hz := HX.out.2.2.2.2.2.2.2.1 (by rw [HX.out.2.2.2.2.2.2.1]; rfl)
          have HZ := Lib.hid hz
          clear hz oW2
          go_wp2_with fail
          go_ret
          exact ⟨by rw [HZ.out]; rfl, HY.out.2⟩
        · have d0 := oW2.at_ 0
          have d1 := oW2.at_ 1
          have d2 := oW2.at_ 2
          have d3 := oW2.at_ 3
          simp only [Wr.cells, List.getElem?_cons_zero, List.getElem?_cons_succ] at d0 d1 d2 d3
          have hbl : Below wr.heap.size wr w2 := HX.out.2.2.1.trans (HY.out.1.mono HX.out.2.2.1.size)
          have y3 := Lib.hid (apply_any _ _ 0 _ _ A' c' l' f w2 (HX.out.1.at_.below hbl) HX.out.2.2.2.2.2.2.2.2.2.2)
          unfold Wr.val at y3
          have HB2 := Lib.hid hbl
          clear oW2 hbl
          go_wp2_with fail
          refine y3.out.mono ?_
          rintro _ w3 ⟨rfl, hs⟩
          have hs2 := see_next (g := fun m => appF m f) (b' := wtV l' + 2 + f.d.size) HX.out.1 HX.out.2.1 HB2.out hs
          obtain ⟨A2, c2, l2, hv2, hfl2, hwl2⟩ := hs2
          have hb3 : Below w.heap.size w w3 := hv2.below HV.out.2.2.2.1 (by have := HV.out.2.2.2.2.2; omega) (fun k e => (HV.out.1.vis.lt k e).1) (HV.out.2.2.2.1).size
          have y4 := Lib.hid (many_any w1.heap.size 0 _ _ A2 c2 l2.length w3 hv2.at_.own hv2.at_.c0)
          have hln : l2.length = (appF ((ws.take k).foldl appF (baseF fs)) f).length := by rw [← hfl2]; unfold flV; simp
          have HS := Lib.hid (And.intro hv2 (And.intro hfl2 (And.intro hwl2 (And.intro hb3 hln))))
          clear hv2 hfl2 hwl2 hs y3 d0 d1 d2 d3 hb3 hln
          go_wp2_with fail
          refine y4.out.mono ?_
          rintro _ _ ⟨rfl, rfl⟩
          by_cases hm : 256 < l2.length
          · have t2 : decide ((256 : Int) < (l2.length : Int)) = true := by simp; omega
            have hz := HX.out.2.2.2.2.2.2.2.1 (by rw [HX.out.2.2.2.2.2.2.1, decide_eq_false (by rw [← HS.out.2.2.2.2]; omega)]; rfl)
            have HZ := Lib.hid hz
            clear hz hm y4
            go_wp2_with fail
            go_ret
            exact ⟨by rw [HZ.out]; rfl, HS.out.2.2.2.1⟩
          · have t2 : decide ((256 : Int) < (l2.length : Int)) = false := by simp; omega
            have hz := HX.out.2.2.2.2.2.2.1
            rw [decide_eq_true (by rw [← HS.out.2.2.2.2]; omega)] at hz
            have HZ := Lib.hid hz
            clear hz hm y4
            go_wp2_with fail
            go_roundw
            case rel =>
              refine ⟨k + 1, by go_num, by omega, ⟨A2, c2, l2, HS.out.1, ?_, ?_⟩, by rw [HZ.out]; rfl⟩
              · rw [HX.out.2.2.2.1]; exact HS.out.2.1
              · have := HX.out.2.2.2.2.1; have := HX.out.2.2.2.2.2.1; have := HS.out.2.2.1; omega
            case measure => simp [intOf]; omega
      · have hk3 : k = ws.length := by omega
        subst hk3
        rw [List.take_length] at hok
        have HX := Lib.hid (And.intro hok hbw)
        clear hok hbw hv hfl hwl HV
        go_wp2_with fail
        go_ret
        exact ⟨by rw [HX.out.1]; rfl, HX.out.2⟩
end Go.Proofs.YtllpfngmnccejaaGreat
namespace Go.Proofs.YtllpfngmnccejaaGreat
open Go Go.RowKit

theorem infoWr : (Tryz.prog.info? 95).map (fun i => (i.zero, i.size, i.bytes)) = some (some (.agg #[.int .u8 0, .string ⟨#[]⟩, .string ⟨#[]⟩, .string ⟨#[]⟩]), 4, 56) := by kernel_rfl
theorem lies_news {α : Type} {size : Nat} {cells : α → List Value} {w : World} {B : Nat} {ad : Addr} {l : List α} (hpos : 0 < size) (hcl : ∀ x, (cells x).length = size) (h : Lies size cells w B (some ad) l) : ∀ j u, (l.flatMap cells)[j]? = some u → w.cell? (ad.add j) = some u := by
  intro j u hu
  obtain ⟨i, r, y, rfl, hi, hr⟩ := flat_back hpos hcl l j u hu
  have hp : 0 < l.length := by have := (List.getElem?_eq_some_iff.1 hi).1; omega
  obtain ⟨b, o, e, _, hc⟩ := h hp
  obtain rfl : ad = ⟨b, o, none⟩ := by injection e
  have ea : (⟨b, o, none⟩ : Addr).add (i * size + r) = ⟨b, o + i * size + r, none⟩ := by unfold Addr.add; split <;> simp_all <;> omega
  rw [ea]
  exact hc i y hi r u hr
set_option maxRecDepth 100000 in
set_option maxHeartbeats 800000 in
theorem cloneFl_any (A : Option Addr) (c : Nat) (l : List Fl) (w : World) (hl : Lies 2 Fl.cells w w.heap.size A l) (hn : l.length ≤ 1099511627776) :
    Calls Tryz.prog 140 #[.slice A l.length c] w fun e w' => ∃ A' c', e = .returned (.slice A' l.length c') ∧ w'.ownsRow w.heap.size 199 2 (.slice A' l.length c') l.length (l.flatMap Fl.cells) ∧ Below w.heap.size w w' := by
  have q26 := fun (w : World) (a : Option Addr) (n c n' c' : Nat) => Lib.run_eql_slice_nil (P := Tryz.prog) w _ _ a n c n' c' Tryz.underlying87
  have hU := Tryz.underlying87
  obtain ⟨i0, hi, hz0, hz1, hz2⟩ := info_parts infoFl
  cases A with
  | none =>
    have h0 : l = [] := by
      cases l with
      | nil => rfl
      | cons x l => obtain ⟨_, _, e, _⟩ := hl (by simp); cases e
    subst h0
    clear hl
    go_enter Tryz.func140, Tryz.ntmps140
    go_wp2_with fail
    go_ret
    exact ⟨none, 0, rfl, World.ownsRow_nil _ _ _ _, Below.refl _ _⟩
  | some ad =>
    have HN := Lib.hid (lies_news (size := 2) (cells := Fl.cells) (by decide) (fun _ => rfl) hl)
    have hone : ∀ u ∈ l.flatMap Fl.cells, u.oneCell' = true := fun u hu => by obtain ⟨x, _, hx⟩ := List.mem_flatMap.1 hu; exact fl_one x u hx
    have hlen : (l.flatMap Fl.cells).length = l.length * 2 := flat_size (size := 2) (cells := Fl.cells) (fun _ => rfl) l
    have HO := Lib.hid (And.intro hone hlen)
    clear hl hone hlen
    go_enter Tryz.func140, Tryz.ntmps140
    go_wp2_with (at_builtin; refine wpList_append_own_at _ rfl _ _ 87 rfl w.heap.size 199 i0 _ 2 32 hU hi hz0 hz1 hz2 rfl (by decide) _ _ _ rfl (World.ownsRow_made w #[] 0 (Nat.le_refl _) (Nat.zero_le _) rfl) ad l.length c (l.flatMap Fl.cells) rfl ?c1 ?c2 ?c3 ?c4 ?c5 ?c6 ?_)
    case c1 => exact HO.out.2
    case c2 => exact fun j u hu => (World.cell?_alloc_some _ _ _ (by rw [HN.out j u hu]; rfl)).trans (HN.out j u hu)
    case c3 => exact HO.out.1
    case c4 => unfold maxLen; omega
    case c5 => omega
    case c6 => simp
    intro v' w' ho' hg' _ _
    have hb : Below w.heap.size w w' := ((Below.refl _ _).alloc (Nat.le_refl _) _).grown hg' (by simp) (by simp [Value.ownBlock])
    obtain ⟨A', c', rfl⟩ := row_slice ho'
    have HX := Lib.hid (And.intro ho' hb)
    clear ho' hg' hb
    go_wp2
    go_ret
    exact ⟨A', c', rfl, HX.out.1, HX.out.2⟩

set_option maxRecDepth 100000 in
set_option maxHeartbeats 800000 in
theorem cloneWr_any (A : Option Addr) (c : Nat) (l : List Wr) (w : World) (hl : Lies 4 Wr.cells w w.heap.size A l) (hn : l.length ≤ 1099511627776) :
    Calls Tryz.prog 141 #[.slice A l.length c] w fun e w' => ∃ A' c', e = .returned (.slice A' l.length c') ∧ w'.ownsRow w.heap.size 95 4 (.slice A' l.length c') l.length (l.flatMap Wr.cells) ∧ Below w.heap.size w w' := by
  have q26 := fun (w : World) (a : Option Addr) (n c n' c' : Nat) => Lib.run_eql_slice_nil (P := Tryz.prog) w _ _ a n c n' c' Tryz.underlying88
  have hU := Tryz.underlying88
  obtain ⟨i0, hi, hz0, hz1, hz2⟩ := info_parts infoWr
  cases A with
  | none =>
    have h0 : l = [] := by
      cases l with
      | nil => rfl
      | cons x l => obtain ⟨_, _, e, _⟩ := hl (by simp); cases e
    subst h0
    clear hl
    go_enter Tryz.func141, Tryz.ntmps141
    go_wp2_with fail
    go_ret
    exact ⟨none, 0, rfl, World.ownsRow_nil _ _ _ _, Below.refl _ _⟩
  | some ad =>
    have HN := Lib.hid (lies_news (size := 4) (cells := Wr.cells) (by decide) (fun _ => rfl) hl)
    have hone : ∀ u ∈ l.flatMap Wr.cells, u.oneCell' = true := fun u hu => by obtain ⟨x, _, hx⟩ := List.mem_flatMap.1 hu; exact wr_one x u hx
    have hlen : (l.flatMap Wr.cells).length = l.length * 4 := flat_size (size := 4) (cells := Wr.cells) (fun _ => rfl) l
    have HO := Lib.hid (And.intro hone hlen)
    clear hl hone hlen
    go_enter Tryz.func141, Tryz.ntmps141
    go_wp2_with (at_builtin; refine wpList_append_own_at _ rfl _ _ 88 rfl w.heap.size 95 i0 _ 4 56 hU hi hz0 hz1 hz2 rfl (by decide) _ _ _ rfl (World.ownsRow_made w #[] 0 (Nat.le_refl _) (Nat.zero_le _) rfl) ad l.length c (l.flatMap Wr.cells) rfl ?c1 ?c2 ?c3 ?c4 ?c5 ?c6 ?_)
    case c1 => exact HO.out.2
    case c2 => exact fun j u hu => (World.cell?_alloc_some _ _ _ (by rw [HN.out j u hu]; rfl)).trans (HN.out j u hu)
    case c3 => exact HO.out.1
    case c4 => unfold maxLen; omega
    case c5 => omega
    case c6 => simp
    intro v' w' ho' hg' _ _
    have hb : Below w.heap.size w w' := ((Below.refl _ _).alloc (Nat.le_refl _) _).grown hg' (by simp) (by simp [Value.ownBlock])
    obtain ⟨A', c', rfl⟩ := row_slice ho'
    have HX := Lib.hid (And.intro ho' hb)
    clear ho' hg' hb
    go_wp2
    go_ret
    exact ⟨A', c', rfl, HX.out.1, HX.out.2⟩
/-- a disk as it lies -/
structure Dl where
  fA : Option Addr
  fc : Nat
  files : List Fl
  wA : Option Addr
  wc : Nat
  waits : List Wr
  room : Int
  down : Bool
  fuse : Int
namespace Dl
def d (x : Dl) : Dk := ⟨x.files, x.waits, x.room, x.down, x.fuse⟩
def cells (x : Dl) : List Value := [.slice x.fA x.files.length x.fc, .slice x.wA x.waits.length x.wc, .int .i64 x.room, .bool x.down, .int .i64 x.fuse]
def val (x : Dl) : Value := .agg #[.slice x.fA x.files.length x.fc, .slice x.wA x.waits.length x.wc, .int .i64 x.room, .bool x.down, .int .i64 x.fuse]
end Dl
structure DIn (w : World) (B : Nat) (x : Dl) : Prop where
  files : Lies 2 Fl.cells w B x.fA x.files
  waits : Lies 4 Wr.cells w B x.wA x.waits
  cap : x.waits.length ≤ x.wc
theorem DIn.past {w w' : World} {B B' : Nat} {x : Dl} (h : DIn w B x) (hb : Below B' w w') (hB : B ≤ B') : DIn w' B x := ⟨h.files.past hb hB, h.waits.past hb hB, h.cap⟩
theorem DIn.wide {w : World} {B B' : Nat} {x : Dl} (h : DIn w B x) (hB : B ≤ B') : DIn w B' x := ⟨h.files.wide hB, h.waits.wide hB, h.cap⟩
theorem DIn.keep {w w' : World} {x : Dl} (h : DIn w w.heap.size x) (hb : Below w.heap.size w w') : DIn w' w'.heap.size x := (h.past hb (Nat.le_refl _)).wide hb.size
def wtD (d : Dk) : Nat := wtF d.files + wtW d.waits
structure DOk (x : Dl) : Prop where
  wt : wtD x.d ≤ 1099511627776
  fuse : -9223372036854775808 ≤ x.fuse ∧ x.fuse ≤ 9223372036854775807
theorem dbox (w : World) (x : Dl) : ∃ W, W = w.alloc (.cells #[.slice x.fA x.files.length x.fc, .slice x.wA x.waits.length x.wc, .int .i64 x.room, .bool x.down, .int .i64 x.fuse] 90) ∧ Below w.heap.size w W ∧ W.heap.size = w.heap.size + 1 ∧ Own W w.heap.size 90 x.cells :=
  ⟨_, rfl, (Below.refl _ _).alloc (Nat.le_refl _) _, by simp, Own.made w _ _⟩
theorem own5 {w : World} {P : Nat} {t : TypeId} {a0 a1 a2 a3 a4 : Value} (h : Own w P t [a0, a1, a2, a3, a4]) :
    w.cell? ⟨P, 0, none⟩ = some a0 ∧ w.cell? ⟨P, 1, none⟩ = some a1 ∧ w.cell? ⟨P, 2, none⟩ = some a2 ∧ w.cell? ⟨P, 3, none⟩ = some a3 ∧ w.cell? ⟨P, 4, none⟩ = some a4 :=
  ⟨h.at_ 0, h.at_ 1, h.at_ 2, h.at_ 3, h.at_ 4⟩
set_option maxRecDepth 100000 in
set_option maxHeartbeats 3200000 in
theorem dcheck_anyK (x : Dl) (w : World) (h : DIn w w.heap.size x) (ok : DOk x) :
    Calls Tryz.prog 138 #[x.val] w fun e w' => e = .returned (.int .i64 (chkD x.d)) ∧ Below w.heap.size w w' := by
  obtain ⟨V, hV, hVb, hVs, oV⟩ := dbox w x
  have hk := h.keep hVb
  have y1 := Lib.hid (rightFs_any x.fA x.fc x.files V hk.files)
  have y2 := fun W (hb : Below V.heap.size V W) => Lib.hid (rightWs_any x.fA x.wA x.fc x.wc x.files x.waits W (hk.keep hb).files (hk.keep hb).waits ok.wt)
  have HB := Lib.hid (And.intro hVb oV)
  obtain ⟨d0, d1, d2, d3, d4⟩ := own5 oV
  have hres : Hid (chkD x.d = if decide (x.room < 0) = true then 8 else if rightFs x.files = false then 8 else if rightWs x.files x.waits = false then 8 else 0) := by
    refine Lib.hid ?_
    unfold chkD goodD Dl.d
    dsimp only
    by_cases hr : x.room < 0
    · rw [decide_eq_true hr, decide_eq_false (by omega)]; rfl
    · rw [decide_eq_false hr, decide_eq_true (by omega)]
      cases rightFs x.files <;> cases rightWs x.files x.waits <;> rfl
  unfold Dl.val
  clear h ok hVb hVs hk oV
  generalize chkD x.d = r at *
  generalize rightFs x.files = r1 at *
  generalize rightWs x.files x.waits = r2 at *
  cases hr : decide (x.room < 0)
  · rw [hr] at hres
    simp only [Bool.false_eq_true, if_false] at hres
    cases r1
    · simp only [if_true] at hres
      go_enter Tryz.func138, Tryz.ntmps138
      go_upto_region 1 with fail
      rw [← hV]
      clear hV
      go_wp2_with fail
      refine y1.out.mono ?_
      rintro _ w1 ⟨rfl, b1⟩
      have HX := Lib.hid (HB.out.1.trans (b1.mono HB.out.1.size))
      clear b1
      go_wp2_with fail
      go_ret
      exact ⟨by rw [hres.out]; rfl, HX.out⟩
    · simp only [Bool.true_eq_false, if_false] at hres
      go_enter Tryz.func138, Tryz.ntmps138
      go_upto_region 1 with fail
      rw [← hV]
      clear hV
      go_wp2_with fail
      refine y1.out.mono ?_
      rintro _ w1 ⟨rfl, b1⟩
      have HX := Lib.hid (And.intro b1 (HB.out.1.trans (b1.mono HB.out.1.size)))
      have oW := HB.out.2.past b1 HB.out.2.inside
      clear d0 d1 d2 d3 d4
      obtain ⟨d0, d1, d2, d3, d4⟩ := own5 oW
      clear b1 oW
      go_wp2_with fail
      refine (y2 _ HX.out.1).out.mono ?_
      rintro _ w2 ⟨rfl, b2⟩
      have HY := Lib.hid (HX.out.2.trans (b2.mono HX.out.2.size))
      clear b2
      cases r2
      · simp only [if_true] at hres
        go_wp2_with fail
        go_ret
        exact ⟨by rw [hres.out]; rfl, HY.out⟩
      · simp only [Bool.true_eq_false, if_false] at hres
        go_wp2_with fail
        go_ret
        exact ⟨by rw [hres.out]; rfl, HY.out⟩
  · rw [hr] at hres
    simp only [if_true] at hres
    go_enter Tryz.func138, Tryz.ntmps138
    go_upto_region 1 with fail
    rw [← hV]
    clear hV
    go_wp2_with fail
    go_ret
    exact ⟨by rw [hres.out]; rfl, HB.out.1⟩
end Go.Proofs.YtllpfngmnccejaaGreat
namespace Go.Proofs.YtllpfngmnccejaaGreat
open Go Go.RowKit

theorem row_lower {w : World} {base b : Nat} {e : TypeId} {size n : Nat} {v : Value} {xs : List Value} (h : w.ownsRow base e size v n xs) (hb : b ≤ base) : w.ownsRow b e size v n xs := by
  obtain ⟨h1, h2 | ⟨g, cap, cur, h3, h4, h5⟩⟩ := h
  · exact ⟨h1, .inl h2⟩
  · exact ⟨h1, .inr ⟨g, cap, cur, h3, by omega, h5⟩⟩
def OpenMid (w1 : World) (D : Nat) (x : Dl) (wx : World) : Prop :=
  ∃ Af cf Aw cw, Own wx D 90 [.slice Af x.files.length cf, .slice Aw x.waits.length cw, .int .i64 x.room, .bool x.down, .int .i64 x.fuse] ∧
    wx.ownsRow w1.heap.size 199 2 (.slice Af x.files.length cf) x.files.length (x.files.flatMap Fl.cells) ∧
    wx.ownsRow w1.heap.size 95 4 (.slice Aw x.waits.length cw) x.waits.length (x.waits.flatMap Wr.cells) ∧ KeptK w1 wx (fun k => k = D)
theorem open_mid {w1 wx : World} {D b b' : Nat} {x : Dl} {Af Aw : Option Addr} {cf cw : Nat} (hD : D < w1.heap.size) (hb : Below w1.heap.size w1 wx) (oD : Own wx D 90 x.cells)
    (rf : wx.ownsRow b 199 2 (.slice Af x.files.length cf) x.files.length (x.files.flatMap Fl.cells)) (rw_ : wx.ownsRow b' 95 4 (.slice Aw x.waits.length cw) x.waits.length (x.waits.flatMap Wr.cells)) (h1 : w1.heap.size ≤ b) (h2 : w1.heap.size ≤ b') :
    OpenMid w1 D x ((wx.setCell ⟨D, 0, none⟩ (.slice Af x.files.length cf)).setCell ⟨D, 1, none⟩ (.slice Aw x.waits.length cw)) := by
  have kk : KeptK wx ((wx.setCell ⟨D, 0, none⟩ (.slice Af x.files.length cf)).setCell ⟨D, 1, none⟩ (.slice Aw x.waits.length cw)) (fun k => k = D) := ((KeptK.refl wx (fun k => k = D)).set_ (.inl rfl) _).set_ (.inl rfl) _
  refine ⟨Af, cf, Aw, cw, (oD.set_ 0 _).set_ 1 _, row_lower (kk.row rf (fun k e he => ?_)) h1, row_lower (kk.row rw_ (fun k e he => ?_)) h2, (KeptK.of_below hb (Nat.le_refl _) (fun k => k = D)).trans kk (fun _ _ h => h)⟩
  · have := (rf.lt k e).1; omega
  · have := (rw_.lt k e).1; omega
def Opened (w w' : World) (x : Dl) (e : Ending) : Prop :=
  ∃ Af cf Aw cw A c l, e = .returned (.tuple #[.agg #[.slice Af x.files.length cf, .slice Aw x.waits.length cw, .int .i64 x.room, .bool x.down, .int .i64 x.fuse, .slice A l.length c, .int .i64 (szF (flV l) : Int)], .int .i64 0]) ∧
    w'.ownsRow w.heap.size 199 2 (.slice Af x.files.length cf) x.files.length (x.files.flatMap Fl.cells) ∧ w'.ownsRow w.heap.size 95 4 (.slice Aw x.waits.length cw) x.waits.length (x.waits.flatMap Wr.cells) ∧
    Vis w' w.heap.size A c l ∧ flV l = seen x.d ∧ SortedN (namesV l) ∧ wtV l ≤ wtD x.d
def zeroWk : Value := .agg #[.slice none 0 0, .slice none 0 0, .int .i64 0, .bool false, .int .i64 0, .slice none 0 0, .int .i64 0]
theorem own7K {w : World} {P : Nat} {t : TypeId} {a0 a1 a2 a3 a4 a5 a6 : Value} (h : Own w P t [a0, a1, a2, a3, a4, a5, a6]) :
    w.cell? ⟨P, 0, none⟩ = some a0 ∧ w.cell? ⟨P, 1, none⟩ = some a1 ∧ w.cell? ⟨P, 2, none⟩ = some a2 ∧ w.cell? ⟨P, 3, none⟩ = some a3 ∧ w.cell? ⟨P, 4, none⟩ = some a4 ∧ w.cell? ⟨P, 5, none⟩ = some a5 ∧ w.cell? ⟨P, 6, none⟩ = some a6 :=
  ⟨h.at_ 0, h.at_ 1, h.at_ 2, h.at_ 3, h.at_ 4, h.at_ 5, h.at_ 6⟩
theorem open7 {w : World} {P : Nat} {t : TypeId} {l : List Value} (h : Own w P t l) :
    w.frozen? ⟨P, 0, none⟩ = false ∧ w.frozen? ⟨P, 1, none⟩ = false ∧ w.frozen? ⟨P, 2, none⟩ = false ∧ w.frozen? ⟨P, 3, none⟩ = false ∧ w.frozen? ⟨P, 4, none⟩ = false ∧ w.frozen? ⟨P, 5, none⟩ = false ∧ w.frozen? ⟨P, 6, none⟩ = false :=
  ⟨h.open_ 0, h.open_ 1, h.open_ 2, h.open_ 3, h.open_ 4, h.open_ 5, h.open_ 6⟩
def set7 (w : World) (P : Nat) (a0 a1 a2 a3 a4 a5 a6 : Value) : World := ((((((w.setCell ⟨P, 0, none⟩ a0).setCell ⟨P, 1, none⟩ a1).setCell ⟨P, 2, none⟩ a2).setCell ⟨P, 3, none⟩ a3).setCell ⟨P, 4, none⟩ a4).setCell ⟨P, 5, none⟩ a5).setCell ⟨P, 6, none⟩ a6
theorem set7_own {w : World} {P : Nat} {t : TypeId} {b0 b1 b2 b3 b4 b5 b6 : Value} (h : Own w P t [b0, b1, b2, b3, b4, b5, b6]) (a0 a1 a2 a3 a4 a5 a6 : Value) : Own (set7 w P a0 a1 a2 a3 a4 a5 a6) P t [a0, a1, a2, a3, a4, a5, a6] :=
  ((((((h.set_ 0 a0).set_ 1 a1).set_ 2 a2).set_ 3 a3).set_ 4 a4).set_ 5 a5).set_ 6 a6
theorem set7_kept (w : World) (P : Nat) (a0 a1 a2 a3 a4 a5 a6 : Value) : KeptK w (set7 w P a0 a1 a2 a3 a4 a5 a6) (fun k => k = P) :=
  (((((((KeptK.refl w (fun k => k = P)).set_ (.inl rfl) a0).set_ (.inl rfl) a1).set_ (.inl rfl) a2).set_ (.inl rfl) a3).set_ (.inl rfl) a4).set_ (.inl rfl) a5).set_ (.inl rfl) a6
/-- the boxes with which open begins -/
theorem open_box (w : World) (x : Dl) : ∃ W, W = (w.alloc (.cells #[.slice x.fA x.files.length x.fc, .slice x.wA x.waits.length x.wc, .int .i64 x.room, .bool x.down, .int .i64 x.fuse] 90)).alloc (.cells #[.slice none 0 0, .slice none 0 0, .int .i64 0, .bool false, .int .i64 0, .slice none 0 0, .int .i64 0] 153) ∧
    Below w.heap.size w W ∧ W.heap.size = w.heap.size + 2 ∧ Own W w.heap.size 90 x.cells ∧ Own W (w.heap.size + 1) 153 [.slice none 0 0, .slice none 0 0, .int .i64 0, .bool false, .int .i64 0, .slice none 0 0, .int .i64 0] := by
  refine ⟨_, rfl, ((Below.refl _ _).alloc (Nat.le_refl _) _).alloc (by simp) _, by simp, (Own.made w _ _).more _, ?_⟩
  have := Own.made (w.alloc (.cells #[.slice x.fA x.files.length x.fc, .slice x.wA x.waits.length x.wc, .int .i64 x.room, .bool x.down, .int .i64 x.fuse] 90)) 153 [.slice none 0 0, .slice none 0 0, .int .i64 0, .bool false, .int .i64 0, .slice none 0 0, .int .i64 0]
  rw [show (w.alloc (.cells #[.slice x.fA x.files.length x.fc, .slice x.wA x.waits.length x.wc, .int .i64 x.room, .bool x.down, .int .i64 x.fuse] 90)).heap.size = w.heap.size + 1 by simp] at this
  exact this
theorem open_last {w V W wc : World} {R : Nat} {x : Dl} {Af Aw A : Option Addr} {cf cw c : Nat} {l : List Vf} {wE : World} (hv : Vis W R A c l) (hVW : Below V.heap.size V W) (hwV : Below w.heap.size w V) (hR : R = R) (hVs : V.heap.size = w.heap.size + 2)
    (rf : wc.ownsRow W.heap.size 199 2 (.slice Af x.files.length cf) x.files.length (x.files.flatMap Fl.cells)) (rw_ : wc.ownsRow W.heap.size 95 4 (.slice Aw x.waits.length cw) x.waits.length (x.waits.flatMap Wr.cells))
    (kD : KeptK W wc (fun k => k = w.heap.size)) (kE : KeptK wc wE (fun k => k = w.heap.size + 1)) (hww : w.heap.size + 2 ≤ R) :
    Below w.heap.size w wE ∧ wE.ownsRow w.heap.size 199 2 (.slice Af x.files.length cf) x.files.length (x.files.flatMap Fl.cells) ∧ wE.ownsRow w.heap.size 95 4 (.slice Aw x.waits.length cw) x.waits.length (x.waits.flatMap Wr.cells) ∧ Vis wE w.heap.size A c l := by
  have hs := hVW.size
  refine ⟨?_, row_lower (kE.row rf fun k e he => ?_) (by omega), row_lower (kE.row rw_ fun k e he => ?_) (by omega), ((hv.kept kD (fun k e he => ?_)).kept kE (fun k e he => ?_)).lower (by omega)⟩
  · have b1 : Below w.heap.size w W := hwV.trans (hVW.mono (by omega))
    have b2 : Below w.heap.size W wc := kD.below (fun k e => by omega) (by omega)
    have b3 : Below w.heap.size wc wE := kE.below (fun k e => by omega) (by have := kD.size; omega)
    exact b1.trans (b2.trans b3)
  · have := (rf.lt k e).1; omega
  · have := (rw_.lt k e).1; omega
  · have := (hv.lt k e).1; omega
  · have := (hv.lt k e).1; omega
set_option maxRecDepth 100000 in
set_option maxHeartbeats 3200000 in
theorem open_any (x : Dl) (w : World) (h : DIn w w.heap.size x) (ok : DOk x) :
    Calls Tryz.prog 93 #[x.val] w fun e w' => Below w.heap.size w w' ∧ if goodD x.d then Opened w w' x e else e = .returned (.tuple #[zeroWk, .int .i64 8]) := by
  obtain ⟨V, hV, hVb, hVs, oD, oR⟩ := open_box w x
  have hk := h.keep hVb
  have y1 := Lib.hid (dcheck_anyK x V hk ok)
  have H := Lib.hid (And.intro hk (And.intro hVb (And.intro hVs (And.intro oD (And.intro oR ok)))))
  obtain ⟨d0, d1, d2, d3, d4⟩ := own5 oD
  unfold Dl.val at y1
  unfold Dl.val
  unfold chkD at y1
  clear h ok hk hVb hVs oD oR
  cases hg : goodD x.d
  · rw [hg] at y1
    simp only [Bool.false_eq_true, if_false] at y1 ⊢
    unfold zeroWk
    clear hg
    go_enter Tryz.func93, Tryz.ntmps93
    go_upto_region 1 with fail
    rw [← hV]
    clear hV
    go_wp2_with fail
    refine y1.out.mono ?_
    rintro _ w1 ⟨rfl, b1⟩
    have oR1 := H.out.2.2.2.2.1.past b1 H.out.2.2.2.2.1.inside
    obtain ⟨r0, r1, r2, r3, r4, r5, r6⟩ := own7K oR1
    obtain ⟨f0, f1, f2, f3, f4, f5, f6⟩ := open7 oR1
    have oE := set7_own oR1 (.slice none 0 0) (.slice none 0 0) (.int .i64 0) (.bool false) (.int .i64 0) (.slice none 0 0) (.int .i64 0)
    unfold set7 at oE
    obtain ⟨e0, e1, e2, e3, e4, e5, e6⟩ := own7K oE
    have hb1 := H.out.2.1.trans (b1.mono H.out.2.1.size)
    have HX := Lib.hid ((((((((hb1.setCell (p := ⟨w.heap.size + 1, 0, none⟩) (by simp) (.slice none 0 0)).setCell (p := ⟨w.heap.size + 1, 1, none⟩) (by simp) (.slice none 0 0)).setCell (p := ⟨w.heap.size + 1, 2, none⟩) (by simp) (.int .i64 0)).setCell (p := ⟨w.heap.size + 1, 3, none⟩) (by simp) (.bool false)).setCell (p := ⟨w.heap.size + 1, 4, none⟩) (by simp) (.int .i64 0)).setCell (p := ⟨w.heap.size + 1, 5, none⟩) (by simp) (.slice none 0 0)).setCell (p := ⟨w.heap.size + 1, 6, none⟩) (by simp) (.int .i64 0)))
    clear oR1 oE hb1 b1 y1 d0 d1 d2 d3 d4
    go_wp2_with fail
    exact bodyPost_ret (v := .tuple #[.agg #[.slice none 0 0, .slice none 0 0, .int .i64 0, .bool false, .int .i64 0, .slice none 0 0, .int .i64 0], .int .i64 8]) (by simp [results, Tryz.results93, go_sem, e0, e1, e2, e3, e4, e5, e6]) rfl ⟨HX.out, rfl⟩
  · rw [hg] at y1
    simp only [if_true] at y1 ⊢
    clear hg
    go_enter Tryz.func93, Tryz.ntmps93
    go_upto_region 1 with fail
    rw [← hV]
    clear hV
    go_wp2_with fail
    refine y1.out.mono ?_
    rintro _ w1 ⟨rfl, b1⟩
    have k1 := H.out.1.keep b1
    have y2 := Lib.hid (look_any x.fA x.wA x.fc x.wc x.files x.waits w1 k1.files k1.waits H.out.2.2.2.2.2.wt)
    have oD1 := H.out.2.2.2.1.past b1 H.out.2.2.2.1.inside
    have HB1 := Lib.hid (And.intro b1 k1)
    clear d0 d1 d2 d3 d4 y1 b1 k1
    obtain ⟨d0, d1, d2, d3, d4⟩ := own5 oD1
    clear oD1
    go_wp2_with fail
    refine y2.out.mono ?_
    rintro _ w2 ⟨A, c, l, rfl, hv, hfl, hs, hw, hB⟩
    obtain ⟨W, hW, hWb, hW1, hWs, hat⟩ := looked_box 151 hv hs hw H.out.2.2.2.2.2.wt hB
    have HL := Lib.hid (And.intro hat (And.intro hfl (And.intro hw (And.intro hs (And.intro (HB1.out.1.trans (hWb.mono HB1.out.1.size)) (And.intro (HB1.out.2.keep hWb) hWs))))))
    clear y2 hv hfl hs hw hB hWb hW1 hat d0 d1 d2 d3 d4 hWs
    go_upto_region 5 with fail
    rw [← hW]
    clear hW
    have hDW : w.heap.size < W.heap.size := by have := HL.out.2.2.2.2.1.size; have := H.out.2.2.1; omega
    have oDW := H.out.2.2.2.1.past HL.out.2.2.2.2.1 H.out.2.2.2.1.inside
    have lf : x.files.length ≤ 1099511627776 := by have := len_le_wtF x.files; have := H.out.2.2.2.2.2.wt; unfold wtD Dl.d at this; dsimp only at this; omega
    have lw : x.waits.length ≤ 1099511627776 := by have := len_le_wtW x.waits; have := H.out.2.2.2.2.2.wt; unfold wtD Dl.d at this; dsimp only at this; omega
    have y51 := fun W' (hb : Below W.heap.size W W') => Lib.hid (cloneFl_any x.fA x.fc x.files W' (HL.out.2.2.2.2.2.1.keep hb).files lf)
    have y52 := fun W' (hb : Below W.heap.size W W') => Lib.hid (cloneWr_any x.wA x.wc x.waits W' (HL.out.2.2.2.2.2.1.keep hb).waits lw)
    have hself : Below W.heap.size W W.drew := Below.drew (Below.refl _ _)
    obtain ⟨d0, d1, d2, d3, d4⟩ := own5 oDW
    have HD := Lib.hid (And.intro oDW hDW)
    clear oDW hDW lf lw
    go_cut [3] (fun s3 wx => s3 = .int .i64 0 ∧ OpenMid W w.heap.size x wx)
    case first =>
      go_wp2_with fail
      go_region_with (first | (go_at_call 140; refine (y51 _ (by first | exact hbb | exact hself)).out.mono ?_; rintro _ wa ⟨Af, cf, rfl, rf, bf⟩; have hba : Below W.heap.size W wa := (by first | exact belows hbb bf | exact belows hself bf); have oa := HD.out.1.past hba HD.out.1.inside; obtain ⟨p0, p1, p2, p3, p4⟩ := own5 oa; have pz0 := oa.open_ 0; have pz1 := oa.open_ 1) | (go_at_call 141; refine (y52 _ (by first | exact hba | exact hself)).out.mono ?_; rintro _ wb ⟨Aw, cw, rfl, rw_, bw⟩; have hbb : Below W.heap.size W wb := (by first | exact belows hba bw | exact belows hself bw); have ob := HD.out.1.past hbb HD.out.1.inside; obtain ⟨q0, q1, q2, q3, q4⟩ := own5 ob; have qz0 := ob.open_ 0; have qz1 := ob.open_ 1))
      all_goals
        go_wp2_with fail
        go_meet
        first
          | exact ⟨rfl, open_mid HD.out.2 hbb ob (own_below rf bw) rw_ (Nat.le_refl _) hba.size⟩
          | exact ⟨rfl, open_mid HD.out.2 hba oa rf (own_below rw_ bf) hbb.size (Nat.le_refl _)⟩
    case rest =>
      obtain ⟨rfl, Af, cf, Aw, cw, oD, rf, rw_, kD⟩ := hcut
      have oR1 := kD.own (H.out.2.2.2.2.1.past HL.out.2.2.2.2.1 H.out.2.2.2.2.1.inside) (by omega)
      have hww : w.heap.size < w2.heap.size := by have := HD.out.2; have := HL.out.2.2.2.2.2.2; have := HB1.out.1.size; have := H.out.2.2.1; have := HL.out.1.own.inside; have := HL.out.1.le; omega
      have oS := kD.own HL.out.1.own (by omega)
      obtain ⟨q0, q1, q2, q3, q4⟩ := own5 oD
      have s0 := oS.at_ 0
      have s1 := oS.at_ 1
      simp only [List.getElem?_cons_zero, List.getElem?_cons_succ] at s0 s1
      obtain ⟨r0, r1, r2, r3, r4, r5, r6⟩ := own7K oR1
      obtain ⟨f0, f1, f2, f3, f4, f5, f6⟩ := open7 oR1
      have oE := set7_own oR1 (.slice Af x.files.length cf) (.slice Aw x.waits.length cw) (.int .i64 x.room) (.bool x.down) (.int .i64 x.fuse) (.slice A l.length c) (.int .i64 (szF (flV l) : Int))
      have kE := set7_kept wc (w.heap.size + 1) (.slice Af x.files.length cf) (.slice Aw x.waits.length cw) (.int .i64 x.room) (.bool x.down) (.int .i64 x.fuse) (.slice A l.length c) (.int .i64 (szF (flV l) : Int))
      have HX := Lib.hid (open_last (R := w1.heap.size) HL.out.1.vis HL.out.2.2.2.2.1 H.out.2.1 rfl H.out.2.2.1 rf rw_ kD kE (by have := HB1.out.1.size; have := H.out.2.2.1; omega))
      unfold set7 at oE HX
      obtain ⟨e0, e1, e2, e3, e4, e5, e6⟩ := own7K oE
      clear oR1 oS oD rf rw_ kD oE kE d0 d1 d2 d3 d4
      go_wp2_with fail
      exact bodyPost_ret (v := .tuple #[.agg #[.slice Af x.files.length cf, .slice Aw x.waits.length cw, .int .i64 x.room, .bool x.down, .int .i64 x.fuse, .slice A l.length c, .int .i64 (szF (flV l) : Int)], .int .i64 0]) (by simp [results, Tryz.results93, go_sem, e0, e1, e2, e3, e4, e5, e6]) rfl ⟨HX.out.1, Af, cf, Aw, cw, A, c, l, rfl, HX.out.2.1, HX.out.2.2.1, HX.out.2.2.2, HL.out.2.1, HL.out.2.2.2.1, HL.out.2.2.1⟩
end Go.Proofs.YtllpfngmnccejaaGreat
namespace Go.Proofs.YtllpfngmnccejaaGreat
open Go Go.RowKit

theorem own_row_ne {w : World} {K b s n : Nat} {t e : TypeId} {cs xs : List Value} {v : Value} (h : Own w K t cs) (r : w.ownsRow b e s v n xs) (hne : t ≠ e) : ∀ k, v.ownBlock = some k → k ≠ K := by
  intro k hk hkK
  rcases r.2 with ⟨rfl, _⟩ | ⟨g, cap, cur, rfl, _, hg, _⟩
  · cases hk
  · have e1 : g = k := Option.some.inj hk
    subst e1
    subst hkK
    unfold Own at h
    rw [h] at hg
    injection hg with hg
    injection hg with _ h2 _
    exact hne h2
theorem row_row_ne {w : World} {b s n b' s' n' : Nat} {t e : TypeId} {xs xs' : List Value} {v v' : Value} (h : w.ownsRow b t s v n xs) (r : w.ownsRow b' e s' v' n' xs') (hne : t ≠ e) : ∀ k, v.ownBlock = some k → v'.ownBlock ≠ some k := by
  intro k hk hk'
  rcases h.2 with ⟨rfl, _⟩ | ⟨g, cap, cur, rfl, _, hg, _⟩
  · cases hk
  · have e1 : g = k := Option.some.inj hk
    subst e1
    have ho : Own w g t cur.toList := by unfold Own; simpa using hg
    exact own_row_ne ho r hne g hk' rfl
/-- a row of another type lies apart from what is seen -/
theorem vis_row_ne {w : World} {base b s n : Nat} {e : TypeId} {xs : List Value} {v : Value} {A : Option Addr} {c : Nat} {l : List Vf} (h : Vis w base A c l) (r : w.ownsRow b e s v n xs) (h1 : e ≠ 210) (h2 : e ≠ 9) : ∀ k, v.ownBlock = some k → ¬ Fp A l k := by
  intro k hk hx
  rcases hx with hx | ⟨f, hf, hx⟩
  · exact row_row_ne r h.row h1 k hk (by rw [blk_own]; exact hx)
  · exact row_row_ne r (h.parts f hf) h2 k hk (by rw [blk_own]; exact hx)
def wkC (x : Dl) (A : Option Addr) (c : Nat) (l : List Vf) : List Value := [.slice x.fA x.files.length x.fc, .slice x.wA x.waits.length x.wc, .int .i64 x.room, .bool x.down, .int .i64 x.fuse, .slice A l.length c, .int .i64 (szF (flV l) : Int)]
structure Wk (w : World) (base K : Nat) (x : Dl) (A : Option Addr) (c : Nat) (l : List Vf) : Prop where
  at_ : VisAt w base K 5 153 (wkC x A c l) A c l
  files : w.ownsRow base 199 2 (.slice x.fA x.files.length x.fc) x.files.length (x.files.flatMap Fl.cells)
  waits : w.ownsRow base 95 4 (.slice x.wA x.waits.length x.wc) x.waits.length (x.waits.flatMap Wr.cells)
  hK : base ≤ K
theorem Wk.cells {w : World} {base K : Nat} {x : Dl} {A : Option Addr} {c : Nat} {l : List Vf} (h : Wk w base K x A c l) : w.cell? ⟨K, 0, none⟩ = some (.slice x.fA x.files.length x.fc) ∧ w.cell? ⟨K, 1, none⟩ = some (.slice x.wA x.waits.length x.wc) ∧ w.cell? ⟨K, 2, none⟩ = some (.int .i64 x.room) ∧ w.cell? ⟨K, 3, none⟩ = some (.bool x.down) ∧ w.cell? ⟨K, 4, none⟩ = some (.int .i64 x.fuse) ∧ w.cell? ⟨K, 5, none⟩ = some (.slice A l.length c) ∧ w.cell? ⟨K, 6, none⟩ = some (.int .i64 (szF (flV l) : Int)) := own7K h.at_.own
theorem Wk.opens {w : World} {base K : Nat} {x : Dl} {A : Option Addr} {c : Nat} {l : List Vf} (h : Wk w base K x A c l) : w.frozen? ⟨K, 0, none⟩ = false ∧ w.frozen? ⟨K, 1, none⟩ = false ∧ w.frozen? ⟨K, 2, none⟩ = false ∧ w.frozen? ⟨K, 3, none⟩ = false ∧ w.frozen? ⟨K, 4, none⟩ = false ∧ w.frozen? ⟨K, 5, none⟩ = false ∧ w.frozen? ⟨K, 6, none⟩ = false := open7 h.at_.own
theorem Wk.below {w w' : World} {base K : Nat} {x : Dl} {A : Option Addr} {c : Nat} {l : List Vf} (h : Wk w base K x A c l) (hb : Below w.heap.size w w') : Wk w' base K x A c l :=
  ⟨h.at_.below hb, own_below h.files hb, own_below h.waits hb, h.hK⟩
theorem Wk.fne {w : World} {base K : Nat} {x : Dl} {A : Option Addr} {c : Nat} {l : List Vf} (h : Wk w base K x A c l) : ∀ k, blk x.fA = some k → k ≠ K ∧ ¬ Fp A l k ∧ blk x.wA ≠ some k := fun k e => by
  have e' : (Value.slice x.fA x.files.length x.fc).ownBlock = some k := by rw [blk_own]; exact e
  refine ⟨own_row_ne h.at_.own h.files (by decide) k e', vis_row_ne h.at_.vis h.files (by decide) (by decide) k e', fun he => ?_⟩
  exact row_row_ne h.files h.waits (by decide) k e' (by rw [blk_own]; exact he)
theorem Wk.wne {w : World} {base K : Nat} {x : Dl} {A : Option Addr} {c : Nat} {l : List Vf} (h : Wk w base K x A c l) : ∀ k, blk x.wA = some k → k ≠ K ∧ ¬ Fp A l k := fun k e => by
  have e' : (Value.slice x.wA x.waits.length x.wc).ownBlock = some k := by rw [blk_own]; exact e
  exact ⟨own_row_ne h.at_.own h.waits (by decide) k e', vis_row_ne h.at_.vis h.waits (by decide) (by decide) k e'⟩
/-- a cell of the disk itself turned -/
theorem Wk.turn {w : World} {base K i : Nat} {x y : Dl} {A : Option Addr} {c : Nat} {l : List Vf} {u : Value} (h : Wk w base K x A c l) (hi : i < 5) (hc : (wkC x A c l).set i u = wkC y A c l) (hf : y.fA = x.fA ∧ y.fc = x.fc ∧ y.files = x.files) (hw : y.wA = x.wA ∧ y.wc = x.wc ∧ y.waits = x.waits) :
    Wk (w.setCell ⟨K, i, none⟩ u) base K y A c l ∧ KeptK w (w.setCell ⟨K, i, none⟩ u) (fun k => k = K) := by
  have kk : KeptK w (w.setCell ⟨K, i, none⟩ u) (fun k => k = K) := (KeptK.refl w (fun k => k = K)).set_ (.inl rfl) u
  obtain ⟨f1, f2, f3⟩ := hf
  obtain ⟨w1, w2, w3⟩ := hw
  refine ⟨⟨⟨by rw [← hc]; exact h.at_.own.set_ i u, rfl, rfl, h.at_.vis.kept kk (fun k hk e => h.at_.out (by rw [← e]; exact hk)), h.at_.out, h.at_.sorted, h.at_.wt, Nat.le_trans h.at_.le kk.size⟩, ?_, ?_, h.hK⟩, kk⟩
  · rw [f1, f2, f3]; exact kk.row h.files (fun k e he => (h.fne k (by rw [← blk_own x.fA]; exact e)).1 he)
  · rw [w1, w2, w3]; exact kk.row h.waits (fun k e he => (h.wne k (by rw [← blk_own x.wA]; exact e)).1 he)
def burnL (x : Dl) : Dl := if x.fuse = 0 then ⟨x.fA, x.fc, x.files, x.wA, x.wc, x.waits, x.room, true, x.fuse⟩ else ⟨x.fA, x.fc, x.files, x.wA, x.wc, x.waits, x.room, x.down, lessN x.fuse⟩
set_option maxRecDepth 100000 in
set_option maxHeartbeats 1600000 in
theorem burn_any (base K : Nat) (x : Dl) (A : Option Addr) (c : Nat) (l : List Vf) (w : World) (h : Wk w base K x A c l) (ok : -9223372036854775808 ≤ x.fuse ∧ x.fuse ≤ 9223372036854775807) :
    Calls Tryz.prog 146 #[.pointer (some ⟨K, 0, none⟩)] w fun e w' => e = .returned (.bool (decide (x.fuse ≠ 0))) ∧ Wk w' base K (burnL x) A c l ∧ KeptK w w' (fun k => k = K) := by
  obtain ⟨d0, d1, d2, d3, d4, d5, d6⟩ := h.cells
  obtain ⟨f0, f1, f2, f3, f4, f5, f6⟩ := h.opens
  unfold burnL
  by_cases h0 : x.fuse = 0
  · have HX := Lib.hid (h.turn (i := 3) (u := .bool true) (y := ⟨x.fA, x.fc, x.files, x.wA, x.wc, x.waits, x.room, true, x.fuse⟩) (by decide) rfl ⟨rfl, rfl, rfl⟩ ⟨rfl, rfl, rfl⟩)
    rw [if_pos h0]
    rw [h0] at d4
    have hd : decide (x.fuse ≠ 0) = false := by rw [h0]; rfl
    rw [hd]
    clear h ok h0 hd
    go_enter Tryz.func146, Tryz.ntmps146
    go_wp2_with fail
    go_ret
    exact ⟨rfl, HX.out.1, HX.out.2⟩
  · rw [if_neg h0]
    have hd : decide (x.fuse ≠ 0) = true := decide_eq_true h0
    rw [hd]
    have t1 : (x.fuse == 0) = false := beq_eq_false_iff_ne.2 h0
    have hl : lessN x.fuse = if 0 < x.fuse then x.fuse - 1 else x.fuse := rfl
    by_cases hp : 0 < x.fuse
    · have t2 : decide (0 < x.fuse) = true := decide_eq_true hp
      rw [if_pos hp] at hl
      have HX := Lib.hid (h.turn (i := 4) (u := .int .i64 (x.fuse - 1)) (y := ⟨x.fA, x.fc, x.files, x.wA, x.wc, x.waits, x.room, x.down, lessN x.fuse⟩) (by decide) (by rw [hl]; rfl) ⟨rfl, rfl, rfl⟩ ⟨rfl, rfl, rfl⟩)
      have hw : IntKind.i64.wrap (x.fuse - 1) = x.fuse - 1 := by rw [IntKind.wrap_i64]; omega
      clear h ok h0 hd hl hp
      go_enter Tryz.func146, Tryz.ntmps146
      go_wp2_with fail
      go_ret
      exact ⟨rfl, HX.out.1, HX.out.2⟩
    · have t2 : decide (0 < x.fuse) = false := decide_eq_false hp
      rw [if_neg hp] at hl
      rw [hl]
      have HX := Lib.hid h
      clear h ok h0 hd hl hp
      go_enter Tryz.func146, Tryz.ntmps146
      go_wp2_with fail
      go_ret
      exact ⟨rfl, HX.out, KeptK.refl _ _⟩
end Go.Proofs.YtllpfngmnccejaaGreat
