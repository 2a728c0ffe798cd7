/- Part 7 of the texts on which DiskWrites rests: facts and contracts. -/
import Derived.Test.YtfelpjacccclkaaDiskWritesM6
import Derived.Deep.RegionHeld3
import Derived.Test.YtfelpjacccclkaaRows
import Derived.WalkKit
import Derived.ProofKit
import Derived.OpenShut
import Derived.JoinedCond
import Derived.Carry
import Derived.ChangeArms
import Derived.Deep.Slices
import Derived.SizedLaws
namespace Go.Proofs.Ytfelpjacccclkaa
open Go Go.RowKit

/-- a disk whose waiting writes lie in a row of their own -/
structure Rk (W : World) (B1 : Nat) (z : Dl) : Prop where
  files : Lies 2 Fl.cells W B1 z.fA z.files
  row : W.ownsRow B1 45 4 (.slice z.wA z.waits.length z.wc) z.waits.length (z.waits.flatMap Wr.cells)
  le : B1 ≤ W.heap.size
def Wown (z : Dl) (b : Nat) : Prop := (Value.slice z.wA z.waits.length z.wc).ownBlock = some b
theorem Rk.din {W : World} {B1 : Nat} {z : Dl} (h : Rk W B1 z) : DIn W W.heap.size z :=
  ⟨h.files.wide h.le, row_lies (size := 4) (cells := Wr.cells) (by decide) wrc_len h.row, row_cap h.row⟩
theorem Rk.kept {W W' : World} {B1 : Nat} {z : Dl} {T : Nat → Prop} (h : Rk W B1 z) (k : Kept W W' T) (h1 : ∀ b, T b → B1 ≤ b) (h2 : ∀ b, Wown z b → ¬ T b) : Rk W' B1 z := by
  refine ⟨fun hp => ?_, k.row h.row h2, Nat.le_trans h.le k.size⟩
  obtain ⟨b, q, e, hb, hc⟩ := h.files hp
  have hne : ¬ T b := fun t => by have := h1 b t; omega
  exact ⟨b, q, e, hb, fun i x hi j u hj => kept_cell k hne (Nat.lt_of_lt_of_le hb h.le) (hc i x hi j u hj)⟩
theorem Rk.past {W W' : World} {B1 : Nat} {z : Dl} (h : Rk W B1 z) (hb : Below W.heap.size W W') : Rk W' B1 z :=
  h.kept (Kept.of_below hb (Nat.le_refl _) (fun _ => False)) (fun _ f => f.elim) (fun _ _ f => f)
/-- the three boxes of a write -/
structure O1 (w W : World) (B1 : Nat) (x y z : Dl) (r : Wr) : Prop where
  kept : Kept w W (Wown x)
  own : Own W w.heap.size 25 y.cells
  wr : Own W (w.heap.size + 1) 45 r.cells
  res : Own W (w.heap.size + 1 + 1) 25 zeroDl.cells
  st : Rk W B1 z
  lt : B1 ≤ w.heap.size
  off : ∀ b, Wown z b → b < w.heap.size ∨ w.heap.size + 3 ≤ b
  old : ∀ b, Wown x b → b < w.heap.size ∧ B1 ≤ b
theorem O1.past {w W W' : World} {B1 : Nat} {x y z : Dl} {r : Wr} (h : O1 w W B1 x y z r) (hb : Below W.heap.size W W') : O1 w W' B1 x y z r :=
  ⟨h.kept.trans (Kept.of_below hb (Nat.le_refl _) (fun _ => False)) (fun _ _ f => f.elim), h.own.past hb h.own.inside, h.wr.past hb h.wr.inside, h.res.past hb h.res.inside, h.st.past hb, h.lt, h.off, h.old⟩
theorem O1.field {w W : World} {B1 : Nat} {x y y' z : Dl} {r : Wr} (h : O1 w W B1 x y z r) (q : Nat) (u : Value) (e : y.cells.set q u = y'.cells) : ∃ X, X = W.setCell ⟨w.heap.size, q, none⟩ u ∧ O1 w X B1 x y' z r := by
  have k : Kept W (W.setCell ⟨w.heap.size, q, none⟩ u) (fun b => b = w.heap.size) := (Kept.refl W (fun b => b = w.heap.size)).set_ (g := w.heap.size) (o := q) (.inl rfl) u
  refine ⟨_, rfl, h.kept.set_ (.inr (Nat.le_refl _)) u, ?_, k.own h.wr (by omega), k.own h.res (by omega), h.st.kept k (fun b e => by have := h.lt; omega) (fun b hb e => by have := h.off b hb; omega), h.lt, h.off, h.old⟩
  rw [← e]; exact h.own.set_ q u
theorem O1.with_ {w W : World} {B1 : Nat} {x y z z' : Dl} {r : Wr} (h : O1 w W B1 x y z r) (hs : Rk W B1 z') (ho : ∀ b, Wown z' b → b < w.heap.size ∨ w.heap.size + 3 ≤ b) : O1 w W B1 x y z' r := ⟨h.kept, h.own, h.wr, h.res, hs, h.lt, ho, h.old⟩
theorem O1.back {w W : World} {B1 : Nat} {x y z : Dl} {r : Wr} (h : O1 w W B1 x y z r) : ∃ X, X = set5 W (w.heap.size + 1 + 1) (.slice z.fA z.files.length z.fc) (.slice z.wA z.waits.length z.wc) (.int .i64 z.room) (.bool z.down) (.int .i64 z.fuse) ∧ Own X (w.heap.size + 1 + 1) 25 z.cells ∧ Rk X B1 z ∧ Kept w X (Wown x) := by
  have k := set5_kept W (w.heap.size + 1 + 1) (.slice z.fA z.files.length z.fc) (.slice z.wA z.waits.length z.wc) (.int .i64 z.room) (.bool z.down) (.int .i64 z.fuse)
  refine ⟨_, rfl, set5_own h.res _ _ _ _ _, h.st.kept k (fun b e => by have := h.lt; omega) (fun b hb e => by have := h.off b hb; omega), ?_⟩
  refine ⟨k.os.trans h.kept.os, k.tape.trans h.kept.tape, k.output.trans h.kept.output, Nat.le_trans h.kept.size k.size, fun b hb hn => (k.block b (Nat.lt_of_lt_of_le hb h.kept.size) (by omega)).trans (h.kept.block b hb hn)⟩
theorem one_boxes (w : World) (B1 : Nat) (x : Dl) (r : Wr) (h : Rk w B1 x) : ∃ V, V = ((w.alloc (.cells #[.slice x.fA x.files.length x.fc, .slice x.wA x.waits.length x.wc, .int .i64 x.room, .bool x.down, .int .i64 x.fuse] 25)).alloc (.cells #[.int .u8 r.k, .string r.n, .string r.t, .string r.d] 45)).alloc (.cells #[.slice none 0 0, .slice none 0 0, .int .i64 0, .bool false, .int .i64 0] 25) ∧ O1 w V B1 x x x r ∧ V.heap.size = w.heap.size + 3 := by
  have b0 : Below w.heap.size w (((w.alloc (.cells #[.slice x.fA x.files.length x.fc, .slice x.wA x.waits.length x.wc, .int .i64 x.room, .bool x.down, .int .i64 x.fuse] 25)).alloc (.cells #[.int .u8 r.k, .string r.n, .string r.t, .string r.d] 45)).alloc (.cells #[.slice none 0 0, .slice none 0 0, .int .i64 0, .bool false, .int .i64 0] 25)) := (((Below.refl _ _).alloc (Nat.le_refl _) _).alloc (by simp) _).alloc (by simp; omega) _
  refine ⟨_, rfl, ⟨Kept.of_below b0 (Nat.le_refl _) _, ((Own.made w _ _).more _).more _, ?_, ?_, h.past b0, h.le, fun b hb => .inl (h.row.lt b hb).2, fun b hb => ⟨(h.row.lt b hb).2, (h.row.lt b hb).1⟩⟩, by simp⟩
  · have := (Own.made (w.alloc (.cells #[.slice x.fA x.files.length x.fc, .slice x.wA x.waits.length x.wc, .int .i64 x.room, .bool x.down, .int .i64 x.fuse] 25)) 45 r.cells).more (.cells #[.slice none 0 0, .slice none 0 0, .int .i64 0, .bool false, .int .i64 0] 25)
    rw [show (w.alloc (.cells #[.slice x.fA x.files.length x.fc, .slice x.wA x.waits.length x.wc, .int .i64 x.room, .bool x.down, .int .i64 x.fuse] 25)).heap.size = w.heap.size + 1 by simp] at this
    exact this
  · have := Own.made ((w.alloc (.cells #[.slice x.fA x.files.length x.fc, .slice x.wA x.waits.length x.wc, .int .i64 x.room, .bool x.down, .int .i64 x.fuse] 25)).alloc (.cells #[.int .u8 r.k, .string r.n, .string r.t, .string r.d] 45)) 25 zeroDl.cells
    rw [show ((w.alloc (.cells #[.slice x.fA x.files.length x.fc, .slice x.wA x.waits.length x.wc, .int .i64 x.room, .bool x.down, .int .i64 x.fuse] 25)).alloc (.cells #[.int .u8 r.k, .string r.n, .string r.t, .string r.d] 45)).heap.size = w.heap.size + 1 + 1 by simp] at this
    exact this
theorem O1.cells {w W : World} {B1 : Nat} {x y z : Dl} {r : Wr} (h : O1 w W B1 x y z r) :
    W.cell? ⟨w.heap.size, 0, none⟩ = some (.slice y.fA y.files.length y.fc) ∧ W.cell? ⟨w.heap.size, 1, none⟩ = some (.slice y.wA y.waits.length y.wc) ∧ W.cell? ⟨w.heap.size, 2, none⟩ = some (.int .i64 y.room) ∧ W.cell? ⟨w.heap.size, 3, none⟩ = some (.bool y.down) ∧ W.cell? ⟨w.heap.size, 4, none⟩ = some (.int .i64 y.fuse) := own5 h.own
theorem O1.wcells {w W : World} {B1 : Nat} {x y z : Dl} {r : Wr} (h : O1 w W B1 x y z r) :
    W.cell? ⟨w.heap.size + 1, 0, none⟩ = some (.int .u8 r.k) ∧ W.cell? ⟨w.heap.size + 1, 1, none⟩ = some (.string r.n) ∧ W.cell? ⟨w.heap.size + 1, 2, none⟩ = some (.string r.t) ∧ W.cell? ⟨w.heap.size + 1, 3, none⟩ = some (.string r.d) := ⟨h.wr.at_ 0, h.wr.at_ 1, h.wr.at_ 2, h.wr.at_ 3⟩
theorem O1.rcells {w W : World} {B1 : Nat} {x y z : Dl} {r : Wr} (h : O1 w W B1 x y z r) :
    W.cell? ⟨w.heap.size + 1 + 1, 0, none⟩ = some (.slice none 0 0) ∧ W.cell? ⟨w.heap.size + 1 + 1, 1, none⟩ = some (.slice none 0 0) ∧ W.cell? ⟨w.heap.size + 1 + 1, 2, none⟩ = some (.int .i64 0) ∧ W.cell? ⟨w.heap.size + 1 + 1, 3, none⟩ = some (.bool false) ∧ W.cell? ⟨w.heap.size + 1 + 1, 4, none⟩ = some (.int .i64 0) := own5 h.res
theorem O1.app {w W W' : World} {B1 : Nat} {x y : Dl} {r : Wr} {v' : Value} {o : Obj} (h : O1 w W B1 x y x r) (hr : W'.ownsRow B1 45 4 v' (x.waits.length + 1) (x.waits.flatMap Wr.cells ++ [r].flatMap Wr.cells))
    (hg : (W.alloc o).grownBy W' (Value.slice x.wA x.waits.length x.wc).ownBlock) (hv : v'.ownBlock = (Value.slice x.wA x.waits.length x.wc).ownBlock ∨ v'.ownBlock = some (W.alloc o).heap.size) :
    ∃ A' c', v' = .slice A' (x.waits.length + 1) c' ∧ O1 w W' B1 x y ⟨x.fA, x.fc, x.files, A', c', x.waits ++ [r], x.room, x.down, x.fuse⟩ r := by
  rw [← List.flatMap_append, show x.waits.length + 1 = (x.waits ++ [r]).length by simp] at hr
  obtain ⟨A', c', rfl, _, _, _⟩ := lies_of_own (size := 4) (cells := Wr.cells) (l := x.waits ++ [r]) (by decide) wrc_len rfl hr
  have hk : Kept W W' (Wown x) := ((Kept.refl W (Wown x)).alloc o).trans (Kept.of_grown hg (fun b e => (e : Wown x b))) (fun b _ e => e)
  have hi := h.res.inside
  have hlo := h.old
  refine ⟨A', c', by simp, ⟨h.kept.trans hk (fun b _ e => e), hk.own h.own (fun e => by have := hlo _ e; omega), hk.own h.wr (fun e => by have := hlo _ e; omega), hk.own h.res (fun e => by have := hlo _ e; omega), ⟨?_, hr, ?_⟩, h.lt, fun b hb => ?_, h.old⟩⟩
  · intro hp
    obtain ⟨b, q, e, hb, hc⟩ := h.st.files hp
    have hne : ¬ Wown x b := fun t => by have := hlo b t; omega
    exact ⟨b, q, e, hb, fun i z hz j u hu => kept_cell hk hne (Nat.lt_of_lt_of_le hb h.st.le) (hc i z hz j u hu)⟩
  · exact Nat.le_trans h.st.le hk.size
  · rcases hv with hv | hv
    · exact .inl (hlo b (by unfold Wown at hb ⊢; rw [← hv]; exact hb)).1
    · right
      unfold Wown at hb
      have : some b = some (W.alloc o).heap.size := hb.symm.trans hv
      injection this with this
      subst this
      simp; omega
theorem name_of {P : World → Prop} {w : World} (_ : P w) : ∃ W : World, W = w := ⟨w, rfl⟩
/-- is a file asked that is not? -/
def AskNone (l : List Fl) (r : Wr) (v : Value) : Prop := ∃ b : Bool, v = .bool b ∧ (b = true ↔ (r.k ≠ 1 ∧ hasF l r.n = false))
/-- what a write answers with -/
def OneSays (w : World) (B1 : Nat) (x : Dl) (k : Dk) (n : Int) (e : Ending) (w' : World) : Prop := ∃ y : Dl, e = .returned (.tuple #[y.val, .int .i64 n]) ∧ y.d = k ∧ Rk w' B1 y ∧ Kept w w' (Wown x)
theorem write_down {d : Dk} {l : List Fl} {r : Wr} (h : d.down = true) : (writeD d l r).1 = d ∧ (writeD d l r).2.2 = 7 := by unfold writeD; rw [if_pos h]; exact ⟨rfl, rfl⟩
theorem write_bad {d : Dk} {l : List Fl} {r : Wr} (h : d.down = false) (h2 : rightW r = false) : (writeD d l r).1 = d ∧ (writeD d l r).2.2 = 4 := by unfold writeD; rw [if_neg (by rw [h]; simp), if_pos h2]; exact ⟨rfl, rfl⟩
theorem write_none {d : Dk} {l : List Fl} {r : Wr} (h : d.down = false) (h2 : rightW r = true) (h3 : r.k ≠ 1 ∧ hasF l r.n = false) : (writeD d l r).1 = d ∧ (writeD d l r).2.2 = 5 := by
  unfold writeD; rw [if_neg (by rw [h]; simp), if_neg (by rw [h2]; simp), if_pos h3]; exact ⟨rfl, rfl⟩
theorem write_full {d : Dk} {l : List Fl} {r : Wr} (h : d.down = false) (h2 : rightW r = true) (h3 : ¬ (r.k ≠ 1 ∧ hasF l r.n = false)) (h4 : 4096 ≤ d.waits.length ∨ greatF (appF l r) d.room = true) : (writeD d l r).1 = d ∧ (writeD d l r).2.2 = 9 := by
  unfold writeD
  rw [if_neg (by rw [h]; simp), if_neg (by rw [h2]; simp), if_neg h3, if_pos]
  · exact ⟨rfl, rfl⟩
  · unfold greatF at h4
    simp only [Bool.or_eq_true, decide_eq_true_eq] at h4
    omega
theorem write_fine {d : Dk} {l : List Fl} {r : Wr} (h : d.down = false) (h2 : rightW r = true) (h3 : ¬ (r.k ≠ 1 ∧ hasF l r.n = false)) (h4 : d.waits.length < 4096) (h5 : greatF (appF l r) d.room = false) :
    (writeD d l r).1 = (if d.fuse = 0 then ⟨d.files, if r.k = 1 then d.waits ++ [r] else d.waits, d.room, true, d.fuse⟩ else ⟨d.files, d.waits ++ [r], d.room, d.down, lessN d.fuse⟩) ∧ (writeD d l r).2.2 = if d.fuse = 0 then 7 else 0 := by
  unfold greatF at h5
  simp only [Bool.or_eq_false_iff, decide_eq_false_iff_not] at h5
  unfold writeD
  rw [if_neg (by rw [h]; simp), if_neg (by rw [h2]; simp), if_neg h3, if_neg (by omega)]
  split <;> exact ⟨rfl, rfl⟩
set_option maxRecDepth 100000 in
set_option maxHeartbeats 6400000 in
theorem one_any (x : Dl) (r : Wr) (B1 : Nat) (w : World) (h : Rk w B1 x) (hg : goodD x.d = true) (hf : FOk x.d) (hrm : x.room ≤ 9223372036854775807) (hn : wtD x.d + (2 + r.d.size) ≤ 900000000000) :
    Calls Try.prog 29 #[x.val, r.val] w (OneSays w B1 x (writeD x.d (seen x.d) r).1 (writeD x.d (seen x.d) r).2.2) := by
  obtain ⟨i1, hj, hy0, hy1, hy2⟩ := info_parts infoWr'
  have HJ := Lib.hid (And.intro Try.underlying23 (And.intro hj (And.intro hy0 (And.intro hy1 hy2))))
  clear hj hy0 hy1 hy2
  obtain ⟨V, hV, hO, hVs⟩ := one_boxes w B1 x r h
  have hk := good_k hg
  have y1 := Lib.hid (seen_any x V hO.st.din hk.sorted hk.kinds (by omega))
  rw [← hk.seen_] at y1
  have hso := seen_sorted hg
  have hwt := wtF_seen hg
  generalize hl0 : seen x.d = l at *
  obtain ⟨s1, hs1⟩ : ∃ s, (writeD x.d l r).1 = s := ⟨_, rfl⟩
  obtain ⟨s2, hs2⟩ : ∃ s, (writeD x.d l r).2.2 = s := ⟨_, rfl⟩
  rw [hs1, hs2]
  have HS := Lib.hid (And.intro hs1 hs2)
  have HO := Lib.hid hO
  have HL := Lib.hid (And.intro hso hwt)
  have HG := Lib.hid ((rt_iff x.d).1 hg)
  have hwx : wtD x.d = wtF x.files + wtW x.waits := rfl
  have hwl := len_le_wtW x.waits
  have hll := len_le_wtF l
  have HF := Lib.hid hf
  obtain ⟨d0, d1, d2, d3, d4⟩ := hO.cells
  obtain ⟨w0, w1_, w2_, w3_⟩ := hO.wcells
  unfold Dl.val Wr.val at *
  clear h hO hs1 hs2 hso hwt hk hl0 hf hg
  go_enter Try.func29, Try.ntmps29
  go_upto_region 1 with fail
  rw [← hV]
  clear hV hVs
  go_wp2_with fail
  refine y1.out.mono ?_
  rintro _ u1 ⟨A1, c1, rfl, l1, b1⟩
  have hO1 := HO.out.past b1
  have HO1 := Lib.hid hO1
  have HL1 := Lib.hid l1
  clear d0 d1 d2 d3 d4 w0 w1_ w2_ w3_
  obtain ⟨d0, d1, d2, d3, d4⟩ := hO1.cells
  obtain ⟨w0, w1_, w2_, w3_⟩ := hO1.wcells
  clear b1 l1 y1
  cases hd : x.down
  case true =>
    obtain ⟨t1, t2⟩ := write_down (d := x.d) (l := l) (r := r) hd
    obtain rfl : s1 = x.d := HS.out.1.symm.trans t1
    obtain rfl : s2 = 7 := HS.out.2.symm.trans t2
    rw [hd] at d3
    clear t1 t2 hd
    go_upto_region 3 with fail
    obtain ⟨X9, hX9, o9, i9, k9⟩ := hO1.back
    obtain ⟨e0, e1, e2, e3, e4⟩ := own5 o9
    clear d0 d1 d2 d3 d4
    obtain ⟨d0, d1, d2, d3, d4⟩ := hO1.cells
    obtain ⟨r0, r1, r2, r3, r4⟩ := hO1.rcells
    obtain ⟨f0, f1, f2, f3, f4⟩ := open5 hO1.res
    have H9 := Lib.hid (And.intro i9 k9)
    unfold set5 at hX9
    (try dsimp only at hX9 d0 d1 d2 d3 d4 e0 e1 e2 e3 e4)
    clear hO1 o9 i9 k9
    subst hX9
    go_wp2_with fail
    exact bodyPost_ret (v := .tuple #[.agg #[.slice x.fA x.files.length x.fc, .slice x.wA x.waits.length x.wc, .int .i64 x.room, .bool x.down, .int .i64 x.fuse], .int .i64 7]) (by simp [results, Try.results29, go_sem, e0, e1, e2, e3, e4]) rfl ⟨_, rfl, rfl, H9.out.1, H9.out.2⟩
  have HD := Lib.hid hd
  rw [hd] at d3
  have y2 := Lib.hid (rrightW_any r u1)
  unfold Wr.val at y2
  cases hr : rightW r
  case false =>
    obtain ⟨t1, t2⟩ := write_bad (d := x.d) (l := l) (r := r) hd hr
    obtain rfl : s1 = x.d := HS.out.1.symm.trans t1
    obtain rfl : s2 = 4 := HS.out.2.symm.trans t2
    rw [hr] at y2
    clear t1 t2 hr hO1 hd
    go_wp2_with fail
    refine y2.out.mono ?_
    rintro _ u2 ⟨rfl, b2⟩
    have hO2 := HO1.out.past b2
    clear b2
    obtain ⟨X9, hX9, o9, i9, k9⟩ := hO2.back
    obtain ⟨e0, e1, e2, e3, e4⟩ := own5 o9
    clear d0 d1 d2 d3 d4
    obtain ⟨d0, d1, d2, d3, d4⟩ := hO2.cells
    obtain ⟨r0, r1, r2, r3, r4⟩ := hO2.rcells
    obtain ⟨f0, f1, f2, f3, f4⟩ := open5 hO2.res
    have H9 := Lib.hid (And.intro i9 k9)
    unfold set5 at hX9
    (try dsimp only at hX9 d0 d1 d2 d3 d4 e0 e1 e2 e3 e4)
    clear hO2 o9 i9 k9
    subst hX9
    go_wp2_with fail
    exact bodyPost_ret (v := .tuple #[.agg #[.slice x.fA x.files.length x.fc, .slice x.wA x.waits.length x.wc, .int .i64 x.room, .bool x.down, .int .i64 x.fuse], .int .i64 4]) (by simp [results, Try.results29, go_sem, e0, e1, e2, e3, e4]) rfl ⟨_, rfl, rfl, H9.out.1, H9.out.2⟩
  have HR := Lib.hid hr
  rw [hr] at y2
  clear hr hO1 hd
  go_wp2_with fail
  refine y2.out.mono ?_
  rintro _ u2 ⟨rfl, b2⟩
  have hO2 := HO1.out.past b2
  have hL2 := lies_keep HL1.out b2
  have HO2 := Lib.hid hO2
  have HL2 := Lib.hid hL2
  clear d0 d1 d2 d3 d4 w0 w1_ w2_ w3_
  obtain ⟨d0, d1, d2, d3, d4⟩ := hO2.cells
  obtain ⟨w0, w1_, w2_, w3_⟩ := hO2.wcells
  clear b2 hL2 y2
  have hln : l.length ≤ 1099511627776 := by have := HL.out.2; omega
  go_upto_region 6 with fail
  go_cut [18] (fun s18 wx => AskNone l r s18 ∧ Below u2.heap.size u2 wx)
  case first =>
    by_cases hk1 : r.k = 1
    · rw [hk1] at w0
      have HK1 := Lib.hid hk1
      clear hk1 hO2
      go_wp2_with fail
      go_meet
      exact ⟨⟨false, rfl, ⟨(fun h => by cases h), fun h => absurd HK1.out h.1⟩⟩, Below.refl _ _⟩
    · have t1 : (r.k == 1) = false := beq_eq_false_iff_ne.2 hk1
      have t1' : (r.k != 1) = true := bne_iff_ne.2 hk1
      have HK1 := Lib.hid hk1
      have y3 := Lib.hid (find_ref A1 c1 l r.n u2 HL2.out hln)
      clear hk1 hO2
      go_wp2_with fail
      refine y3.out.mono ?_
      rintro _ u3 ⟨q, rfl, hF, b3⟩
      have H3 := Lib.hid b3
      clear b3
      rcases hF with ⟨i, f, hx, hfn, rfl, hno⟩ | ⟨rfl, hno⟩
      · obtain ⟨hh, _, _⟩ := found_get HL.out.1 hx hfn
        have t2 : decide ((i : Int) < 0) = false := decide_eq_false (by omega)
        have HH := Lib.hid hh
        have q0 : (0 : Int) ≤ (i : Int) := by omega
        clear hx hfn hno hh
        go_wp2_with fail
        go_meet
        exact ⟨⟨false, rfl, ⟨(fun h => by cases h), fun h => by rw [HH.out] at h; exact absurd h.2 (by simp)⟩⟩, H3.out⟩
      · obtain ⟨hh, _⟩ := not_found hno
        have t2 : decide ((-1 : Int) < 0) = true := by decide
        have HH := Lib.hid hh
        clear hno hh
        go_wp2_with fail
        go_meet
        exact ⟨⟨true, rfl, ⟨fun _ => ⟨HK1.out, HH.out⟩, fun _ => rfl⟩⟩, H3.out⟩
  case rest =>
    obtain ⟨⟨b18, rfl, hb18⟩, b3⟩ := hcut
    obtain ⟨u3, hu3⟩ := name_of (P := fun W => Below u2.heap.size u2 W) b3
    subst hu3
    have hO3 := HO2.out.past b3
    have hL3 := lies_keep HL2.out b3
    have HO3 := Lib.hid hO3
    have HL3 := Lib.hid hL3
    clear d0 d1 d2 d3 d4 w0 w1_ w2_ w3_
    obtain ⟨d0, d1, d2, d3, d4⟩ := hO3.cells
    obtain ⟨w0, w1_, w2_, w3_⟩ := hO3.wcells
    rw [HD.out] at d3
    clear b3 hL3
    cases b18
    case true =>
      obtain ⟨t1, t2⟩ := write_none (d := x.d) (l := l) (r := r) HD.out HR.out (hb18.1 rfl)
      obtain rfl : s1 = x.d := HS.out.1.symm.trans t1
      obtain rfl : s2 = 5 := HS.out.2.symm.trans t2
      clear t1 t2 hb18
      go_upto_region 7 with fail
      obtain ⟨X9, hX9, o9, i9, k9⟩ := hO3.back
      obtain ⟨e0, e1, e2, e3, e4⟩ := own5 o9
      clear d0 d1 d2 d3 d4
      obtain ⟨d0, d1, d2, d3, d4⟩ := hO3.cells
      obtain ⟨r0, r1, r2, r3, r4⟩ := hO3.rcells
      obtain ⟨f0, f1, f2, f3, f4⟩ := open5 hO3.res
      have H9 := Lib.hid (And.intro i9 k9)
      unfold set5 at hX9
      (try dsimp only at hX9 d0 d1 d2 d3 d4 e0 e1 e2 e3 e4)
      clear hO3 o9 i9 k9
      subst hX9
      go_wp2_with fail
      exact bodyPost_ret (v := .tuple #[.agg #[.slice x.fA x.files.length x.fc, .slice x.wA x.waits.length x.wc, .int .i64 x.room, .bool x.down, .int .i64 x.fuse], .int .i64 5]) (by simp [results, Try.results29, go_sem, e0, e1, e2, e3, e4]) rfl ⟨_, rfl, rfl, H9.out.1, H9.out.2⟩
    have HN := Lib.hid (show ¬ (r.k ≠ 1 ∧ hasF l r.n = false) from fun h => by have := hb18.2 h; cases this)
    have hko := kind_ok HR.out
    have HK := Lib.hid hko
    clear hb18 hko hO3
    obtain ⟨M, hM⟩ : ∃ M, appF l r = M := ⟨_, rfl⟩
    have hMw := wtF_app (w := r) HL.out.1
    rw [hM] at hMw
    have y5 := Lib.hid (fun W (hb : Below u3.heap.size u3 W) => done_any A1 c1 l r W (lies_keep HL3.out hb) HL.out.1 HK.out (by have := HL.out.2; omega))
    rw [hM] at y5
    have hroom := HG.out.room
    have hMn : wtF M ≤ 1099511627776 := by have := HL.out.2; omega
    have HM := Lib.hid hM
    clear hM hMw
    unfold Wr.val at y5
    by_cases hwn : 4096 ≤ x.waits.length
    · have t1 : decide ((4096 : Int) ≤ (x.waits.length : Int)) = true := decide_eq_true (by omega)
      obtain ⟨t3, t4⟩ := write_full (d := x.d) (l := l) (r := r) HD.out HR.out HN.out (.inl hwn)
      obtain rfl : s1 = x.d := HS.out.1.symm.trans t3
      obtain rfl : s2 = 9 := HS.out.2.symm.trans t4
      clear t3 t4 hwn y5
      go_upto_region 8 with fail
      go_quiet (fail)
      have hO4 := HO3.out.past (below_draws (Below.refl u3.heap.size u3) nq)
      go_upto_region 9 with fail
      obtain ⟨X9, hX9, o9, i9, k9⟩ := hO4.back
      obtain ⟨e0, e1, e2, e3, e4⟩ := own5 o9
      clear d0 d1 d2 d3 d4
      obtain ⟨d0, d1, d2, d3, d4⟩ := hO4.cells
      obtain ⟨r0, r1, r2, r3, r4⟩ := hO4.rcells
      obtain ⟨f0, f1, f2, f3, f4⟩ := open5 hO4.res
      have H9 := Lib.hid (And.intro i9 k9)
      unfold set5 at hX9
      (try dsimp only at hX9 d0 d1 d2 d3 d4 e0 e1 e2 e3 e4)
      clear hO4 o9 i9 k9
      subst hX9
      go_wp2_with fail
      exact bodyPost_ret (v := .tuple #[.agg #[.slice x.fA x.files.length x.fc, .slice x.wA x.waits.length x.wc, .int .i64 x.room, .bool x.down, .int .i64 x.fuse], .int .i64 9]) (by simp [results, Try.results29, go_sem, e0, e1, e2, e3, e4]) rfl ⟨_, rfl, rfl, H9.out.1, H9.out.2⟩
    have t1 : decide ((4096 : Int) ≤ (x.waits.length : Int)) = false := decide_eq_false (by omega)
    have HWN := Lib.hid (show x.waits.length < 4096 by omega)
    have hll4 : x.waits.length < 4096 := by omega
    have hgr := fun (A4 : Option Addr) (c4 : Nat) (w4 : World) (h4 : Lies 2 Fl.cells w4 w4.heap.size A4 M) => great_any A4 c4 M x.room w4 h4 hroom hrm hMn
    obtain ⟨gb, hgb⟩ : ∃ b, greatF M x.room = b := ⟨_, rfl⟩
    rw [hgb] at hgr
    have HGR := Lib.hid hgr
    have HGB := Lib.hid hgb
    have HC := Lib.hid (fun (W : World) (hb : Below u3.heap.size u3 W) => (⟨(HO3.out.past hb).cells.2.1, (HO3.out.past hb).cells.2.2.1, (HO3.out.past hb).wcells⟩ : W.cell? ⟨w.heap.size, 1, none⟩ = some (.slice x.wA x.waits.length x.wc) ∧ W.cell? ⟨w.heap.size, 2, none⟩ = some (.int .i64 x.room) ∧ (W.cell? ⟨w.heap.size + 1, 0, none⟩ = some (.int .u8 r.k) ∧ W.cell? ⟨w.heap.size + 1, 1, none⟩ = some (.string r.n) ∧ W.cell? ⟨w.heap.size + 1, 2, none⟩ = some (.string r.t) ∧ W.cell? ⟨w.heap.size + 1, 3, none⟩ = some (.string r.d))))
    clear hwn hgr hgb d0 d1 d2 d3 d4 w0 w1_ w2_ w3_ hroom hMn
    go_upto_region 8 with fail
    cases gb
    case true =>
      obtain ⟨t3, t4⟩ := write_full (d := x.d) (l := l) (r := r) HD.out HR.out HN.out (.inr (by rw [HM.out]; exact HGB.out))
      obtain rfl : s1 = x.d := HS.out.1.symm.trans t3
      obtain rfl : s2 = 9 := HS.out.2.symm.trans t4
      clear t3 t4
      go_region_held3 (fun w' => Below u3.heap.size u3 w' ∧ (w'.cell? ⟨w.heap.size, 1, none⟩ = some (.slice x.wA x.waits.length x.wc) ∧ w'.cell? ⟨w.heap.size, 2, none⟩ = some (.int .i64 x.room) ∧ (w'.cell? ⟨w.heap.size + 1, 0, none⟩ = some (.int .u8 r.k) ∧ w'.cell? ⟨w.heap.size + 1, 1, none⟩ = some (.string r.n) ∧ w'.cell? ⟨w.heap.size + 1, 2, none⟩ = some (.string r.t) ∧ w'.cell? ⟨w.heap.size + 1, 3, none⟩ = some (.string r.d))))
        ((refine (fun h => And.intro h (HC.out _ h)) ?_; first | exact hb5 | exact hb4 | exact Below.drew (Below.refl _ _)))
        ((first | (go_at_call 40; refine (y5.out _ (Below.drew (Below.refl u3.heap.size u3))).mono ?_; rintro _ w4 ⟨A4, c4, rfl, l4, b4⟩; have hb4 : Below u3.heap.size u3 w4 := (Below.drew (Below.refl u3.heap.size u3)).trans (b4.mono (Nat.le_refl _))) | (go_at_call 54; refine (HGR.out A4 c4 w4 l4).mono ?_; rintro _ w5 ⟨rfl, b5⟩; have hb5 : Below u3.heap.size u3 w5 := hb4.trans (b5.mono hb4.size))))
      all_goals
        have hO4 := HO3.out.past hb5
        clear hb4 l4 b4 b5 hb5
        obtain ⟨d0, d1, d2, d3, d4⟩ := hO4.cells
        go_upto_region 9 with fail
        obtain ⟨X9, hX9, o9, i9, k9⟩ := hO4.back
        obtain ⟨e0, e1, e2, e3, e4⟩ := own5 o9
        clear d0 d1 d2 d3 d4
        obtain ⟨d0, d1, d2, d3, d4⟩ := hO4.cells
        obtain ⟨r0, r1, r2, r3, r4⟩ := hO4.rcells
        obtain ⟨f0, f1, f2, f3, f4⟩ := open5 hO4.res
        have H9 := Lib.hid (And.intro i9 k9)
        unfold set5 at hX9
        (try dsimp only at hX9 d0 d1 d2 d3 d4 e0 e1 e2 e3 e4)
        clear hO4 o9 i9 k9
        subst hX9
        go_wp2_with fail
        exact bodyPost_ret (v := .tuple #[.agg #[.slice x.fA x.files.length x.fc, .slice x.wA x.waits.length x.wc, .int .i64 x.room, .bool x.down, .int .i64 x.fuse], .int .i64 9]) (by simp [results, Try.results29, go_sem, e0, e1, e2, e3, e4]) rfl ⟨_, rfl, rfl, H9.out.1, H9.out.2⟩
    case false =>
      go_region_held3 (fun w' => Below u3.heap.size u3 w' ∧ (w'.cell? ⟨w.heap.size, 1, none⟩ = some (.slice x.wA x.waits.length x.wc) ∧ w'.cell? ⟨w.heap.size, 2, none⟩ = some (.int .i64 x.room) ∧ (w'.cell? ⟨w.heap.size + 1, 0, none⟩ = some (.int .u8 r.k) ∧ w'.cell? ⟨w.heap.size + 1, 1, none⟩ = some (.string r.n) ∧ w'.cell? ⟨w.heap.size + 1, 2, none⟩ = some (.string r.t) ∧ w'.cell? ⟨w.heap.size + 1, 3, none⟩ = some (.string r.d))))
        ((refine (fun h => And.intro h (HC.out _ h)) ?_; first | exact hb5 | exact hb4 | exact Below.drew (Below.refl _ _)))
        ((first | (go_at_call 40; refine (y5.out _ (Below.drew (Below.refl u3.heap.size u3))).mono ?_; rintro _ w4 ⟨A4, c4, rfl, l4, b4⟩; have hb4 : Below u3.heap.size u3 w4 := (Below.drew (Below.refl u3.heap.size u3)).trans (b4.mono (Nat.le_refl _))) | (go_at_call 54; refine (HGR.out A4 c4 w4 l4).mono ?_; rintro _ w5 ⟨rfl, b5⟩; have hb5 : Below u3.heap.size u3 w5 := hb4.trans (b5.mono hb4.size))))
      all_goals
        have hO4 := HO3.out.past hb5
        have HO4 := Lib.hid hO4
        rename (Below u3.heap.size u3 w5 ∧ _) => hHx
        clear hHx hb4 l4 b4 b5 hb5
        obtain ⟨d0, d1, d2, d3, d4⟩ := hO4.cells
        obtain ⟨w0, w1_, w2_, w3_⟩ := hO4.wcells
        rw [HD.out] at d3
        obtain ⟨t3, t4⟩ := write_fine (d := x.d) (l := l) (r := r) HD.out HR.out HN.out HWN.out (by rw [HM.out]; exact HGB.out)
        have e1_ := HS.out.1.symm.trans t3
        have e2_ := HS.out.2.symm.trans t4
        rw [show x.d.fuse = x.fuse from rfl, show x.d.files = x.files from rfl, show x.d.waits = x.waits from rfl, show x.d.room = x.room from rfl, show x.d.down = x.down from rfl, HD.out] at e1_
        rw [show x.d.fuse = x.fuse from rfl] at e2_
        have hRow := Lib.hid (hO4.st.row.alloc (.cells #[.int .u8 r.k, .string r.n, .string r.t, .string r.d] 45))
        have hLr := Lib.hid (wr_made w5 r)
        have hle4 := hO4.st.le
        clear t3 t4 hO4
        by_cases hz : x.fuse = 0
        · rw [if_pos hz] at e1_ e2_
          subst e2_
          rw [hz] at d4
          have Hz := Lib.hid hz
          by_cases hk1 : r.k = 1
          · rw [if_pos hk1] at e1_
            subst e1_
            rw [hk1] at w0
            have HK1 := Lib.hid hk1
            clear hz hk1
            go_upto_region 11 with fail
            clear w0 w1_ w2_ w3_
            obtain ⟨w0, w1_, w2_, w3_⟩ := HO4.out.wcells
            go_wp2_with (at_builtin; refine wpList_append_liesK (l := [r]) _ rfl (.tmp 53) (.tmp 55) 23 45 rfl i1 _ 56 HJ.out.1 HJ.out.2.1 HJ.out.2.2.1 HJ.out.2.2.2.1 HJ.out.2.2.2.2 rfl (by decide) wrc_len wr_one B1 _ _ _ rfl hRow.out 1 rfl hLr.out ?m1 ?m2 ?m3 ?m4)
            case m1 => unfold maxLen; first | omega | (simp; omega)
            case m2 => first | omega | (simp; omega)
            case m3 => first | omega | (simp; omega)
            case m4 =>
            intro v6 w6 ho6 hg6 hv6
            obtain ⟨A6, c6, rfl, hO6⟩ := HO4.out.app (by simpa using ho6) hg6 (by simpa using hv6)
            obtain ⟨X7, hX7, hO7⟩ := hO6.field (y' := ⟨x.fA, x.fc, x.files, A6, c6, x.waits ++ [r], x.room, x.down, x.fuse⟩) 1 (.slice A6 (x.waits.length + 1) c6) (by unfold Dl.cells; simp)
            obtain ⟨g0, g1, g2, g3, g4⟩ := open5 hO6.own
            clear d0 d1 d2 d3 d4 w0 w1_ w2_ w3_ ho6 hg6 hv6
            obtain ⟨d0, d1, d2, d3, d4⟩ := hO6.cells
            clear hO6 hRow hLr
            go_upto_region 12 with fail
            rw [← hX7]
            clear hX7 d0 d1 d2 d3 d4 g0 g1 g2 g3 g4
            obtain ⟨d0, d1, d2, d3, d4⟩ := hO7.cells
            obtain ⟨g0, g1, g2, g3, g4⟩ := open5 hO7.own
            dsimp only at d0 d1 d2 d3 d4
            obtain ⟨X8, hX8, hO8⟩ := hO7.field (y' := ⟨x.fA, x.fc, x.files, A6, c6, x.waits ++ [r], x.room, true, x.fuse⟩) 3 (.bool true) rfl
            have hO9 := hO8.with_ (z' := ⟨x.fA, x.fc, x.files, A6, c6, x.waits ++ [r], x.room, true, x.fuse⟩) ⟨hO8.st.files, hO8.st.row, hO8.st.le⟩ hO8.off
            rw [Hz.out] at d4
            clear hO7 hO8
            go_upto_region 14 with fail
            rw [← hX8]
            clear hX8
            obtain ⟨X9, hX9, o9, i9, k9⟩ := hO9.back
            obtain ⟨e0, e1, e2, e3, e4⟩ := own5 o9
            clear d0 d1 d2 d3 d4
            obtain ⟨d0, d1, d2, d3, d4⟩ := hO9.cells
            obtain ⟨r0, r1, r2, r3, r4⟩ := hO9.rcells
            obtain ⟨f0, f1, f2, f3, f4⟩ := open5 hO9.res
            have H9 := Lib.hid (And.intro i9 k9)
            unfold set5 at hX9
            (try dsimp only at hX9 d0 d1 d2 d3 d4 e0 e1 e2 e3 e4)
            simp only [List.length_append, List.length_cons, List.length_nil, Nat.zero_add] at hX9 e1 d1
            clear hO9 o9 i9 k9
            subst hX9
            go_wp2_with fail
            exact bodyPost_ret (v := .tuple #[.agg #[.slice x.fA x.files.length x.fc, .slice A6 (x.waits.length + 1) c6, .int .i64 x.room, .bool true, .int .i64 x.fuse], .int .i64 7]) (by simp [results, Try.results29, go_sem, e0, e1, e2, e3, e4]) rfl ⟨_, by unfold Dl.val; simp only [List.length_append, List.length_cons, List.length_nil, Nat.zero_add], rfl, H9.out.1, H9.out.2⟩
          · rw [if_neg hk1] at e1_
            subst e1_
            have t5 : (r.k == 1) = false := beq_eq_false_iff_ne.2 hk1
            obtain ⟨X8, hX8, hO8⟩ := HO4.out.field (y' := ⟨x.fA, x.fc, x.files, x.wA, x.wc, x.waits, x.room, true, x.fuse⟩) 3 (.bool true) rfl
            have hO9 := hO8.with_ (z' := ⟨x.fA, x.fc, x.files, x.wA, x.wc, x.waits, x.room, true, x.fuse⟩) ⟨hO8.st.files, hO8.st.row, hO8.st.le⟩ hO8.off
            obtain ⟨g0, g1, g2, g3, g4⟩ := open5 HO4.out.own
            clear hO8 hk1 hz
            go_upto_region 14 with fail
            rw [← hX8]
            clear hX8
            obtain ⟨X9, hX9, o9, i9, k9⟩ := hO9.back
            obtain ⟨e0, e1, e2, e3, e4⟩ := own5 o9
            clear d0 d1 d2 d3 d4
            obtain ⟨d0, d1, d2, d3, d4⟩ := hO9.cells
            obtain ⟨r0, r1, r2, r3, r4⟩ := hO9.rcells
            obtain ⟨f0, f1, f2, f3, f4⟩ := open5 hO9.res
            have H9 := Lib.hid (And.intro i9 k9)
            unfold set5 at hX9
            (try dsimp only at hX9 d0 d1 d2 d3 d4 e0 e1 e2 e3 e4)
            clear hO9 o9 i9 k9
            subst hX9
            go_wp2_with fail
            exact bodyPost_ret (v := .tuple #[.agg #[.slice x.fA x.files.length x.fc, .slice x.wA x.waits.length x.wc, .int .i64 x.room, .bool true, .int .i64 x.fuse], .int .i64 7]) (by simp [results, Try.results29, go_sem, e0, e1, e2, e3, e4]) rfl ⟨_, rfl, rfl, H9.out.1, H9.out.2⟩
        · rw [if_neg hz] at e1_ e2_
          subst e1_ e2_
          have tz1 : (x.fuse != 0) = true := bne_iff_ne.2 hz
          have tz2 : (x.fuse == 0) = false := beq_eq_false_iff_ne.2 hz
          have q1 : -9223372036854775808 ≤ x.fuse := HF.out.1
          have q2 : x.fuse ≤ 9223372036854775807 := HF.out.2
          clear hz
          go_upto_region 11 with fail
          clear w0 w1_ w2_ w3_
          obtain ⟨w0, w1_, w2_, w3_⟩ := HO4.out.wcells
          go_wp2_with (at_builtin; refine wpList_append_liesK (l := [r]) _ rfl (.tmp 53) (.tmp 55) 23 45 rfl i1 _ 56 HJ.out.1 HJ.out.2.1 HJ.out.2.2.1 HJ.out.2.2.2.1 HJ.out.2.2.2.2 rfl (by decide) wrc_len wr_one B1 _ _ _ rfl hRow.out 1 rfl hLr.out ?m1 ?m2 ?m3 ?m4)
          case m1 => unfold maxLen; first | omega | (simp; omega)
          case m2 => first | omega | (simp; omega)
          case m3 => first | omega | (simp; omega)
          case m4 =>
          intro v6 w6 ho6 hg6 hv6
          obtain ⟨A6, c6, rfl, hO6⟩ := HO4.out.app (by simpa using ho6) hg6 (by simpa using hv6)
          obtain ⟨X7, hX7, hO7⟩ := hO6.field (y' := ⟨x.fA, x.fc, x.files, A6, c6, x.waits ++ [r], x.room, x.down, x.fuse⟩) 1 (.slice A6 (x.waits.length + 1) c6) (by unfold Dl.cells; simp)
          obtain ⟨g0, g1, g2, g3, g4⟩ := open5 hO6.own
          clear d0 d1 d2 d3 d4 w0 w1_ w2_ w3_ ho6 hg6 hv6
          obtain ⟨d0, d1, d2, d3, d4⟩ := hO6.cells
          clear hO6 hRow hLr
          go_upto_region 12 with fail
          rw [← hX7]
          clear hX7 d0 d1 d2 d3 d4 g0 g1 g2 g3 g4
          obtain ⟨d0, d1, d2, d3, d4⟩ := hO7.cells
          obtain ⟨g0, g1, g2, g3, g4⟩ := open5 hO7.own
          dsimp only at d0 d1 d2 d3 d4
          by_cases hp : 0 < x.fuse
          · have t6 : decide (0 < x.fuse) = true := decide_eq_true hp
            obtain ⟨X8, hX8, hO8⟩ := hO7.field (y' := ⟨x.fA, x.fc, x.files, A6, c6, x.waits ++ [r], x.room, x.down, x.fuse - 1⟩) 4 (.int .i64 (x.fuse - 1)) rfl
            have hO9 := hO8.with_ (z' := ⟨x.fA, x.fc, x.files, A6, c6, x.waits ++ [r], x.room, x.down, x.fuse - 1⟩) ⟨hO8.st.files, hO8.st.row, hO8.st.le⟩ hO8.off
            have hE := Lib.hid (show (⟨x.files, x.waits ++ [r], x.room, false, lessN x.fuse⟩ : Dk) = ⟨x.files, x.waits ++ [r], x.room, x.down, x.fuse - 1⟩ by unfold lessN; rw [if_pos hp, HD.out])
            have hp2 : (1 : Int) ≤ x.fuse := by omega
            clear hO7 hO8 hp
            go_upto_region 17 with fail
            rw [← hX8]
            clear hX8
            obtain ⟨X9, hX9, o9, i9, k9⟩ := hO9.back
            obtain ⟨e0, e1, e2, e3, e4⟩ := own5 o9
            clear d0 d1 d2 d3 d4
            obtain ⟨d0, d1, d2, d3, d4⟩ := hO9.cells
            obtain ⟨r0, r1, r2, r3, r4⟩ := hO9.rcells
            obtain ⟨f0, f1, f2, f3, f4⟩ := open5 hO9.res
            have H9 := Lib.hid (And.intro i9 k9)
            unfold set5 at hX9
            (try dsimp only at hX9 d0 d1 d2 d3 d4 e0 e1 e2 e3 e4)
            simp only [List.length_append, List.length_cons, List.length_nil, Nat.zero_add] at hX9 e1 d1
            clear hO9 o9 i9 k9
            subst hX9
            go_wp2_with fail
            exact bodyPost_ret (v := .tuple #[.agg #[.slice x.fA x.files.length x.fc, .slice A6 (x.waits.length + 1) c6, .int .i64 x.room, .bool x.down, .int .i64 (x.fuse - 1)], .int .i64 0]) (by simp [results, Try.results29, go_sem, e0, e1, e2, e3, e4]) rfl ⟨⟨x.fA, x.fc, x.files, A6, c6, x.waits ++ [r], x.room, x.down, x.fuse - 1⟩, by unfold Dl.val; simp only [List.length_append, List.length_cons, List.length_nil, Nat.zero_add], hE.out.symm, H9.out.1, H9.out.2⟩
          · have t6 : decide (0 < x.fuse) = false := decide_eq_false hp
            have hO9 := hO7
            have hE := Lib.hid (show (⟨x.files, x.waits ++ [r], x.room, false, lessN x.fuse⟩ : Dk) = ⟨x.files, x.waits ++ [r], x.room, x.down, x.fuse⟩ by unfold lessN; rw [if_neg hp, HD.out])
            clear hO7 hp
            go_upto_region 17 with fail
            obtain ⟨X9, hX9, o9, i9, k9⟩ := hO9.back
            obtain ⟨e0, e1, e2, e3, e4⟩ := own5 o9
            clear d0 d1 d2 d3 d4
            obtain ⟨d0, d1, d2, d3, d4⟩ := hO9.cells
            obtain ⟨r0, r1, r2, r3, r4⟩ := hO9.rcells
            obtain ⟨f0, f1, f2, f3, f4⟩ := open5 hO9.res
            have H9 := Lib.hid (And.intro i9 k9)
            unfold set5 at hX9
            (try dsimp only at hX9 d0 d1 d2 d3 d4 e0 e1 e2 e3 e4)
            simp only [List.length_append, List.length_cons, List.length_nil, Nat.zero_add] at hX9 e1 d1
            clear hO9 o9 i9 k9
            subst hX9
            go_wp2_with fail
            exact bodyPost_ret (v := .tuple #[.agg #[.slice x.fA x.files.length x.fc, .slice A6 (x.waits.length + 1) c6, .int .i64 x.room, .bool x.down, .int .i64 x.fuse], .int .i64 0]) (by simp [results, Try.results29, go_sem, e0, e1, e2, e3, e4]) rfl ⟨⟨x.fA, x.fc, x.files, A6, c6, x.waits ++ [r], x.room, x.down, x.fuse⟩, by unfold Dl.val; simp only [List.length_append, List.length_cons, List.length_nil, Nat.zero_add], hE.out.symm, H9.out.1, H9.out.2⟩
end Go.Proofs.Ytfelpjacccclkaa
namespace Go.Proofs.Ytfelpjacccclkaa
open Go Go.RowKit

theorem write_stays (d : Dk) (l : List Fl) (r : Wr) : (writeD d l r).1.room = d.room ∧ ((writeD d l r).1.fuse = d.fuse ∨ (writeD d l r).1.fuse = lessN d.fuse) := by
  unfold writeD
  split
  · exact ⟨rfl, .inl rfl⟩
  split
  · exact ⟨rfl, .inl rfl⟩
  split
  · exact ⟨rfl, .inl rfl⟩
  split
  · exact ⟨rfl, .inl rfl⟩
  split
  · exact ⟨rfl, .inl rfl⟩
  · exact ⟨rfl, .inr rfl⟩
theorem less_ok {n : Int} (h : -9223372036854775808 ≤ n ∧ n ≤ 9223372036854775807) : -9223372036854775808 ≤ lessN n ∧ lessN n ≤ 9223372036854775807 := by
  unfold lessN; split <;> omega
/-- where Do is: behind k writes -/
structure DoAt (x : Dl) (ws : List Wr) (k : Nat) (y : Dl) : Prop where
  good : goodD y.d = true
  same : doS x.d (seen x.d) ws = doS y.d (seen y.d) (ws.drop k)
  fuse : FOk y.d
  room : y.room ≤ 9223372036854775807
  wt : wtD y.d + wtW (ws.drop k) ≤ 900000000000
theorem do_next {x y z : Dl} {ws : List Wr} {k : Nat} {r : Wr} (h : DoAt x ws k y) (hr : ws[k]? = some r) (hz : z.d = (writeD y.d (seen y.d) r).1) :
    ((writeD y.d (seen y.d) r).2.2 = 0 → DoAt x ws (k + 1) z) ∧ ((writeD y.d (seen y.d) r).2.2 ≠ 0 → doS x.d (seen x.d) ws = (z.d, (writeD y.d (seen y.d) r).2.2)) ∧ wtD y.d + (2 + r.d.size) ≤ 900000000000 := by
  have hlt := (List.getElem?_eq_some_iff.1 hr).1
  have hdr : ws.drop k = r :: ws.drop (k + 1) := by rw [List.drop_eq_getElem_cons hlt, (List.getElem?_eq_some_iff.1 hr).2]
  have hw : wtW (ws.drop k) = 2 + r.d.size + wtW (ws.drop (k + 1)) := by rw [hdr]; unfold wtW; rw [List.map_cons, List.sum_cons]
  obtain ⟨g1, g2⟩ := write_good (w := r) h.good rfl
  obtain ⟨e1, e2⟩ := write_stays y.d (seen y.d) r
  have hwt := write_wt y.d (seen y.d) r
  have hs := h.same
  have hh := h.wt
  rw [hdr] at hs
  refine ⟨fun h0 => ⟨by rw [hz]; exact g1, ?_, ?_, ?_, ?_⟩, fun h0 => ?_, by omega⟩
  · rw [hs]
    show (if (writeD y.d (seen y.d) r).2.2 = 0 then _ else _) = _
    rw [if_pos h0, (g2 h0).1, ← hz]
  · rw [hz]
    unfold FOk
    rcases e2 with e2 | e2
    · rw [e2]; exact h.fuse
    · rw [e2]; exact less_ok h.fuse
  · show z.d.room ≤ _
    rw [hz, e1]; exact h.room
  · rw [hz]; omega
  · rw [hs, hz]
    show (if (writeD y.d (seen y.d) r).2.2 = 0 then _ else _) = _
    rw [if_neg h0]
/-- the boxes of Do -/
structure DoB (w W : World) (B1 : Nat) (y : Dl) : Prop where
  below : Below w.heap.size w W
  own : Own W w.heap.size 25 y.cells
  res : Own W (w.heap.size + 1) 25 zeroDl.cells
  st : Rk W B1 y
  lt : w.heap.size + 2 ≤ B1
theorem DoB.past {w W W' : World} {B1 : Nat} {y : Dl} (h : DoB w W B1 y) (hb : Below W.heap.size W W') : DoB w W' B1 y :=
  ⟨h.below.trans (hb.mono h.below.size), h.own.past hb h.own.inside, h.res.past hb h.res.inside, h.st.past hb, h.lt⟩
theorem DoB.cells {w W : World} {B1 : Nat} {y : Dl} (h : DoB w W B1 y) :
    W.cell? ⟨w.heap.size, 0, none⟩ = some (.slice y.fA y.files.length y.fc) ∧ W.cell? ⟨w.heap.size, 1, none⟩ = some (.slice y.wA y.waits.length y.wc) ∧ W.cell? ⟨w.heap.size, 2, none⟩ = some (.int .i64 y.room) ∧ W.cell? ⟨w.heap.size, 3, none⟩ = some (.bool y.down) ∧ W.cell? ⟨w.heap.size, 4, none⟩ = some (.int .i64 y.fuse) := own5 h.own
theorem DoB.rcells {w W : World} {B1 : Nat} {y : Dl} (h : DoB w W B1 y) :
    W.cell? ⟨w.heap.size + 1, 0, none⟩ = some (.slice none 0 0) ∧ W.cell? ⟨w.heap.size + 1, 1, none⟩ = some (.slice none 0 0) ∧ W.cell? ⟨w.heap.size + 1, 2, none⟩ = some (.int .i64 0) ∧ W.cell? ⟨w.heap.size + 1, 3, none⟩ = some (.bool false) ∧ W.cell? ⟨w.heap.size + 1, 4, none⟩ = some (.int .i64 0) := own5 h.res
/-- a disk's row past the turning of a variable that holds one -/
theorem Rk.var {W : World} {B1 G : Nat} {t : TypeId} {y z : Dl} (h : Rk W B1 z) (o : Own W G t y.cells) (hG : G < B1) (a0 a1 a2 a3 a4 : Value) : Rk (set5 W G a0 a1 a2 a3 a4) B1 z := by
  have k := set5_kept W G a0 a1 a2 a3 a4
  refine ⟨fun hp => ?_, k.row h.row (fun b hb e => by have := (h.row.lt b hb).1; omega), Nat.le_trans h.le k.size⟩
  obtain ⟨b, q, e, hb, hc⟩ := h.files hp
  have hne := off_files h.files o hp b q e
  exact ⟨b, q, e, hb, fun i x hi j u hj => kept_cell k hne (Nat.lt_of_lt_of_le hb h.le) (hc i x hi j u hj)⟩
/-- stored to Do's own -/
theorem DoB.store {w W : World} {B1 : Nat} {y z : Dl} (hb : Below w.heap.size w W) (ho : Own W w.heap.size 25 y.cells) (hr : Own W (w.heap.size + 1) 25 zeroDl.cells) (h : Rk W B1 z) (hl : w.heap.size + 2 ≤ B1) :
    ∃ X, X = set5 W w.heap.size (.slice z.fA z.files.length z.fc) (.slice z.wA z.waits.length z.wc) (.int .i64 z.room) (.bool z.down) (.int .i64 z.fuse) ∧ DoB w X B1 z := by
  have k := set5_kept W w.heap.size (.slice z.fA z.files.length z.fc) (.slice z.wA z.waits.length z.wc) (.int .i64 z.room) (.bool z.down) (.int .i64 z.fuse)
  exact ⟨_, rfl, ⟨hb.trans (k.below (fun b e => by omega) hb.size), set5_own ho _ _ _ _ _, k.own hr (by omega), h.var ho (by omega) _ _ _ _ _, hl⟩⟩
theorem DoB.back {w W : World} {B1 : Nat} {z : Dl} (h : DoB w W B1 z) :
    ∃ X, X = set5 W (w.heap.size + 1) (.slice z.fA z.files.length z.fc) (.slice z.wA z.waits.length z.wc) (.int .i64 z.room) (.bool z.down) (.int .i64 z.fuse) ∧ Own X (w.heap.size + 1) 25 z.cells ∧ DIn X X.heap.size z ∧ Below w.heap.size w X := by
  have k := set5_kept W (w.heap.size + 1) (.slice z.fA z.files.length z.fc) (.slice z.wA z.waits.length z.wc) (.int .i64 z.room) (.bool z.down) (.int .i64 z.fuse)
  have hl := h.lt
  exact ⟨_, rfl, set5_own h.res _ _ _ _ _, (h.st.var h.res (by omega) _ _ _ _ _).din, h.below.trans (k.below (fun b e => by omega) h.below.size)⟩
/-- behind a write -/
theorem DoB.wrote {w W W' : World} {B1 : Nat} {y z : Dl} (h : DoB w W B1 y) (k : Kept W W' (Wown y)) (hz : Rk W' B1 z) :
    Below w.heap.size w W' ∧ Own W' w.heap.size 25 y.cells ∧ Own W' (w.heap.size + 1) 25 zeroDl.cells := by
  have hl := h.lt
  have ho : ∀ b, Wown y b → B1 ≤ b := fun b hb => (h.st.row.lt b hb).1
  exact ⟨h.below.trans (k.below (fun b hb => by have := ho b hb; omega) h.below.size), k.own h.own (fun hb => by have := ho _ hb; omega), k.own h.res (fun hb => by have := ho _ hb; omega)⟩
end Go.Proofs.Ytfelpjacccclkaa
namespace Go.Proofs.Ytfelpjacccclkaa
open Go Go.RowKit

set_option maxRecDepth 100000 in
set_option maxHeartbeats 6400000 in
theorem rdo_any (x : Dl) (B : Option Addr) (cb : Nat) (ws : List Wr) (w : World) (h : DIn w w.heap.size x) (hws : Lies 4 Wr.cells w w.heap.size B ws) (hf : FOk x.d) (hrm : x.room ≤ 9223372036854775807) (hn : wtD x.d + wtW ws ≤ 900000000000) :
    Calls Try.prog 10 #[x.val, .slice B ws.length cb] w fun e w' => Gives w w' e (doD x.d ws) := by
  obtain ⟨V, hV, hB⟩ := boxes_start w x h
  have y1 := Lib.hid (rcheck_any x V hB.din (by omega))
  have y2 := Lib.hid (fun W (hb : Below V.heap.size V W) => rcopy_any x W (hB.din.keep hb) (by omega))
  have HB := Lib.hid (And.intro hB hws)
  have hwl := len_le_wtW ws
  have hln : ws.length ≤ 1099511627776 := by omega
  obtain ⟨d0, d1, d2, d3, d4⟩ := hB.cells
  obtain ⟨s, hsE⟩ : ∃ s, doD x.d ws = s := ⟨_, rfl⟩
  rw [hsE]
  clear h hB hws hwl
  cases hg : goodD x.d
  · have hc := Lib.hid (show chkD x.d = 8 by unfold chkD; rw [hg]; rfl)
    obtain rfl : (.zero, 8) = s := by rw [← hsE]; unfold doD; rw [hg]; rfl
    unfold Dl.val at y1 ⊢
    clear hg y2 hsE
    go_enter Try.func10, Try.ntmps10
    go_upto_region 1 with fail
    rw [← hV]
    clear hV
    go_wp2_with fail
    refine y1.out.mono ?_
    rintro _ w1 ⟨rfl, b1⟩
    rw [hc.out]
    have hP := HB.out.1.past b1
    obtain ⟨f0, f1, f2, f3, f4⟩ := open5 hP.res
    obtain ⟨r0, r1, r2, r3, r4⟩ := hP.rcells
    obtain ⟨X, hX, oX, iX, bX⟩ := boxes_zero HB.out.1 b1
    obtain ⟨e0, e1, e2, e3, e4⟩ := own5 oX
    have HX := Lib.hid (And.intro iX bX)
    unfold set5 at hX
    subst hX
    clear hP oX iX bX b1 d0 d1 d2 d3 d4
    go_wp2_with fail
    exact bodyPost_ret (v := .tuple #[.agg #[.slice none 0 0, .slice none 0 0, .int .i64 0, .bool false, .int .i64 0], .int .i64 8]) (by simp [results, Try.results10, go_sem, e0, e1, e2, e3, e4, zeroDl]) rfl ⟨HX.out.2, zeroDl, rfl, rfl, HX.out.1⟩
  · have hc := Lib.hid (show chkD x.d = 0 by unfold chkD; rw [hg]; rfl)
    have hs := Lib.hid (show doS x.d (seen x.d) ws = s by rw [← hsE]; unfold doD; rw [hg]; rfl)
    have HG := Lib.hid hg
    have HF := Lib.hid (And.intro hf (And.intro hrm hn))
    unfold Dl.val at y1 y2 ⊢
    clear hg hsE hf hrm hn
    go_enter Try.func10, Try.ntmps10
    go_upto_region 1 with fail
    rw [← hV]
    clear hV
    go_wp2_with fail
    refine y1.out.mono ?_
    rintro _ w1 ⟨rfl, b1⟩
    rw [hc.out]
    have hB1 := HB.out.1.past b1
    have y3 := Lib.hid (y2.out w1 b1)
    have HB1 := Lib.hid hB1
    clear d0 d1 d2 d3 d4
    obtain ⟨d0, d1, d2, d3, d4⟩ := hB1.cells
    clear hB1 b1 y1 y2
    go_wp2_with fail
    refine y3.out.mono ?_
    rintro _ w2 ⟨y, rfl, cop⟩
    obtain ⟨B1, k1, k2, hfl, hrw⟩ := cop.row
    have hB2 := HB1.out.past cop.below
    have hst : Rk w2 B1 y := ⟨hfl, hrw, k2⟩
    have hin := HB1.out.res.inside
    obtain ⟨X, hX, hD⟩ := DoB.store hB2.below hB2.own hB2.res hst (by omega)
    obtain ⟨f0, f1, f2, f3, f4⟩ := open5 hB2.own
    clear d0 d1 d2 d3 d4
    obtain ⟨d0, d1, d2, d3, d4⟩ := hB2.cells
    have HD := Lib.hid hD
    have h0 : DoAt x ws 0 y := by
      have hd := cop.d_
      have hr : y.room = x.room := by have := d_eq hd; exact this.2.2.1
      exact ⟨by rw [hd]; exact HG.out, by rw [hd]; rfl, by rw [hd]; exact HF.out.1, by rw [hr]; exact HF.out.2.1, by rw [hd]; exact HF.out.2.2⟩
    have H0 := Lib.hid h0
    unfold set5 at hX
    unfold Dl.val
    clear cop hB2 hst hD h0 k1 k2 hfl hrw y3 hin
    go_upto_region 4 with fail
    rw [← hX]
    clear hX d0 d1 d2 d3 d4 f0 f1 f2 f3 f4
    go_wp2_with fail
    go_loopw [18] (fun i wr => ∃ (k : Nat) (z : Dl), i = .int .i64 (k : Int) ∧ k ≤ ws.length ∧ DoAt x ws k z ∧ DoB w wr B1 z)
      (fun i _ => ws.length - (intOf i).toNat)
    case atStart => exact ⟨0, y, rfl, by omega, H0.out, HD.out⟩
    case round =>
      obtain ⟨k, z, rfl, hk, hat, hdo⟩ := hrel
      by_cases hlt : k < ws.length
      · have hx : ws[k]? = some ws[k] := List.getElem?_eq_getElem hlt
        obtain ⟨b, o, hA, hB, hxs⟩ := HB.out.2 (by omega)
        have x0 := (hdo.below.cell (p := ⟨b, o + k * 4 + 0, none⟩) hB).trans (hxs k _ hx 0 _ rfl)
        have x1 := (hdo.below.cell (p := ⟨b, o + k * 4 + 1, none⟩) hB).trans (hxs k _ hx 1 _ rfl)
        have x2 := (hdo.below.cell (p := ⟨b, o + k * 4 + 2, none⟩) hB).trans (hxs k _ hx 2 _ rfl)
        have x3 := (hdo.below.cell (p := ⟨b, o + k * 4 + 3, none⟩) hB).trans (hxs k _ hx 3 _ rfl)
        generalize ws[k] = r at *
        simp only [Nat.add_zero] at x0
        obtain ⟨W, hW, bW, sW, oW⟩ := wrbox wr r
        have hdW := hdo.past bW
        have hq := (do_next (z := ⟨none, 0, (writeD z.d (seen z.d) r).1.files, none, 0, (writeD z.d (seen z.d) r).1.waits, (writeD z.d (seen z.d) r).1.room, (writeD z.d (seen z.d) r).1.down, (writeD z.d (seen z.d) r).1.fuse⟩) hat hx rfl).2.2
        have yO := Lib.hid (one_any z r B1 W hdW.st hat.good hat.fuse hat.room hq)
        have g0 := oW.at_ 0
        have g1 := oW.at_ 1
        have g2 := oW.at_ 2
        have g3 := oW.at_ 3
        simp only [Wr.cells, List.getElem?_cons_zero, List.getElem?_cons_succ] at g0 g1 g2 g3
        obtain ⟨d0, d1, d2, d3, d4⟩ := hdW.cells
        have q0 : (0 : Int) ≤ (k : Int) := by omega
        have q1 : (k : Int) < (ws.length : Int) := by omega
        have HH := Lib.hid (And.intro hdW (And.intro hat hx))
        unfold Dl.val Wr.val at yO
        obtain ⟨k', hk'⟩ : ∃ k', (writeD z.d (seen z.d) r).1 = k' := ⟨_, rfl⟩
        obtain ⟨n', hn'⟩ : ∃ n', (writeD z.d (seen z.d) r).2.2 = n' := ⟨_, rfl⟩
        rw [hk', hn'] at yO
        have HN := Lib.hid (And.intro hk' hn')
        rw [hA]
        clear hat hdo hx hxs bW sW oW hdW hq hk' hn' hA hB
        go_upto_region 7 with fail
        rw [← hW]
        clear hW x0 x1 x2 x3
        go_wp2_with fail
        refine yO.out.mono ?_
        rintro _ w5 ⟨v, rfl, hvd, hrk, hkp⟩
        obtain ⟨hb5, ho5, hr5⟩ := HH.out.1.wrote hkp hrk
        obtain ⟨W6, hW6, bW6, sW6, oW6⟩ := dbox w5 v
        obtain ⟨X7, hX7, hD7⟩ := DoB.store (hb5.trans (bW6.mono hb5.size)) (ho5.past bW6 ho5.inside) (hr5.past bW6 hr5.inside) (hrk.past bW6) HH.out.1.lt
        obtain ⟨f0, f1, f2, f3, f4⟩ := open5 (ho5.past bW6 ho5.inside)
        obtain ⟨u0, u1, u2, u3, u4⟩ := own5 oW6
        clear d0 d1 d2 d3 d4
        obtain ⟨d0, d1, d2, d3, d4⟩ := own5 (ho5.past bW6 ho5.inside)
        have hstep := do_next HH.out.2.1 HH.out.2.2 (hvd.trans HN.out.1.symm)
        rw [HN.out.2] at hstep
        have HS := Lib.hid hstep
        have HD7 := Lib.hid (And.intro hD7 hvd)
        unfold set5 at hX7
        unfold Dl.val
        clear hb5 ho5 hr5 bW6 sW6 oW6 hrk hkp hstep hvd g0 g1 g2 g3
        go_upto_region 8 with fail
        rw [← hW6]
        clear hW6
        go_upto_region 9 with fail
        rw [← hX7]
        clear hX7 d0 d1 d2 d3 d4 f0 f1 f2 f3 f4 u0 u1 u2 u3 u4
        by_cases h0 : n' = 0
        · subst h0
          clear hD7
          go_wp2_with fail
          go_roundw
          case rel => exact ⟨k + 1, v, by go_num, by omega, HS.out.1 rfl, HD7.out.1⟩
          case measure => simp [intOf]; omega
        · have t1 : (n' != 0) = true := bne_iff_ne.2 h0
          have t1' : (n' == 0) = false := beq_eq_false_iff_ne.2 h0
          have hE := HS.out.2.1 h0
          obtain rfl : s = (v.d, n') := by rw [← hs.out]; exact hE
          obtain ⟨X9, hX9, o9, i9, b9⟩ := hD7.back
          obtain ⟨e0, e1, e2, e3, e4⟩ := own5 o9
          obtain ⟨d0, d1, d2, d3, d4⟩ := hD7.cells
          obtain ⟨r0, r1, r2, r3, r4⟩ := hD7.rcells
          obtain ⟨f0, f1, f2, f3, f4⟩ := open5 hD7.res
          have H9 := Lib.hid (And.intro i9 b9)
          unfold set5 at hX9
          clear hD7 o9 i9 b9 h0 hE
          subst hX9
          go_wp2_with fail
          exact bodyPost_ret (v := .tuple #[.agg #[.slice v.fA v.files.length v.fc, .slice v.wA v.waits.length v.wc, .int .i64 v.room, .bool v.down, .int .i64 v.fuse], .int .i64 n']) (by simp [results, Try.results10, go_sem, e0, e1, e2, e3, e4]) rfl ⟨H9.out.2, v, rfl, rfl, H9.out.1⟩
      · have hk2 : k = ws.length := by omega
        have hE := hat.same
        rw [hk2, List.drop_length] at hE
        obtain rfl : s = (z.d, 0) := by rw [← hs.out, hE]; rfl
        obtain ⟨X9, hX9, o9, i9, b9⟩ := hdo.back
        obtain ⟨e0, e1, e2, e3, e4⟩ := own5 o9
        obtain ⟨d0, d1, d2, d3, d4⟩ := hdo.cells
        obtain ⟨r0, r1, r2, r3, r4⟩ := hdo.rcells
        obtain ⟨f0, f1, f2, f3, f4⟩ := open5 hdo.res
        have H9 := Lib.hid (And.intro i9 b9)
        unfold set5 at hX9
        clear hdo hat o9 i9 b9 hk2 hE
        subst hX9
        go_wp2_with fail
        exact bodyPost_ret (v := .tuple #[.agg #[.slice z.fA z.files.length z.fc, .slice z.wA z.waits.length z.wc, .int .i64 z.room, .bool z.down, .int .i64 z.fuse], .int .i64 0]) (by simp [results, Try.results10, go_sem, e0, e1, e2, e3, e4]) rfl ⟨H9.out.2, z, rfl, rfl, H9.out.1⟩
end Go.Proofs.Ytfelpjacccclkaa
namespace Go.Proofs.Ytfelpjacccclkaa
open Go Go.RowKit

theorem dk_zero : wtD Dk.zero = 0 := rfl
theorem sync_told {k k' : Dk} {n : Int} (h : syncD k = (k', n)) (hw : wtD k ≤ 1048576) : wtD k' ≤ 1099511627776 := by
  by_cases hz : n = 0
  · subst hz; have := sync_wt h; omega
  · unfold syncD at h
    split at h
    · split at h
      · injection h with h1 h2; subst h1; omega
      · split at h
        · injection h with h1 h2; subst h1
          show wtD ⟨k.files, k.waits, k.room, true, k.fuse⟩ ≤ _
          have : wtD ⟨k.files, k.waits, k.room, true, k.fuse⟩ = wtD k := rfl
          omega
        · injection h with h1 h2; exact absurd h2.symm hz
    · injection h with h1 h2; subst h1; rw [dk_zero]; omega
set_option maxRecDepth 100000 in
set_option maxHeartbeats 6400000 in
theorem writes_true (x : Dl) (A : Option Addr) (c : Nat) (ws : List Wr) (w : World) (h : DIn w w.heap.size x) (hf : FOk x.d) (hrm : x.room ≤ 9223372036854775807) (hws : Lies 4 Wr.cells w w.heap.size A ws) (hn : wtD x.d + wtW ws ≤ 1048576) :
    Calls Try.prog 3 #[x.val, .slice A ws.length c] w fun e w' => e = .returned (.bool true) ∧ Below w.heap.size w w' := by
  obtain ⟨V, hV, hVb, hVs, oD⟩ := dbox w x
  have iV := h.keep hVb
  have lV := lies_keep hws hVb
  have HV := Lib.hid (And.intro hVb (And.intro oD (And.intro iV lV)))
  have y0 := Lib.hid (rcopy_any x V iV (by omega))
  obtain ⟨k1, n1, hd1⟩ : ∃ k n, doD x.d ws = (k, n) := ⟨_, _, rfl⟩
  obtain ⟨k2, n2, hs2⟩ : ∃ k n, syncD x.d = (k, n) := ⟨_, _, rfl⟩
  have tk1 : wtD k1 ≤ 1099511627776 := (doD_told (m := 0) hd1 hf (by omega)).wt |> fun h => by omega
  have tk2 : wtD k2 ≤ 1099511627776 := sync_told hs2 (by omega)
  have td : DTold x.d (wtW ws) := ⟨by omega, hf⟩
  have td0 : DTold x.d 0 := ⟨by omega, hf⟩
  have HT := Lib.hid (And.intro hd1 (And.intro hs2 (And.intro tk1 (And.intro tk2 (And.intro td (And.intro td0 (show wtD x.d ≤ 1099511627776 by omega)))))))
  have y3 := Lib.hid (fun W (hb : Below V.heap.size V W) => rdo_any x A c ws W (iV.keep hb) (lies_keep lV hb) hf hrm (by omega))
  have y5 := Lib.hid (fun W (hb : Below V.heap.size V W) => rsync_any x W (iV.keep hb) hf (by omega))
  rw [hd1] at y3
  rw [hs2] at y5
  obtain ⟨d0, d1, d2, d3, d4⟩ := own5 oD
  unfold Dl.val at y0 y3 y5 ⊢
  clear h hVb hVs oD iV lV hf hn hrm hws hd1 hs2 tk1 tk2 td td0
  go_enter Try.func3, Try.ntmps3
  go_upto_region 1 with fail
  rw [← hV]
  clear hV
  go_wp2_with fail
  refine y0.out.mono ?_
  rintro _ w1 ⟨y, rfl, cop⟩
  obtain ⟨W1, hW1, oW1, iW1, bW1⟩ := var_new cop.din
  have bV1 : Below V.heap.size V W1 := cop.below.trans (bW1.mono cop.below.size)
  have H1 := Lib.hid (And.intro bV1 (And.intro oW1 (And.intro iW1 cop.d_)))
  unfold Dl.val
  clear d0 d1 d2 d3 d4 cop oW1 iW1 bW1 bV1 y0
  go_upto_region 2 with fail
  rw [← hW1]
  clear hW1
  obtain ⟨d0, d1, d2, d3, d4⟩ := own5 H1.out.2.1
  have hc2 := do_at (B := A) c H1.out.2.2.1 H1.out.2.2.2 HT.out.1 (lies_keep HV.out.2.2.2 H1.out.1) HT.out.2.2.2.2.1
  go_wp2_with fail
  refine hc2.out.mono ?_
  rintro _ w2 ⟨b2, z1, rfl, hz1, iz1⟩
  obtain ⟨W2, hW2, oW2, iW2, bW2⟩ := var_new iz1
  have b12 : Below W1.heap.size W1 W2 := b2.trans (bW2.mono b2.size)
  have b02 := H1.out.1.trans (b12.mono H1.out.1.size)
  have H2 := Lib.hid (And.intro b12 (And.intro oW2 (And.intro iW2 (And.intro hz1 b02))))
  have y3' := Lib.hid (y3.out W2 b02)
  clear d0 d1 d2 d3 d4 b2 iz1 oW2 iW2 bW2 b12 hz1 hc2 y3
  go_upto_region 3 with fail
  rw [← hW2]
  clear hW2
  obtain ⟨d0, d1, d2, d3, d4⟩ := own5 (HV.out.2.1.past b02 HV.out.2.1.inside)
  clear b02
  go_wp2_with fail
  refine y3'.out.mono ?_
  rintro _ w3 ⟨b3, z2, rfl, hz2, iz2⟩
  obtain ⟨W3, hW3, oW3, iW3, bW3⟩ := var_new iz2
  have b23 : Below W2.heap.size W2 W3 := b3.trans (bW3.mono b3.size)
  have b13 := H2.out.1.trans (b23.mono H2.out.1.size)
  have H3 := Lib.hid (And.intro b23 (And.intro oW3 (And.intro iW3 (And.intro hz2 b13))))
  unfold Dl.val
  clear d0 d1 d2 d3 d4 b3 iz2 oW3 iW3 bW3 hz2 y3' b23
  go_upto_region 4 with fail
  rw [← hW3]
  clear hW3
  obtain ⟨d0, d1, d2, d3, d4⟩ := own5 (H1.out.2.1.past b13 H1.out.2.1.inside)
  have hc4 := sync_at (H1.out.2.2.1.keep b13) H1.out.2.2.2 HT.out.2.1 HT.out.2.2.2.2.2.1
  clear b13
  go_wp2_with fail
  refine hc4.out.mono ?_
  rintro _ w4 ⟨b4, z3, rfl, hz3, iz3⟩
  obtain ⟨W4, hW4, oW4, iW4, bW4⟩ := var_new iz3
  have b34 : Below W3.heap.size W3 W4 := b4.trans (bW4.mono b4.size)
  have b14 := H3.out.2.2.2.2.trans (b34.mono H3.out.2.2.2.2.size)
  have b04 := H1.out.1.trans (b14.mono H1.out.1.size)
  have H4 := Lib.hid (And.intro b34 (And.intro oW4 (And.intro iW4 (And.intro hz3 b04))))
  have y5' := Lib.hid (y5.out W4 b04)
  clear d0 d1 d2 d3 d4 b4 iz3 oW4 iW4 bW4 hz3 hc4 y5 b34 b14
  go_upto_region 5 with fail
  rw [← hW4]
  clear hW4
  obtain ⟨d0, d1, d2, d3, d4⟩ := own5 (HV.out.2.1.past b04 HV.out.2.1.inside)
  clear b04
  go_wp2_with fail
  refine y5'.out.mono ?_
  rintro _ w5 ⟨b5, z4, rfl, hz4, iz4⟩
  obtain ⟨W5, hW5, oW5, iW5, bW5⟩ := var_new iz4
  have b45 : Below W4.heap.size W4 W5 := b5.trans (bW5.mono b5.size)
  have H5 := Lib.hid (And.intro b45 (And.intro oW5 (And.intro iW5 hz4)))
  unfold Dl.val
  clear d0 d1 d2 d3 d4 b5 iz4 oW5 iW5 bW5 hz4 y5' b45
  go_upto_region 6 with fail
  rw [← hW5]
  clear hW5
  have y6 := Lib.hid (lives_true W5)
  go_wp2_with fail
  refine y6.out.mono ?_
  rintro _ w6 ⟨rfl, b6⟩
  have b46 := H5.out.1.trans (b6.mono H5.out.1.size)
  have b36 := H4.out.1.trans (b46.mono H4.out.1.size)
  have b26 := H3.out.1.trans (b36.mono H3.out.1.size)
  obtain ⟨d0, d1, d2, d3, d4⟩ := own5 (H2.out.2.1.past b26 H2.out.2.1.inside)
  obtain ⟨g0, g1, g2, g3, g4⟩ := own5 (H3.out.2.1.past b36 H3.out.2.1.inside)
  have i2 := H2.out.2.2.1.keep b26
  have i3 := H3.out.2.2.1.keep b36
  have yS := Lib.hid (same_yes z1 z2 w6 (H2.out.2.2.2.1.trans H3.out.2.2.2.1.symm) i2 i3 (by rw [H2.out.2.2.2.1]; exact HT.out.2.2.1))
  have H6 := Lib.hid (And.intro b46 b6)
  have tn1 : (n1 == n1) = true := beq_self_eq_true _
  have tn2 : (n2 == n2) = true := beq_self_eq_true _
  clear b6 i2 i3 b26 b36 b46 y6
  go_wp2_with fail
  refine yS.out.mono ?_
  rintro _ w7 ⟨rfl, b7⟩
  have b47 := H6.out.1.trans (b7.mono H6.out.1.size)
  have b57 := H6.out.2.trans (b7.mono H6.out.2.size)
  clear d0 d1 d2 d3 d4 g0 g1 g2 g3 g4
  obtain ⟨d0, d1, d2, d3, d4⟩ := own5 (H4.out.2.1.past b47 H4.out.2.1.inside)
  obtain ⟨g0, g1, g2, g3, g4⟩ := own5 (H5.out.2.1.past b57 H5.out.2.1.inside)
  have i4 := H4.out.2.2.1.keep b47
  have i5 := H5.out.2.2.1.keep b57
  have yT := Lib.hid (same_yes z3 z4 w7 (H4.out.2.2.2.1.trans H5.out.2.2.2.symm) i4 i5 (by rw [H4.out.2.2.2.1]; exact HT.out.2.2.2.1))
  have H7 := Lib.hid b47
  clear b7 i4 i5 b47 b57 yS
  go_wp2_with fail
  refine yT.out.mono ?_
  rintro _ w8 ⟨rfl, b8⟩
  have b48 := H7.out.trans (b8.mono H7.out.size)
  have b08 := H4.out.2.2.2.2.trans (b48.mono H4.out.2.2.2.2.size)
  have b38 := H4.out.1.trans (b48.mono H4.out.1.size)
  have b18 := H3.out.2.2.2.2.trans (b38.mono H3.out.2.2.2.2.size)
  clear d0 d1 d2 d3 d4 g0 g1 g2 g3 g4
  obtain ⟨d0, d1, d2, d3, d4⟩ := own5 (H1.out.2.1.past b18 H1.out.2.1.inside)
  obtain ⟨g0, g1, g2, g3, g4⟩ := own5 (HV.out.2.1.past b08 HV.out.2.1.inside)
  have i1 := H1.out.2.2.1.keep b18
  have i0 := HV.out.2.2.1.keep b08
  have yU := Lib.hid (same_yes y x w8 H1.out.2.2.2 i1 i0 (by rw [H1.out.2.2.2]; exact HT.out.2.2.2.2.2.2))
  have H8 := Lib.hid (HV.out.1.trans (b08.mono HV.out.1.size))
  clear b8 b48 b08 b38 b18 i1 i0 yT
  go_wp2_with fail
  refine yU.out.mono ?_
  rintro _ w9 ⟨rfl, b9⟩
  have H9 := Lib.hid (H8.out.trans (b9.mono H8.out.size))
  clear b9 d0 d1 d2 d3 d4 g0 g1 g2 g3 g4
  go_wp2_with fail
  go_ret
  exact ⟨rfl, H9.out⟩
theorem writes_law (x : Dl) (A : Option Addr) (c : Nat) (ws : List Wr) (w : World) (h : DIn w w.heap.size x) (hf : -9223372036854775808 ≤ x.fuse ∧ x.fuse ≤ 9223372036854775807) (hr : -9223372036854775808 ≤ x.room ∧ x.room ≤ 9223372036854775807) (hx : wtD x.d ≤ 524288000) (hcap : ws.length ≤ c) (hcm : c ≤ maxLen) (hws : Lies 4 Wr.cells w w.heap.size A ws) (hw : wtW ws ≤ 524288000) (hn : wtD x.d + wtW ws ≤ 1048576) :
    Calls Try.prog 3 #[x.val, .slice A ws.length c] w fun e w' => e = .returned (.bool true) ∧ Below w.heap.size w w' := writes_true x A c ws w h hf hr.2 hws hn
end Go.Proofs.Ytfelpjacccclkaa
namespace Go.Proofs.Ytfelpjacccclkaa
open Go
variable {H : Type}
theorem bulk_pos (d : DataW H) : 1 ≤ Rows.uptoBulk d := by
  cases d with
  | lit l => cases l <;> simp [Rows.uptoBulk]
  | nil => simp [Rows.uptoBulk]
  | ptr d => simp [Rows.uptoBulk]
  | slice es sp => simp [Rows.uptoBulk]
  | agg ps => simp [Rows.uptoBulk]
  | iface t d => simp [Rows.uptoBulk]
  | map es => simp [Rows.uptoBulk]
  | held h => simp [Rows.uptoBulk]
theorem bulk_all : ∀ es : List (DataW H), es.length ≤ Rows.uptoBulkAll es
  | [] => by simp
  | d :: r => by
    have := bulk_all r
    have := bulk_pos d
    simp only [List.length_cons, Rows.uptoBulkAll]
    omega
theorem bulk_slice (es sp : List (DataW H)) : es.length ≤ Rows.uptoBulk (.slice es sp) := by
  have := bulk_all es
  simp only [Rows.uptoBulk]
  omega
end Go.Proofs.Ytfelpjacccclkaa
namespace Go.Proofs.Ytfelpjacccclkaa
open Go Go.RowKit Go.ChangeShapes Go.WideShapes Go.ChangeAt Go.Deep

section
variable {H : Type} {enc : TypeId × Value → H} {P : Program} {w : World} {base : Nat} {spare : Nat → Bool} {held : Bool}
/-- the slice, its list; and what its reading tells of its length -/
theorem open_list_at {α : Type} [Inhabited α] {size : Nat} {cells : α → List Value} {OK : α → Prop} {t e : TypeId} (ht : P.underlying t = some (.slice e)) (hc : P.cellsOf e = size) (hpos : 0 < size) (hcl : ∀ x, (cells x).length = size)
    (dec : ∀ {n : Nat} {cs : List Value} {x : DataW H × List MemPlace}, DataW.trod enc P w base spare held n e cs = some x → ∃ a, cs = cells a ∧ OK a)
    {fuel : Nat} {cs : List Value} {x : DataW H × List MemPlace} (hf : DataW.trod enc P w base spare held fuel t cs = some x) :
    ∃ (A : Option Addr) (c : Nat) (l : List α), cs = [.slice A l.length c] ∧ l.length ≤ c ∧ c ≤ maxLen ∧ Lies size cells w w.heap.size A l ∧ (∀ a ∈ l, OK a) ∧ (x.1 = .nil ∧ l = [] ∧ c = 0 ∨ ∃ es sp, x.1 = .slice es sp ∧ es.length = l.length) := by
  rcases open_slice ht hf with ⟨e, hx⟩ | ⟨a, len, cap, m, n, D, Pl, e, hb, hl, hm, hmm, hx, hi⟩
  · subst e hx
    exact ⟨none, 0, [], rfl, by simp, by unfold maxLen; omega, fun h => absurd h (by simp), fun a ha => (by cases ha), .inl ⟨rfl, rfl, rfl⟩⟩
  · subst e hx
    obtain ⟨n0, rfl⟩ : ∃ n0, n0 = len := ⟨_, rfl⟩
    obtain ⟨c0, rfl⟩ : ∃ c0, c0 = cap := ⟨_, rfl⟩
    have hlm : n0 ≤ m := by rw [hmm]; split <;> omega
    rw [hc] at hi
    have hT : ∀ i, ∃ x : α, i < n0 → OK x ∧ ∀ (j : Nat) (u : Value), (cells x)[j]? = some u → w.cell? ((a.add (i * size)).add j) = some u := by
      intro i
      by_cases hil : i < n0
      · obtain ⟨cs', hcs, htr⟩ := hi i (by omega)
        obtain ⟨x, rfl, hok⟩ := dec htr
        obtain ⟨_, _, hat⟩ := World.cells?_some hcs
        refine ⟨x, fun _ => ⟨hok, fun j u hj => ?_⟩⟩
        have hjs : j < size := by have := (List.getElem?_eq_some_iff.1 hj).1; rw [hcl] at this; exact this
        rw [hat j hjs]
        exact hj
      · exact ⟨default, fun h => absurd h hil⟩
    obtain ⟨f, hf'⟩ : ∃ f : Nat → α, ∀ i, i < n0 → OK (f i) ∧ ∀ (j : Nat) (u : Value), (cells (f i))[j]? = some u → w.cell? ((a.add (i * size)).add j) = some u :=
      ⟨fun i => Classical.choose (hT i), fun i => Classical.choose_spec (hT i)⟩
    clear hT
    have hlen : ((List.range n0).map f).length = n0 := by simp
    refine ⟨some a, c0, (List.range n0).map f, by rw [hlen], by rw [hlen]; exact hl, hm, fun hp => ?_, fun x hx => ?_, .inr ⟨_, _, rfl, by simp⟩⟩
    · rw [hlen] at hp
      have hz : ((a.add (0 * size)).add 0) = a := by unfold Addr.add; simp
      obtain ⟨v0, h0⟩ : ∃ v0, w.cell? a = some v0 := by
        have h1 : 0 < (cells (f 0)).length := by rw [hcl]; exact hpos
        have := (hf' 0 hp).2 0 _ (List.getElem?_eq_getElem h1)
        rw [hz] at this
        exact ⟨_, this⟩
      have hspot : a.spot = none := by
        cases hs : a.spot with
        | none => rfl
        | some s =>
          unfold World.cell? at h0
          rw [hs] at h0
          split at h0 <;> simp at h0
      obtain ⟨b, o, sp⟩ := a
      simp only at hspot
      subst hspot
      have hadd : ∀ k j, ((⟨b, o, none⟩ : Addr).add k).add j = ⟨b, o + k + j, none⟩ := fun k j => by unfold Addr.add; split <;> split <;> simp_all
      refine ⟨b, o, rfl, World.block_lt_of_cell? w _ h0, fun i x hit j u hj => ?_⟩
      have hil : i < n0 := by have := (List.getElem?_eq_some_iff.1 hit).1; omega
      have hti : f i = x := by simpa [hil] using hit
      subst hti
      have := (hf' i hil).2 j u hj
      rwa [hadd] at this
    · obtain ⟨i, hi1, rfl⟩ := List.mem_map.1 hx
      exact (hf' i (List.mem_range.1 hi1)).1
theorem open_list {α : Type} [Inhabited α] {size : Nat} {cells : α → List Value} {OK : α → Prop} {t e : TypeId} (ht : P.underlying t = some (.slice e)) (hc : P.cellsOf e = size) (hpos : 0 < size) (hcl : ∀ x, (cells x).length = size)
    (dec : ∀ {n : Nat} {cs : List Value} {x : DataW H × List MemPlace}, DataW.trod enc P w base spare held n e cs = some x → ∃ a, cs = cells a ∧ OK a)
    {v : Value} {d : DataW H} {p : List MemPlace} {r : Reach} {b0 : Nat} (hv : Value.okWide P w r b0 t v) (h : DataW.Trod enc P w base spare held t v d p) :
    ∃ (A : Option Addr) (c : Nat) (l : List α), v = .slice A l.length c ∧ l.length ≤ c ∧ c ≤ maxLen ∧ Lies size cells w w.heap.size A l ∧ (∀ a ∈ l, OK a) ∧ (d = .nil ∧ l = [] ∧ c = 0 ∨ ∃ es sp, d = .slice es sp ∧ es.length = l.length) := by
  obtain ⟨a0, n0, c0, rfl⟩ := okWide_slice ht hv
  obtain ⟨fuel, hf⟩ := h
  obtain ⟨A, c, l, e, h1⟩ := open_list_at ht hc hpos hcl dec hf
  exact ⟨A, c, l, by simpa [Value.cells] using e, h1⟩
end
end Go.Proofs.Ytfelpjacccclkaa
namespace Go.Proofs.Ytfelpjacccclkaa
open Go Go.RowKit Go.ChangeShapes Go.WideShapes Go.ChangeAt Go.Deep

section
variable {H : Type} {enc : TypeId × Value → H} {P : Program} {w : World} {base : Nat} {spare : Nat → Bool} {held : Bool}
theorem lies_gen {α : Type} {size : Nat} {cells : α → List Value} (hcl : ∀ x, 0 < (cells x).length) {len : Nat} {a : Addr} {f : Nat → α} (hp : 0 < len) (hf : ∀ i, i < len → ∀ (j : Nat) (u : Value), (cells (f i))[j]? = some u → w.cell? ((a.add (i * size)).add j) = some u) :
    Lies size cells w w.heap.size (some a) ((List.range len).map f) := fun _ => by
  have hz : ((a.add (0 * size)).add 0) = a := by unfold Addr.add; simp
  obtain ⟨v0, h0⟩ : ∃ v0, w.cell? a = some v0 := by
    have := hf 0 hp 0 _ (List.getElem?_eq_getElem (hcl (f 0)))
    rw [hz] at this
    exact ⟨_, this⟩
  have hspot : a.spot = none := by
    cases hs : a.spot with
    | none => rfl
    | some s =>
      unfold World.cell? at h0
      rw [hs] at h0
      split at h0 <;> simp at h0
  obtain ⟨b, o, sp⟩ := a
  simp only at hspot
  subst hspot
  have hadd : ∀ k j, ((⟨b, o, none⟩ : Addr).add k).add j = ⟨b, o + k + j, none⟩ := fun k j => by unfold Addr.add; split <;> split <;> simp_all
  refine ⟨b, o, rfl, World.block_lt_of_cell? w _ h0, fun i x hit j u hj => ?_⟩
  have hil : i < len := by have := (List.getElem?_eq_some_iff.1 hit).1; simpa using this
  have hti : f i = x := by simpa [hil] using hit
  subst hti
  have := hf i hil j u hj
  rwa [hadd] at this
theorem bulk_sum : ∀ es : List (DataW H × List MemPlace), (es.map (fun z => Rows.uptoBulk z.1)).sum = Rows.uptoBulkAll (es.map (·.1))
  | [] => by simp [Rows.uptoBulkAll]
  | x :: es => by simp only [List.map_cons, List.sum_cons, Rows.uptoBulkAll]; rw [bulk_sum es]
theorem mem_le_sum : ∀ {bs : List Nat} {b : Nat}, b ∈ bs → b ≤ bs.sum
  | [], _, h => by cases h
  | x :: bs, b, h => by
    rw [List.sum_cons]
    rcases List.mem_cons.1 h with rfl | h
    · omega
    · have := mem_le_sum h; omega
theorem len_le_sum : ∀ {bs : List Nat}, (∀ b ∈ bs, 1 ≤ b) → bs.length ≤ bs.sum
  | [], _ => Nat.le_refl _
  | x :: bs, h => by
    have h1 := h x (by simp)
    have h2 := len_le_sum (bs := bs) fun b hb => h b (by simp [hb])
    rw [List.sum_cons, List.length_cons]
    omega
theorem sum_pair {α : Type} {g : α → Nat} : ∀ (l : List α) (bs : List Nat), bs.length = l.length → (∀ (i : Nat) (a : α), l[i]? = some a → ∃ b, bs[i]? = some b ∧ g a ≤ b) → (l.map g).sum ≤ bs.sum
  | [], _, _, _ => Nat.zero_le _
  | x :: l, [], h, _ => by simp at h
  | x :: l, b :: bs, h, hp => by
    obtain ⟨b', h1, h2⟩ := hp 0 x rfl
    obtain rfl : b = b' := by simpa using h1
    have := sum_pair l bs (by simpa using h) fun i a hi => by
      obtain ⟨b2, h3, h4⟩ := hp (i + 1) a (by simpa using hi)
      exact ⟨b2, by simpa using h3, h4⟩
    simp only [List.map_cons, List.sum_cons]
    omega
/-- the slice, its list, and how much each of its elements tells -/
theorem open_list_bulk {α : Type} [Inhabited α] {size : Nat} {cells : α → List Value} {OK : α → Nat → Prop} {t e : TypeId} {fuel : Nat} (ht : P.underlying t = some (.slice e)) (hc : P.cellsOf e = size) (hcl : ∀ x, 0 < (cells x).length)
    (dec : ∀ {n : Nat} {cs : List Value} {x : DataW H × List MemPlace}, n < fuel → DataW.trod enc P w base spare held n e cs = some x → ∃ a, cs = cells a ∧ OK a (Rows.uptoBulk x.1))
    {cs : List Value} {x : DataW H × List MemPlace} (hf : DataW.trod enc P w base spare held fuel t cs = some x) :
    ∃ (A : Option Addr) (c : Nat) (l : List α) (bs : List Nat), cs = [.slice A l.length c] ∧ l.length ≤ c ∧ c ≤ maxLen ∧ Lies size cells w w.heap.size A l ∧ bs.length = l.length ∧ bs.sum + 1 ≤ Rows.uptoBulk x.1 ∧ (∀ b ∈ bs, 1 ≤ b) ∧
      ∀ (i : Nat) (a : α), l[i]? = some a → ∃ b, bs[i]? = some b ∧ OK a b := by
  rcases DataW.trod_slice ht hf with ⟨h1, h2⟩ | ⟨a, len, cap, elems, rest, n, hfu, h1, h2, hb, hl, hm, hlen, hel, hsp, hns⟩
  · subst h1 h2
    exact ⟨none, 0, [], [], rfl, Nat.le_refl _, Nat.zero_le _, Lies.nil_, rfl, by simp [Rows.uptoBulk], fun b h => (by cases h), fun i a h => (by simp at h)⟩
  · rw [hc] at hel
    have hT : ∀ i, i < len → ∃ y : α, (∃ b, (elems.map (fun z => Rows.uptoBulk z.1))[i]? = some b ∧ OK y b) ∧ ∀ (j : Nat) (u : Value), (cells y)[j]? = some u → w.cell? ((a.add (i * size)).add j) = some u := fun i hi => by
      have h1 := hel i hi
      rw [List.getElem?_eq_getElem (by omega)] at h1
      obtain ⟨cs', h2, h3⟩ := Option.bind_eq_some_iff.1 h1
      obtain ⟨y, rfl, hy⟩ := dec (by omega) h3
      obtain ⟨_, hle2, hat⟩ := World.cells?_some h2
      refine ⟨y, ⟨_, by rw [List.getElem?_map, List.getElem?_eq_getElem (by omega)]; rfl, hy⟩, fun j u hj => ?_⟩
      rw [hat j (by have := (List.getElem?_eq_some_iff.1 hj).1; omega)]
      exact hj
    obtain ⟨f, hf'⟩ := choose_lt hT
    have hle : ((List.range len).map f).length = len := by simp
    refine ⟨some a, cap, (List.range len).map f, elems.map (fun z => Rows.uptoBulk z.1), by rw [hle]; exact h1, by rw [hle]; exact hl, hm, ?_, by rw [hle, List.length_map, hlen], ?_, ?_, ?_⟩
    · by_cases hp : 0 < len
      · exact lies_gen hcl hp fun i hi => (hf' i hi).2
      · exact fun h => by rw [hle] at h; omega
    · rw [h2]
      simp only [Rows.uptoBulk]
      rw [bulk_sum]
      omega
    · intro b hb
      obtain ⟨z, _, rfl⟩ := List.mem_map.1 hb
      exact bulk_pos _
    · intro i y hi
      have hil : i < len := by have := (List.getElem?_eq_some_iff.1 hi).1; simpa using this
      have hti : f i = y := by simpa [hil] using hi
      subst hti
      exact (hf' i hil).1
end
end Go.Proofs.Ytfelpjacccclkaa
namespace Go.Proofs.Ytfelpjacccclkaa
open Go Go.RowKit Go.ChangeShapes Go.WideShapes Go.ChangeAt Go.Deep

set_option maxRecDepth 100000

section
variable {H : Type} {enc : TypeId × Value → H} {w : World} {base : Nat} {spare : Nat → Bool} {held : Bool}
set_option maxRecDepth 100000 in
theorem trod_file {fuel : Nat} {cs : List Value} {x : DataW H × List MemPlace} (h : DataW.trod enc Try.prog w base spare held fuel 67 cs = some x) : ∃ f : Fl, cs = f.cells ∧ 2 + f.d.size ≤ Rows.uptoBulk x.1 := by
  obtain ⟨xs, n, _, hx, hlen, hxs, hf⟩ := DataW.trod_struct Try.underlying67 h
  have hc : Try.prog.cellsOf 67 = 2 := by kernel_rfl
  have hcs : Try.prog.cellsOf 9 = 1 := by kernel_rfl
  rw [hc] at hlen
  match cs, hlen with
  | [c0, c1], _ =>
    have h0 := hf 0 _ rfl
    have h1 := hf 1 _ rfl
    match xs, hxs with
    | [y0, y1], _ =>
      simp only [hcs, List.drop_zero, List.take_succ_cons, List.take_zero, List.drop_succ_cons, List.getElem?_cons_zero, List.getElem?_cons_succ] at h0 h1
      obtain ⟨n0, e0, x0, w0⟩ := DataW.trod_string Try.underlying9 h0
      obtain ⟨n1, e1, x1, w1⟩ := DataW.trod_string Try.underlying9 h1
      obtain rfl := (List.cons.inj e0).1
      obtain rfl := (List.cons.inj e1).1
      refine ⟨⟨n0, n1⟩, rfl, ?_⟩
      rw [hx]
      subst x0 x1
      simp only [List.map_cons, List.map_nil, Rows.uptoBulk, Rows.uptoBulkAll]
      have l1 : n1.data.toList.length = n1.size := by rw [Array.length_toList]; rfl
      first | (dsimp only; omega) | omega | (simp; omega)
set_option maxRecDepth 100000 in
theorem trod_write {fuel : Nat} {cs : List Value} {x : DataW H × List MemPlace} (h : DataW.trod enc Try.prog w base spare held fuel 45 cs = some x) : ∃ f : Wr, cs = f.cells ∧ 2 + f.d.size ≤ Rows.uptoBulk x.1 := by
  obtain ⟨xs, n, _, hx, hlen, hxs, hf⟩ := DataW.trod_struct Try.underlying45 h
  have hc : Try.prog.cellsOf 45 = 4 := by kernel_rfl
  have hcs : Try.prog.cellsOf 9 = 1 := by kernel_rfl
  have hck : Try.prog.cellsOf 43 = 1 := by kernel_rfl
  rw [hc] at hlen
  match cs, hlen with
  | [c0, c1, c2, c3], _ =>
    have h0 := hf 0 _ rfl
    have h1 := hf 1 _ rfl
    have h2 := hf 2 _ rfl
    have h3 := hf 3 _ rfl
    match xs, hxs with
    | [y0, y1, y2, y3], _ =>
      simp only [hcs, hck, List.drop_zero, List.take_succ_cons, List.take_zero, List.drop_succ_cons, List.getElem?_cons_zero, List.getElem?_cons_succ] at h0 h1 h2 h3
      obtain ⟨n0, e0, x0, w0⟩ := DataW.trod_int Try.underlying43 h0
      obtain ⟨n1, e1, x1, w1⟩ := DataW.trod_string Try.underlying9 h1
      obtain ⟨n2, e2, x2, w2⟩ := DataW.trod_string Try.underlying9 h2
      obtain ⟨n3, e3, x3, w3⟩ := DataW.trod_string Try.underlying9 h3
      obtain rfl := (List.cons.inj e0).1
      obtain rfl := (List.cons.inj e1).1
      obtain rfl := (List.cons.inj e2).1
      obtain rfl := (List.cons.inj e3).1
      refine ⟨⟨n0, n1, n2, n3⟩, rfl, ?_⟩
      rw [hx]
      subst x0 x1 x2 x3
      simp only [List.map_cons, List.map_nil, Rows.uptoBulk, Rows.uptoBulkAll]
      have l3 : n3.data.toList.length = n3.size := by rw [Array.length_toList]; rfl
      first | (dsimp only; omega) | omega | (simp; omega)
theorem sum_of {α : Type} {f : α → Nat} : ∀ {l : List α} {bs : List Nat}, bs.length = l.length → (∀ (i : Nat) (a : α), l[i]? = some a → ∃ b, bs[i]? = some b ∧ f a ≤ b) → (l.map f).sum ≤ bs.sum
  | [], _, _, _ => by simp
  | a :: l, [], h, _ => by simp at h
  | a :: l, b :: bs, h, k => by
    have ih := sum_of (f := f) (l := l) (bs := bs) (by simpa using h) (fun i x hi => by have := k (i + 1) x (by simpa using hi); simpa using this)
    obtain ⟨b', hb, hle⟩ := k 0 a rfl
    have : b = b' := by simpa using hb
    simp only [List.map_cons, List.sum_cons]; omega
theorem open_filesC {fuel : Nat} {cs : List Value} {x : DataW H × List MemPlace} (h : DataW.trod enc Try.prog w base spare held fuel 22 cs = some x) :
    ∃ (A : Option Addr) (c : Nat) (l : List Fl), cs = [.slice A l.length c] ∧ Lies 2 Fl.cells w w.heap.size A l ∧ wtF l ≤ Rows.uptoBulk x.1 := by
  obtain ⟨A, c, l, bs, e, h1, h2, h3, h4, h5, h6, h7⟩ := open_list_bulk (size := 2) (cells := Fl.cells) (OK := fun f b => 2 + f.d.size ≤ b) Try.underlying22 (by kernel_rfl) (fun _ => by simp [Fl.cells]) (fun {n cs x} _ ht => trod_file ht) h
  have := sum_of (f := fun f : Fl => 2 + f.d.size) h4 h7
  exact ⟨A, c, l, e, h3, by unfold wtF; omega⟩
theorem open_writesC {fuel : Nat} {cs : List Value} {x : DataW H × List MemPlace} (h : DataW.trod enc Try.prog w base spare held fuel 23 cs = some x) :
    ∃ (A : Option Addr) (c : Nat) (l : List Wr), cs = [.slice A l.length c] ∧ l.length ≤ c ∧ c ≤ maxLen ∧ Lies 4 Wr.cells w w.heap.size A l ∧ wtW l ≤ Rows.uptoBulk x.1 := by
  obtain ⟨A, c, l, bs, e, h1, h2, h3, h4, h5, h6, h7⟩ := open_list_bulk (size := 4) (cells := Wr.cells) (OK := fun f b => 2 + f.d.size ≤ b) Try.underlying23 (by kernel_rfl) (fun _ => by simp [Wr.cells]) (fun {n cs x} _ ht => trod_write ht) h
  have := sum_of (f := fun f : Wr => 2 + f.d.size) h4 h7
  exact ⟨A, c, l, e, h1, h2, h3, by unfold wtW; omega⟩
theorem open_writes {v : Value} {d : DataW H} {p : List MemPlace} {r : Reach} {b0 : Nat} (hv : Value.okWide Try.prog w r b0 23 v) (h : DataW.Trod enc Try.prog w base spare held 23 v d p) :
    ∃ (A : Option Addr) (c : Nat) (l : List Wr), v = .slice A l.length c ∧ l.length ≤ c ∧ c ≤ maxLen ∧ Lies 4 Wr.cells w w.heap.size A l ∧ wtW l ≤ Rows.uptoBulk d := by
  obtain ⟨a0, n0, c0, rfl⟩ := okWide_slice Try.underlying23 hv
  obtain ⟨fuel, hf⟩ := h
  simp only [Value.cells] at hf
  obtain ⟨A, c, l, e, h1⟩ := open_writesC hf
  exact ⟨A, c, l, by simpa using e, h1⟩
set_option maxRecDepth 100000 in
theorem trod_disk {fuel : Nat} {cs : List Value} {x : DataW H × List MemPlace} (h : DataW.trod enc Try.prog w base spare held fuel 25 cs = some x) : ∃ y : Dl, cs = y.cells ∧ DIn w w.heap.size y ∧ (-9223372036854775808 ≤ y.fuse ∧ y.fuse ≤ 9223372036854775807) ∧ wtD y.d ≤ Rows.uptoBulk x.1 := by
  obtain ⟨xs, n, _, hx, hlen, hxs, hf⟩ := DataW.trod_struct Try.underlying25 h
  have hc : Try.prog.cellsOf 25 = 5 := by kernel_rfl
  have hc0 : Try.prog.cellsOf 22 = 1 := by kernel_rfl
  have hc1 : Try.prog.cellsOf 23 = 1 := by kernel_rfl
  have hc2 : Try.prog.cellsOf 3 = 1 := by kernel_rfl
  have hc3 : Try.prog.cellsOf 4 = 1 := by kernel_rfl
  rw [hc] at hlen
  match cs, hlen with
  | [c0, c1, c2, c3, c4], _ =>
    have h0 := hf 0 _ rfl
    have h1 := hf 1 _ rfl
    have h2 := hf 2 _ rfl
    have h3 := hf 3 _ rfl
    have h4 := hf 4 _ rfl
    match xs, hxs with
    | [y0, y1, y2, y3, y4], _ =>
      simp only [hc0, hc1, hc2, hc3, List.drop_zero, List.take_succ_cons, List.take_zero, List.drop_succ_cons, List.getElem?_cons_zero, List.getElem?_cons_succ] at h0 h1 h2 h3 h4
      obtain ⟨A0, k0_, l0, e0, i0, m0⟩ := open_filesC h0
      obtain ⟨A1, k1_, l1, e1, g1, _, i1, m1⟩ := open_writesC h1
      obtain ⟨n2, e2, _, w2⟩ := DataW.trod_int Try.underlying3 h2
      obtain ⟨n3, e3, _⟩ := DataW.trod_bool Try.underlying4 h3
      obtain ⟨n4, e4, _, w4⟩ := DataW.trod_int Try.underlying3 h4
      obtain rfl := (List.cons.inj e0).1
      obtain rfl := (List.cons.inj e1).1
      obtain rfl := (List.cons.inj e2).1
      obtain rfl := (List.cons.inj e3).1
      obtain rfl := (List.cons.inj e4).1
      have hM : Rows.uptoBulk x.1 = Rows.uptoBulk y0.1 + (Rows.uptoBulk y1.1 + (Rows.uptoBulk y2.1 + (Rows.uptoBulk y3.1 + (Rows.uptoBulk y4.1 + 0)))) + 1 := by
        rw [hx]
        simp only [List.map_cons, List.map_nil, Rows.uptoBulk, Rows.uptoBulkAll]
      refine ⟨⟨A0, k0_, l0, A1, k1_, l1, n2, n3, n4⟩, rfl, ⟨i0, i1, g1⟩, wf_i64 w4, ?_⟩
      unfold wtD Dl.d
      dsimp only
      omega
theorem open_disk {v : Value} {d : DataW H} {p : List MemPlace} {r : Reach} {b0 : Nat} (hv : Value.okWide Try.prog w r b0 25 v) (h : DataW.Trod enc Try.prog w base spare held 25 v d p) : ∃ y : Dl, v = y.val ∧ DIn w w.heap.size y ∧ (-9223372036854775808 ≤ y.fuse ∧ y.fuse ≤ 9223372036854775807) ∧ wtD y.d ≤ Rows.uptoBulk d := by
  obtain ⟨cs, rfl, hsz⟩ := okWide_struct Try.underlying25 hv
  obtain ⟨fuel, hf⟩ := h
  obtain ⟨e, he, hok⟩ := trod_disk hf
  refine ⟨e, ?_, hok⟩
  obtain ⟨l⟩ := cs
  simp only [Value.cells] at he
  unfold Dl.val
  rw [show l = e.cells from by simpa using he]
  rfl
end
end Go.Proofs.Ytfelpjacccclkaa
namespace Go.Proofs.Ytfelpjacccclkaa
open Go Go.RowKit Go.ChangeShapes Go.WideShapes Go.ChangeAt Go.Deep

set_option maxRecDepth 100000

section
variable {H : Type} {enc : TypeId × Value → H} {w : World} {base : Nat} {spare : Nat → Bool} {held : Bool}
set_option maxRecDepth 100000 in
theorem trod_diskr {fuel : Nat} {cs : List Value} {x : DataW H × List MemPlace} (h : DataW.trod enc Try.prog w base spare held fuel 25 cs = some x) : ∃ y : Dl, cs = y.cells ∧ DIn w w.heap.size y ∧ (-9223372036854775808 ≤ y.fuse ∧ y.fuse ≤ 9223372036854775807) ∧ (-9223372036854775808 ≤ y.room ∧ y.room ≤ 9223372036854775807) ∧ wtD y.d ≤ Rows.uptoBulk x.1 := by
  obtain ⟨xs, n, _, hx, hlen, hxs, hf⟩ := DataW.trod_struct Try.underlying25 h
  have hc : Try.prog.cellsOf 25 = 5 := by kernel_rfl
  have hc0 : Try.prog.cellsOf 22 = 1 := by kernel_rfl
  have hc1 : Try.prog.cellsOf 23 = 1 := by kernel_rfl
  have hc2 : Try.prog.cellsOf 3 = 1 := by kernel_rfl
  have hc3 : Try.prog.cellsOf 4 = 1 := by kernel_rfl
  rw [hc] at hlen
  match cs, hlen with
  | [c0, c1, c2, c3, c4], _ =>
    have h0 := hf 0 _ rfl
    have h1 := hf 1 _ rfl
    have h2 := hf 2 _ rfl
    have h3 := hf 3 _ rfl
    have h4 := hf 4 _ rfl
    match xs, hxs with
    | [y0, y1, y2, y3, y4], _ =>
      simp only [hc0, hc1, hc2, hc3, List.drop_zero, List.take_succ_cons, List.take_zero, List.drop_succ_cons, List.getElem?_cons_zero, List.getElem?_cons_succ] at h0 h1 h2 h3 h4
      obtain ⟨A0, k0_, l0, e0, i0, m0⟩ := open_filesC h0
      obtain ⟨A1, k1_, l1, e1, g1, _, i1, m1⟩ := open_writesC h1
      obtain ⟨n2, e2, _, w2⟩ := DataW.trod_int Try.underlying3 h2
      obtain ⟨n3, e3, _⟩ := DataW.trod_bool Try.underlying4 h3
      obtain ⟨n4, e4, _, w4⟩ := DataW.trod_int Try.underlying3 h4
      obtain rfl := (List.cons.inj e0).1
      obtain rfl := (List.cons.inj e1).1
      obtain rfl := (List.cons.inj e2).1
      obtain rfl := (List.cons.inj e3).1
      obtain rfl := (List.cons.inj e4).1
      have hM : Rows.uptoBulk x.1 = Rows.uptoBulk y0.1 + (Rows.uptoBulk y1.1 + (Rows.uptoBulk y2.1 + (Rows.uptoBulk y3.1 + (Rows.uptoBulk y4.1 + 0)))) + 1 := by
        rw [hx]
        simp only [List.map_cons, List.map_nil, Rows.uptoBulk, Rows.uptoBulkAll]
      refine ⟨⟨A0, k0_, l0, A1, k1_, l1, n2, n3, n4⟩, rfl, ⟨i0, i1, g1⟩, wf_i64 w4, wf_i64 w2, ?_⟩
      unfold wtD Dl.d
      dsimp only
      omega
theorem open_diskr {v : Value} {d : DataW H} {p : List MemPlace} {r : Reach} {b0 : Nat} (hv : Value.okWide Try.prog w r b0 25 v) (h : DataW.Trod enc Try.prog w base spare held 25 v d p) : ∃ y : Dl, v = y.val ∧ DIn w w.heap.size y ∧ (-9223372036854775808 ≤ y.fuse ∧ y.fuse ≤ 9223372036854775807) ∧ (-9223372036854775808 ≤ y.room ∧ y.room ≤ 9223372036854775807) ∧ wtD y.d ≤ Rows.uptoBulk d := by
  obtain ⟨cs, rfl, hsz⟩ := okWide_struct Try.underlying25 hv
  obtain ⟨fuel, hf⟩ := h
  obtain ⟨e, he, hok⟩ := trod_diskr hf
  refine ⟨e, ?_, hok⟩
  obtain ⟨l⟩ := cs
  simp only [Value.cells] at he
  unfold Dl.val
  rw [show l = e.cells from by simpa using he]
  rfl
end
end Go.Proofs.Ytfelpjacccclkaa
