/- Part 11 of the texts on which TopBoth rests: facts and contracts. -/
import Derived.Test.YtllpfngmnccejaaGreatTopBothM10
import Derived.OneCell
import Derived.Test.YtllpfngmnccejaaGreatProg
import Derived.Outline
import Derived.Test.YtllpfngmnccejaaGreatRows
import Derived.WalkKit
import Derived.ProofKit
import Derived.OpenShut
import Derived.JoinedCond
import Derived.Carry
import Derived.ChangeArms
import Derived.Deep.Slices
import Derived.SizedLaws
namespace Go.Proofs.YtllpfngmnccejaaGreat
open Go Go.RowKit

def nA : ByteArray := ⟨#[97]⟩
def nB : ByteArray := ⟨#[98]⟩
def nC : ByteArray := ⟨#[99]⟩
def tX : ByteArray := ⟨#[120]⟩
def tYZ : ByteArray := ⟨#[121, 122]⟩
def tXYZ : ByteArray := ⟨#[120, 121, 122]⟩
def tXY : ByteArray := ⟨#[120, 121]⟩
def t7 : ByteArray := ⟨#[49, 50, 51, 52, 53, 54, 55]⟩
def e0 : ByteArray := ⟨#[]⟩
def wA : Wr := ⟨1, nA, e0, tX⟩
def wB : Wr := ⟨1, nA, e0, tYZ⟩
def wC : Wr := ⟨2, nA, nB, e0⟩
def wD : Wr := ⟨1, nC, e0, t7⟩
def k0 : Dk := ⟨[], [], 9, false, -1⟩
def k1 : Dk := ⟨[], [wA], 9, false, -1⟩
def k2 : Dk := ⟨[⟨nA, tX⟩], [], 9, false, -1⟩
def k3 : Dk := ⟨[⟨nA, tX⟩], [wB, wC], 9, false, -1⟩
def k4 : Dk := ⟨[⟨nA, tXY⟩], [], 9, false, -1⟩
theorem lv1 : doD k0 [wA] = (k1, 0) := by kernel_rfl
theorem lv2 : syncD k1 = (k2, 0) := by kernel_rfl
theorem lv3 : doD k2 [wB, wC] = (k3, 0) := by kernel_rfl
theorem lv4 : readD k3 nB = (tXYZ, 0) := by kernel_rfl
theorem lv5 : crashD k3 0 1 = (k4, 0) := by kernel_rfl
theorem lv6 : readD k4 nA = (tXY, 0) := by kernel_rfl
theorem lv7 : (doD k3 [wD]).2 = 9 := by kernel_rfl
end Go.Proofs.YtllpfngmnccejaaGreat
namespace Go.Proofs.YtllpfngmnccejaaGreat
open Go Go.RowKit

theorem lies4_own {W : World} {G : Nat} {t : TypeId} {l : List Wr} (h : Own W G t (l.flatMap Wr.cells)) : Lies 4 Wr.cells W W.heap.size (some ⟨G, 0, none⟩) l := fun _ =>
  ⟨G, 0, rfl, h.inside, fun i x hi j u hj => by rw [show 0 + i * 4 + j = i * 4 + j by omega, h.at_]; exact flat_of (size := 4) (cells := Wr.cells) (fun _ => rfl) l i j x u hi hj⟩
structure DTold (k : Dk) (n : Nat) : Prop where
  wt : wtD k + n ≤ 1099511627776
  fuse : -9223372036854775808 ≤ k.fuse ∧ k.fuse ≤ 9223372036854775807
theorem DTold.ok {y : Dl} {k : Dk} {n : Nat} (h : DTold k n) (e : y.d = k) : DOk y := by
  subst e; exact ⟨by have := h.wt; omega, h.fuse⟩
/-- a disk told and an error, handed back -/
def Gv (w w' : World) (e : Ending) (k : Dk) (n : Int) : Prop :=
  Below w.heap.size w w' ∧ ∃ z : Dl, e = .returned (.tuple #[.agg #[.slice z.fA z.files.length z.fc, .slice z.wA z.waits.length z.wc, .int .i64 z.room, .bool z.down, .int .i64 z.fuse], .int .i64 n]) ∧ z.d = k ∧ DIn w' w'.heap.size z
theorem do_at {W : World} {y : Dl} {k k' : Dk} {n : Int} {ws : List Wr} {B : Option Addr} (c : Nat) (hd : DIn W W.heap.size y) (hk : y.d = k) (hs : doD k ws = (k', n)) (hws : Lies 4 Wr.cells W W.heap.size B ws) (ht : DTold k (wtW ws)) :
    RowKit.Hid (Calls Tryz.prog 52 #[.agg #[.slice y.fA y.files.length y.fc, .slice y.wA y.waits.length y.wc, .int .i64 y.room, .bool y.down, .int .i64 y.fuse], .slice B ws.length c] W fun e w' => Gv W w' e k' n) := by
  subst hk
  have h := do_any y B c ws W hd hws (ht.ok rfl) ht.wt
  rw [hs] at h
  exact Lib.hid h
theorem read_at {W : World} {y : Dl} {k : Dk} {n : Int} {s : ByteArray} (a : ByteArray) (hd : DIn W W.heap.size y) (hk : y.d = k) (hs : readD k a = (s, n)) (ht : DTold k 0) :
    RowKit.Hid (Calls Tryz.prog 53 #[.agg #[.slice y.fA y.files.length y.fc, .slice y.wA y.waits.length y.wc, .int .i64 y.room, .bool y.down, .int .i64 y.fuse], .string a] W fun e w' => e = .returned (.tuple #[.string s, .int .i64 n]) ∧ Below W.heap.size W w') := by
  subst hk
  have h := dread_any y a W hd (ht.ok rfl)
  rw [hs] at h
  exact Lib.hid h
/-- the same, in new memory -/
def GvN (w w' : World) (e : Ending) (k : Dk) (n : Int) : Prop :=
  Below w.heap.size w w' ∧ ∃ z : Dl, e = .returned (.tuple #[.agg #[.slice z.fA z.files.length z.fc, .slice z.wA z.waits.length z.wc, .int .i64 z.room, .bool z.down, .int .i64 z.fuse], .int .i64 n]) ∧ z.d = k ∧ DIn w' w'.heap.size z ∧ NewD w.heap.size z
theorem do_atN {W : World} {y : Dl} {k k' : Dk} {n : Int} {ws : List Wr} {B : Option Addr} (c : Nat) (hd : DIn W W.heap.size y) (hk : y.d = k) (hs : doD k ws = (k', n)) (hws : Lies 4 Wr.cells W W.heap.size B ws) (ht : DTold k (wtW ws)) :
    RowKit.Hid (Calls Tryz.prog 52 #[.agg #[.slice y.fA y.files.length y.fc, .slice y.wA y.waits.length y.wc, .int .i64 y.room, .bool y.down, .int .i64 y.fuse], .slice B ws.length c] W fun e w' => GvN W w' e k' n) := by
  subst hk
  have h := do_anyN y B c ws W hd hws (ht.ok rfl) ht.wt
  rw [hs] at h
  exact Lib.hid h
/-- what lies as files or writes lies in no variable of a disk -/
theorem off_files {w : World} {B G : Nat} {t : TypeId} {y : Dl} {A : Option Addr} {l : List Fl} (h : Lies 2 Fl.cells w B A l) (o : Own w G t y.cells) : 0 < l.length → ∀ b q, A = some ⟨b, q, none⟩ → b ≠ G := fun hp b q e hb => by
  subst hb
  obtain ⟨b', q', e', _, hc⟩ := h hp
  rw [e] at e'
  obtain ⟨rfl, rfl⟩ : b = b' ∧ q = q' := by
    injection e' with e'; injection e' with e1 e2; exact ⟨e1, e2⟩
  have h0 := hc 0 l[0] (List.getElem?_eq_getElem hp) 0 _ rfl
  rw [o.at_] at h0
  unfold Dl.cells at h0
  match q, h0 with
  | 0, h0 => cases h0
  | 1, h0 => cases h0
  | 2, h0 => cases h0
  | 3, h0 => cases h0
  | 4, h0 => cases h0
  | q + 5, h0 => simp at h0
theorem off_waits {w : World} {B G : Nat} {t : TypeId} {y : Dl} {A : Option Addr} {l : List Wr} (h : Lies 4 Wr.cells w B A l) (o : Own w G t y.cells) : 0 < l.length → ∀ b q, A = some ⟨b, q, none⟩ → b ≠ G := fun hp b q e hb => by
  subst hb
  obtain ⟨b', q', e', _, hc⟩ := h hp
  rw [e] at e'
  obtain ⟨rfl, rfl⟩ : b = b' ∧ q = q' := by
    injection e' with e'; injection e' with e1 e2; exact ⟨e1, e2⟩
  have h0 := hc 0 l[0] (List.getElem?_eq_getElem hp) 0 _ rfl
  rw [o.at_] at h0
  unfold Dl.cells at h0
  match q, h0 with
  | 0, h0 => cases h0
  | 1, h0 => cases h0
  | 2, h0 => cases h0
  | 3, h0 => cases h0
  | 4, h0 => cases h0
  | q + 5, h0 => simp at h0
theorem kept_cell {w w' : World} {S : Nat → Prop} {b q : Nat} {u : Value} (k : KeptK w w' S) (hn : ¬ S b) (hb : b < w.heap.size) (h : w.cell? ⟨b, q, none⟩ = some u) : w'.cell? ⟨b, q, none⟩ = some u := by
  have e := k.block b hb hn
  unfold World.cell? at h ⊢
  dsimp only at h ⊢
  rw [e]; exact h
/-- a variable that holds a disk, another one stored to it -/
theorem var_set {w : World} {G : Nat} {y z : Dl} (o : Own w G 90 y.cells) (h : DIn w w.heap.size z) :
    ∃ W, W = ((((w.setCell ⟨G, 0, none⟩ (.slice z.fA z.files.length z.fc)).setCell ⟨G, 1, none⟩ (.slice z.wA z.waits.length z.wc)).setCell ⟨G, 2, none⟩ (.int .i64 z.room)).setCell ⟨G, 3, none⟩ (.bool z.down)).setCell ⟨G, 4, none⟩ (.int .i64 z.fuse) ∧
      Own W G 90 z.cells ∧ DIn W W.heap.size z ∧ (∀ B, B ≤ G → Below B w W) := by
  have k := set5_kept w G (.slice z.fA z.files.length z.fc) (.slice z.wA z.waits.length z.wc) (.int .i64 z.room) (.bool z.down) (.int .i64 z.fuse)
  have oE := set5_own o (.slice z.fA z.files.length z.fc) (.slice z.wA z.waits.length z.wc) (.int .i64 z.room) (.bool z.down) (.int .i64 z.fuse)
  refine ⟨_, rfl, oE, ⟨fun hp => ?_, fun hp => ?_, h.cap⟩, fun B hB => k.below (fun b e => by omega) (by have := o.inside; omega)⟩
  · obtain ⟨b, q, e, hb, hc⟩ := h.files hp
    exact ⟨b, q, e, Nat.lt_of_lt_of_le hb k.size, fun i x hi j u hj => kept_cell k (off_files h.files o hp b q e) hb (hc i x hi j u hj)⟩
  · obtain ⟨b, q, e, hb, hc⟩ := h.waits hp
    exact ⟨b, q, e, Nat.lt_of_lt_of_le hb k.size, fun i x hi j u hj => kept_cell k (off_waits h.waits o hp b q e) hb (hc i x hi j u hj)⟩
theorem var_new {w : World} {z : Dl} (h : DIn w w.heap.size z) :
    ∃ W, W = w.alloc (.cells #[.slice z.fA z.files.length z.fc, .slice z.wA z.waits.length z.wc, .int .i64 z.room, .bool z.down, .int .i64 z.fuse] 90) ∧
      Own W w.heap.size 90 z.cells ∧ DIn W W.heap.size z ∧ Below w.heap.size w W := by
  obtain ⟨W, hW, hb, _, o⟩ := dbox w z
  exact ⟨W, hW, o, h.keep hb, hb⟩
end Go.Proofs.YtllpfngmnccejaaGreat
namespace Go.Proofs.YtllpfngmnccejaaGreat
open Go.RowKit

/-- the register shifted by one bit -/
def bitS (c : Nat) : Nat := if c % 2 = 1 then c / 2 ^^^ 2197175160 else c / 2
def bitsS : Nat → Nat → Nat
  | 0, c => c
  | n + 1, c => bitsS n (bitS c)
/-- a byte taken in -/
def byteS (c b : Nat) : Nat := bitsS 8 (c ^^^ b)
def regS (c : Nat) (l : List UInt8) : Nat := l.foldl (fun c b => byteS c b.toNat) c
/-- the checksum -/
def sumS (l : List UInt8) : Nat := 4294967295 - regS 4294967295 l

theorem xor_lt {a b : Nat} (ha : a < 4294967296) (hb : b < 4294967296) : a ^^^ b < 4294967296 := Nat.xor_lt_two_pow (n := 32) ha hb
theorem bitS_lt {c : Nat} (h : c < 4294967296) : bitS c < 4294967296 := by
  unfold bitS; split
  · exact xor_lt (by omega) (by omega)
  · omega
theorem bitsS_lt : ∀ (n c : Nat), c < 4294967296 → bitsS n c < 4294967296
  | 0, _, h => h
  | n + 1, _, h => bitsS_lt n _ (bitS_lt h)
theorem bitsS_succ : ∀ (n c : Nat), bitsS (n + 1) c = bitS (bitsS n c)
  | 0, _ => rfl
  | n + 1, c => by rw [bitsS, bitsS_succ n, ← bitsS]
theorem byteS_lt {c b : Nat} (hc : c < 4294967296) (hb : b < 256) : byteS c b < 4294967296 := bitsS_lt 8 _ (xor_lt hc (by omega))
theorem regS_lt : ∀ (l : List UInt8) (c : Nat), c < 4294967296 → regS c l < 4294967296
  | [], _, h => h
  | b :: l, c, h => regS_lt l _ (byteS_lt h b.toNat_lt)
theorem sumS_lt (l : List UInt8) : sumS l < 4294967296 := by unfold sumS; omega
theorem regS_snoc (c : Nat) (l : List UInt8) (b : UInt8) : regS c (l ++ [b]) = byteS (regS c l) b.toNat := by simp [regS]
theorem take_snoc (s : ByteArray) (k : Nat) (h : k < s.size) : s.data.toList.take (k + 1) = s.data.toList.take k ++ [s[k]] := by
  rw [List.take_succ_eq_append_getElem (by simpa using h)]; rfl
theorem regS_at (s : ByteArray) (k : Nat) (h : k < s.size) : regS 4294967295 (s.data.toList.take (k + 1)) = byteS (regS 4294967295 (s.data.toList.take k)) s[k].toNat := by
  rw [take_snoc s k h, regS_snoc]

theorem xor_walk {a b : Nat} (ha : a < 4294967296) (hb : b < 4294967296) : bits .xor .u32 (a : Int) (b : Int) = ((a ^^^ b : Nat) : Int) := u32_xor_nat a b ha hb
theorem and1_walk {a : Nat} (ha : a < 4294967296) : bits .and .u32 (a : Int) 1 = ((a % 2 : Nat) : Int) := by
  have := u32_and_nat a 1 ha (by omega)
  rw [Nat.and_one_is_mod] at this
  exact this
theorem bitS_odd {c : Nat} (h : c % 2 = 1) : bitS c = c / 2 ^^^ 2197175160 := by unfold bitS; rw [if_pos h]
theorem bitS_even {c : Nat} (h : ¬ c % 2 = 1) : bitS c = c / 2 := by unfold bitS; rw [if_neg h]
theorem grown_setC {w w' : World} {b : Nat} (h : w.grownBy w' (some b)) (o : Nat) (v : Value) : w.grownBy (w'.setCell ⟨b, o, none⟩ v) (some b) :=
  ⟨h.os, h.tape, h.output, by simpa [World.setCell] using h.size, fun k hk hne => (Below.heap_setCell _ _ _ _ (by rintro rfl; exact hne rfl)).trans (h.block k hk hne)⟩
theorem grown_same {a b c : World} {r : Option Nat} (h : a.grownBy b r) (k : b.grownBy c r) : a.grownBy c r :=
  ⟨k.os.trans h.os, k.tape.trans h.tape, k.output.trans h.output, Nat.le_trans h.size k.size, fun i hi hne => (k.block i (Nat.lt_of_lt_of_le hi h.size) hne).trans (h.block i hi hne)⟩
theorem not_nat {d : Nat} (h : d < 4294967296) : 4294967295 ^^^ d = 4294967295 - d := by
  have h1 : (~~~ (BitVec.ofNat 32 d)).toNat = 4294967295 - d := by
    rw [BitVec.toNat_not, BitVec.toNat_ofNat, Nat.mod_eq_of_lt h]
  have h2 : ~~~ (BitVec.ofNat 32 d) = BitVec.allOnes 32 ^^^ BitVec.ofNat 32 d := by
    rw [BitVec.allOnes_xor]
  rw [h2, BitVec.toNat_xor, BitVec.toNat_allOnes, BitVec.toNat_ofNat, Nat.mod_eq_of_lt h] at h1
  exact h1
theorem not_walk {d : Nat} (h : d < 4294967296) : bits .xor .u32 IntKind.u32.max (d : Int) = ((4294967295 - d : Nat) : Int) := by
  rw [← not_nat h]
  exact xor_walk (a := 4294967295) (by omega) h
end Go.Proofs.YtllpfngmnccejaaGreat
namespace Go.Proofs.YtllpfngmnccejaaGreat
open Go.RowKit

/-- block b is the register alone -/
def IsReg (w : World) (b c : Nat) : Prop := w.heap[b]? = some (.cells #[.int .u32 (c : Int)] 158 (0, 0))

set_option maxRecDepth 100000 in
set_option maxHeartbeats 400000 in
theorem step_any (b c x : Nat) (w : World) (hr : IsReg w b c) (hc : c < 4294967296) (hx : x < 256) :
    Calls Tryz.prog 97 #[.pointer (some ⟨b, 0, none⟩), .int .u8 (x : Int)] w fun e w' => e = .returned (.tuple #[]) ∧ IsReg w' b (byteS c x) ∧ w.grownBy w' (some b) := by
  have hcell := cell_of_one hr
  have hfree := free_of_one hr
  have hxor := xor_walk hc (show x < 4294967296 by omega)
  go_enter Tryz.func97, Tryz.ntmps97
  go_wp2
  have h0 : c ^^^ x < 4294967296 := xor_lt hc (by omega)
  go_loopw [12] (fun i wr => ∃ k : Nat, k ≤ 8 ∧ i = .int .i64 (k : Int) ∧ IsReg wr b (bitsS k (c ^^^ x)) ∧ w.grownBy wr (some b)) (fun i _ => 8 - (intOf i).toNat)
  case atStart => exact ⟨0, by omega, rfl, one_setCell hr, grown_setC (World.grownBy.refl w _) _ _⟩
  case round =>
    obtain ⟨k, hk, rfl, hr', hg⟩ := hrel
    clear hcell hfree hxor
    have hlt := bitsS_lt k _ h0
    have hs := bitsS_succ k (c ^^^ x)
    have Hr := Lib.hid hr'
    generalize hd : bitsS k (c ^^^ x) = d at hr' hlt hs
    have Hd := Lib.hid hd; clear hd
    have hcell := cell_of_one hr'
    have hfree := free_of_one hr'
    have hand := and1_walk hlt
    have hxor : bits .xor .u32 ((d : Int) / 2) 2197175160 = ((d / 2 ^^^ 2197175160 : Nat) : Int) := xor_walk (show d / 2 < 4294967296 by omega) (show 2197175160 < 4294967296 by omega)
    have Hs := Lib.hid hs; clear hs
    by_cases h8 : k < 8
    · by_cases ho : d % 2 = 1
      · have ht : (((d : Int) % 2) == 1) = true := by simp; omega
        have hs := Lib.hid (Hs.out.trans (bitS_odd ho))
        go_wp2
        go_roundw
        case rel => exact ⟨k + 1, by omega, by go_num, by rw [hs.out]; exact one_setCell (one_setCell hr'), grown_setC (grown_setC hg _ _) _ _⟩
        case measure => simp [intOf]; omega
      · have ht : (((d : Int) % 2) == 1) = false := by simp; omega
        have hs := Lib.hid (Hs.out.trans (bitS_even ho))
        go_wp2
        go_roundw
        case rel => exact ⟨k + 1, by omega, by go_num, by rw [hs.out]; exact one_setCell hr', grown_setC hg _ _⟩
        case measure => simp [intOf]; omega
    · obtain rfl : k = 8 := by omega
      go_wp2
      go_end0
      exact ⟨rfl, Hr.out, hg⟩

set_option maxRecDepth 100000 in
set_option maxHeartbeats 400000 in
theorem each_any (b : Nat) (s : ByteArray) (w : World) (hr : IsReg w b 4294967295) (hs : s.size ≤ maxLen) :
    Calls Tryz.prog 96 #[.string s, .func (.func 97) #[.pointer (some ⟨b, 0, none⟩)] #[]] w fun e w' => e = .returned (.tuple #[]) ∧ IsReg w' b (regS 4294967295 s.data.toList) ∧ w.grownBy w' (some b) := by
  unfold maxLen at hs
  go_enter Tryz.func96, Tryz.ntmps96
  go_wp2
  go_loopw [7] (fun i wr => ∃ k : Nat, k ≤ s.size ∧ i = .int .i64 (k : Int) ∧ IsReg wr b (regS 4294967295 (s.data.toList.take k)) ∧ w.grownBy wr (some b)) (fun i _ => s.size - (intOf i).toNat)
  case atStart => exact ⟨0, by omega, rfl, hr, World.grownBy.refl w _⟩
  case round =>
    obtain ⟨k, hk, rfl, hr', hg⟩ := hrel
    have hlt := regS_lt (s.data.toList.take k) 4294967295 (by omega)
    by_cases hk' : k < s.size
    · have Hs := Lib.hid (regS_at s k hk')
      have Hr := Lib.hid hr'; clear hr'
      generalize regS 4294967295 (s.data.toList.take k) = d at hlt Hs Hr
      have hb : s[k].toNat < 256 := s[k].toNat_lt
      go_wp2_with fail
      refine (step_any b d s[k].toNat _ Hr.out hlt hb).mono ?_
      rintro e w1 ⟨rfl, hr1, hg1⟩
      go_wp2_with fail
      go_roundw
      case rel => exact ⟨k + 1, by omega, by go_num, by rw [Hs.out]; exact hr1, grown_same hg hg1⟩
      case measure => simp [intOf]; omega
    · obtain rfl : k = s.size := by omega
      rw [List.take_of_length_le (by simp)] at hr'
      have Hr := Lib.hid hr'; clear hr'
      go_wp2
      go_end0
      exact ⟨rfl, Hr.out, hg⟩

set_option maxRecDepth 100000 in
set_option maxHeartbeats 400000 in
theorem sum_anyC (s : ByteArray) (w : World) (hs : s.size ≤ maxLen) :
    Calls Tryz.prog 54 #[.string s] w fun e w' => e = .returned (.int .u32 (sumS s.data.toList : Int)) ∧ Below w.heap.size w w' := by
  have hmf : ∀ (fn : Fn) (first cap : Array Value) (w : World), (Instr.makeFunc fn first cap).run Tryz.prog w = .ok (.func fn first cap) w := fun _ _ _ _ => rfl
  have hsl := Lib.hid (regS_lt s.data.toList 4294967295 (by omega))
  have hdef : sumS s.data.toList = 4294967295 - regS 4294967295 s.data.toList := rfl
  have Hdef := Lib.hid hdef; clear hdef
  go_enter Tryz.func54, Tryz.ntmps54
  go_wp2_with fail
  refine (each_any w.heap.size s _ (heap_alloc_new w _) hs).mono ?_
  rintro e w1 ⟨rfl, hr1, hg1⟩
  have hcell := cell_of_one hr1
  have hb : Below w.heap.size w w1 := ((Below.refl _ _).alloc (Nat.le_refl _) _).grown hg1 (by simp) (by simp)
  generalize regS 4294967295 s.data.toList = d at hsl Hdef hcell
  have hlt := hsl.out
  go_wp2
  go_ret
  refine ⟨?_, hb⟩
  rw [Hdef.out, ← not_walk hlt]
  rfl
end Go.Proofs.YtllpfngmnccejaaGreat
namespace Go.Proofs.YtllpfngmnccejaaGreat
open Go.RowKit

theorem sumS_digits : sumS [49, 50, 51, 52, 53, 54, 55, 56, 57] = 3808858755 := by decide +kernel

end Go.Proofs.YtllpfngmnccejaaGreat
namespace Go.Proofs.YtllpfngmnccejaaGreat
open Go Go.RowKit

def kB0 : Dk := ⟨[], [], 1099511627776, false, -1⟩
def kB1 : Dk := ⟨[], [wA], 1099511627776, false, -1⟩
theorem bg1 : doD kB0 [wA] = (kB1, 0) := by kernel_rfl
theorem bg2 : readD kB1 nA = (tX, 0) := by kernel_rfl
theorem bt0 : DTold kB0 (wtW [wA]) := ⟨by decide, by decide⟩
theorem bt1 : DTold kB1 0 := ⟨by decide, by decide⟩
theorem sum_nine : sumS (⟨#[49, 50, 51, 52, 53, 54, 55, 56, 57]⟩ : ByteArray).data.toList = 3808858755 := sumS_digits
set_option maxRecDepth 100000 in
set_option maxHeartbeats 3200000 in
theorem begins_true (w : World) : Calls Tryz.prog 19 #[] w fun e w' => e = .returned (.bool true) ∧ Below w.heap.size w w' := by
  obtain ⟨V1, hV1, bV1, sV1, oV1⟩ := wrbox w ⟨1, ⟨#[97]⟩, ⟨#[]⟩, ⟨#[120]⟩⟩
  have hc := do_at (W := V1) (y := ⟨none, 0, [], none, 0, [], 1099511627776, false, -1⟩) (B := some ⟨w.heap.size, 0, none⟩) 1 ⟨fun h => absurd h (by decide), fun h => absurd h (by decide), Nat.le_refl _⟩ rfl bg1 (lies4_own (t := 95) (l := [wA]) oV1) bt0
  have tx : (tX.toList == [120]) = true := by kernel_rfl
  have hsum := Lib.hid (fun W => sum_anyC ⟨#[49, 50, 51, 52, 53, 54, 55, 56, 57]⟩ W (by decide))
  rw [sum_nine] at hsum
  have H1 := Lib.hid bV1
  clear bV1 sV1 oV1
  go_enter Tryz.func19, Tryz.ntmps19
  go_wp2_with fail
  rw [← hV1]
  clear hV1
  refine hc.out.mono ?_
  rintro _ w2 ⟨b2, z1, rfl, hz1, iz1⟩
  obtain ⟨W2, hW2, o2, i2, bW2⟩ := var_new iz1
  have hc2 := read_at ⟨#[97]⟩ i2 hz1 bg2 bt1
  have H2 := Lib.hid ((H1.out.trans (b2.mono H1.out.size)).trans (bW2.mono (Nat.le_trans H1.out.size b2.size)))
  obtain ⟨d0, d1, d2, d3, d4⟩ := own5 o2
  clear b2 hz1 iz1 bW2 i2 o2 hc
  go_upto_region 2 with fail
  rw [← hW2]
  clear hW2
  go_wp2_with fail
  refine hc2.out.mono ?_
  rintro _ w3 ⟨rfl, b3⟩
  have H3 := Lib.hid (H2.out.trans (b3.mono H2.out.size))
  clear b3 d0 d1 d2 d3 d4 hc2
  go_wp2_with fail
  refine (hsum.out _).mono ?_
  rintro _ w4 ⟨rfl, b4⟩
  have H4 := Lib.hid (H3.out.trans (b4.mono H3.out.size))
  clear b4
  go_wp2_with fail
  go_ret
  exact ⟨rfl, H4.out⟩
end Go.Proofs.YtllpfngmnccejaaGreat
namespace Go.Proofs.YtllpfngmnccejaaGreat
open Go Go.RowKit

section
variable {α : Type} {size : Nat} {cells : α → List Value}
/-- 'append(v, s...)' onto a row of the call's own: and what else is as it was -/
theorem wpList_append_liesK {P : Program} (w : World) {ops : Array Oper} {rest : List Oper} {o : Oper} {a : Act} {Q : Exit → Act → World → Prop} {B : Nat} {A : Option Addr} {l : List α} (hgd : o.guard = none) (s x : Operand) (t e : TypeId)
    (ho : o.op = .call { callee := .builtin .append, args := #[s, x], argTypes := #[t, t] })
    (i0 : TypeInfo) (z : Value) (bytes : Nat) (ht : P.underlying t = some (.slice e)) (hi : P.info? e = some i0) (hz0 : i0.zero = some z) (hz1 : i0.size = size) (hz2 : i0.bytes = bytes) (hzs : z.cells.size = size) (hpos : 0 < size) (hcl : ∀ x, (cells x).length = size) (hone : ∀ x, ∀ u ∈ cells x, u.oneCell' = true)
    (base : Nat) (v : Value) (n : Nat) (xs : List Value) (hs : a.eval s = v) (hown : w.ownsRow base e size v n xs)
    (c : Nat) (hx : a.eval x = .slice A l.length c) (hl : Lies size cells w B A l) (h63 : n + l.length ≤ maxLen) (hn : (n + l.length) * bytes ≤ 140737488355328) (hbase : base ≤ w.heap.size)
    (h : ∀ v' w', w'.ownsRow base e size v' (n + l.length) (xs ++ l.flatMap cells) → w.grownBy w' v.ownBlock → (v'.ownBlock = v.ownBlock ∨ v'.ownBlock = some w.heap.size) → wpList P ops Q rest (a.put o.dst v') w') :
    wpList P ops Q (o :: rest) a w := by
  refine wpList_plain hgd fun K hK => ?_
  obtain ⟨v', w', hrun, ho', hg, hb⟩ : ∃ v' w', (Builtin.append_ #[t, t] o.type #[v, .slice A l.length c]).run P w = .ok v' w' ∧ w'.ownsRow base e size v' (n + l.length) (xs ++ l.flatMap cells) ∧ w.grownBy w' v.ownBlock ∧ (v'.ownBlock = v.ownBlock ∨ v'.ownBlock = some w.heap.size) := by
    cases A with
    | none =>
      have h0 : l = [] := by
        cases l with
        | nil => rfl
        | cons x l => obtain ⟨_, _, e, _⟩ := hl (by simp); cases e
      subst h0
      exact ⟨v, w, run_append_none w base _ _ _ i0 size ht hi v n xs hown c, by simpa using hown, ⟨rfl, rfl, rfl, Nat.le_refl _, fun _ _ _ => rfl⟩, .inl rfl⟩
    | some ad =>
      have hnews : ∀ j u, (l.flatMap cells)[j]? = some u → w.cell? (ad.add j) = some u := by
        intro j u hu
        obtain ⟨i, r, y, rfl, hi, hr⟩ := flat_back hpos hcl l j u hu
        have hp : 0 < l.length := by have := (List.getElem?_eq_some_iff.1 hi).1; omega
        obtain ⟨b, o, e, _, hc⟩ := hl hp
        obtain rfl : ad = ⟨b, o, none⟩ := by injection e
        have ea : (⟨b, o, none⟩ : Addr).add (i * size + r) = ⟨b, o + i * size + r, none⟩ := by unfold Addr.add; split <;> simp_all <;> omega
        rw [ea]
        exact hc i y hi r u hr
      obtain ⟨v', w', hr, h2, h3, _, h5⟩ := run_append_own_at (P := P) w base t o.type e i0 _ size bytes ht hi hz0 hz1 hz2 hzs hpos v n xs hown ad l.length c (l.flatMap cells) (flat_size hcl l) hnews
        (fun u hu => by obtain ⟨y, _, hy⟩ := List.mem_flatMap.1 hu; exact hone y u hy) h63 hn hbase
      exact ⟨v', w', hr, h2, h3, h5⟩
  unfold Oper.wp execOp
  simp only [ho, resolve, invoke, builtin, Sem.run_bind, Sem.run_pure, Result.andThen_ok, List.map_toArray, List.map_cons, List.map_nil, hs, hx, hrun]
  exact hK _ _ (h v' w' ho' hg hb)
end
end Go.Proofs.YtllpfngmnccejaaGreat
namespace Go.Proofs.YtllpfngmnccejaaGreat
open Go Go.RowKit

theorem nokey_ok {u : Up} (h : UOk u) : UOk (nokey u) := ⟨Nat.zero_le _, h.rn, (fun v hv => by cases hv), h.rs, h.dn⟩
theorem nokey_in {w : World} {B : Nat} {u : Up} (h : UIn w B u) : UIn w B (nokey u) := ⟨Vals.nil_, h.row⟩
theorem nkbox (w : World) (u : Up) : ∃ V, V = w.alloc (.cells #[.slice none 0 0, .slice u.rA u.row.length u.rc, .int .u64 (u.t.e : Int), .int .u64 (u.t.a : Int), .int .u64 (u.t.b : Int), .int .i64 u.d] 48) ∧ Below w.heap.size w V ∧ V.heap.size = w.heap.size + 1 ∧ Lies 6 Up.cells V V.heap.size (some ⟨w.heap.size, 0, none⟩) [nokey u] :=
  ⟨_, rfl, (Below.refl _ _).alloc (Nat.le_refl _) _, by simp, by have := up_made w (nokey u); simpa [nokey] using this⟩
theorem plbox (w : World) : ∃ V, V = w.alloc (.cells #[.int .u8 6, .int .i64 0, .slice none 0 0, .slice none 0 0, .slice none 0 0, .slice none 0 0, .int .u8 0, .int .i64 0] 64) ∧ Below w.heap.size w V ∧ V.heap.size = w.heap.size + 1 ∧ Own V w.heap.size 64 [.int .u8 6, .int .i64 0, .slice none 0 0, .slice none 0 0, .slice none 0 0, .slice none 0 0, .int .u8 0, .int .i64 0] :=
  ⟨_, rfl, (Below.refl _ _).alloc (Nat.le_refl _) _, by simp, Own.made w _ _⟩
theorem own8 {w : World} {P : Nat} {t : TypeId} {a0 a1 a2 a3 a4 a5 a6 a7 : Value} (h : Own w P t [a0, a1, a2, a3, a4, a5, a6, a7]) :
    w.cell? ⟨P, 0, none⟩ = some a0 ∧ w.cell? ⟨P, 1, none⟩ = some a1 ∧ w.cell? ⟨P, 2, none⟩ = some a2 ∧ w.cell? ⟨P, 3, none⟩ = some a3 ∧ w.cell? ⟨P, 4, none⟩ = some a4 ∧ w.cell? ⟨P, 5, none⟩ = some a5 ∧ w.cell? ⟨P, 6, none⟩ = some a6 ∧ w.cell? ⟨P, 7, none⟩ = some a7 :=
  ⟨h.at_ 0, h.at_ 1, h.at_ 2, h.at_ 3, h.at_ 4, h.at_ 5, h.at_ 6, h.at_ 7⟩
theorem tm3 (w : World) (t : Tm) : ∃ V, V = w.alloc (.cells #[.int .u64 (t.e : Int), .int .u64 (t.a : Int), .int .u64 (t.b : Int)] 46) ∧ Below w.heap.size w V :=
  ⟨_, rfl, (Below.refl _ _).alloc (Nat.le_refl _) _⟩
/-- what stands at the head of each of the first two loops: k updates are there without their keys -/
structure TBt (V wr : World) (l : List Up) (k : Nat) (v : Value) : Prop where
  below : Below V.heap.size V wr
  row : wr.ownsRow V.heap.size 48 6 v k (((l.map nokey).take k).flatMap Up.cells)
theorem take_len {l : List Up} {k : Nat} (hk : k ≤ l.length) : k = ((l.map nokey).take k).length := by rw [List.length_take, List.length_map]; omega
theorem TBt.form {V wr : World} {l : List Up} {k : Nat} {v : Value} (h : TBt V wr l k v) (hk : k ≤ l.length) : ∃ A c, v = .slice A k c := by
  obtain ⟨A, c, e, _⟩ := lies_of_own (size := 6) (cells := Up.cells) (by decide) ucells_len (take_len hk) h.row
  rw [← take_len hk] at e
  exact ⟨A, c, e⟩
theorem TBt.ups {w V wr : World} {B : Option Addr} {l : List Up} {A : Option Addr} {n c : Nat} (h : TBt V wr l l.length (.slice A n c)) (hw : Below w.heap.size w wr) (hl : Ups w w.heap.size B l) : Ups wr wr.heap.size A (l.map nokey) := by
  obtain ⟨A', c', e, _, _, h3⟩ := lies_of_own (size := 6) (cells := Up.cells) (by decide) ucells_len (take_len (Nat.le_refl _)) h.row
  injection e with e1 _ _
  subst e1
  have htk : (l.map nokey).take l.length = l.map nokey := by
    have := List.take_length (l := l.map nokey)
    rwa [List.length_map] at this
  rw [htk] at h3
  refine ⟨h3, fun u hu => ?_⟩
  obtain ⟨x, hx, rfl⟩ := List.mem_map.1 hu
  exact nokey_in (((hl.each_ x hx).past hw (Nat.le_refl _)).wide hw.size)
theorem TBt.next {V wr X w' : World} {l : List Up} {k : Nat} {v v' : Value} {u : Up} (h : TBt V wr l k v) (hx : l[k]? = some u) (hb : Below wr.heap.size wr X) (hg : X.grownBy w' v.ownBlock) (ho : w'.ownsRow V.heap.size 48 6 v' (k + 1) (((l.map nokey).take k).flatMap Up.cells ++ (nokey u).cells)) : TBt V w' l (k + 1) v' := by
  have hbX : Below V.heap.size V X := belows h.below hb
  refine ⟨hbX.trans ((KeptK.of_grown (S := fun j => v.ownBlock = some j) hg (fun _ e => e)).below (fun j hj => (h.row.lt j hj).1) hbX.size), ?_⟩
  rw [List.take_add_one, List.getElem?_map, hx, List.flatMap_append]
  simpa using ho
set_option maxRecDepth 100000 in
set_option maxHeartbeats 25600000 in
theorem both_top (A : Option Addr) (c : Nat) (a : List Up) (A' : Option Addr) (c' : Nat) (b : List Up) (w : World) (ha : Ups w w.heap.size A a) (oa : ∀ u ∈ a, UOk u) (_ : a.length ≤ c) (_ : c ≤ maxLen) (hb : Ups w w.heap.size A' b) (ob : ∀ u ∈ b, UOk u) (_ : b.length ≤ c') (_ : c' ≤ maxLen) (hn : a.length + b.length ≤ 1048576) :
    Calls Tryz.prog 6 #[.slice A a.length c, .slice A' b.length c'] w fun e w' => e = .returned (.bool true) ∧ Below w.heap.size w w' := by
  obtain ⟨i0, hi0, hz0, hz1, hz2⟩ := info_parts infoUp
  have HI := Lib.hid (And.intro Tryz.underlying22 (And.intro hi0 (And.intro hz0 (And.intro hz1 hz2))))
  have y0 := Lib.hid begins_true
  have HL := Lib.hid (And.intro ha (And.intro oa (And.intro hb ob)))
  have HN := Lib.hid hn
  clear ha oa hb ob hn hi0 hz0 hz1 hz2
  go_enter Tryz.func6, Tryz.ntmps6
  go_wp2_with fail
  refine (y0.out _).mono ?_
  rintro _ w1 ⟨rfl, b1⟩
  obtain ⟨V, hV, hVb, hVs, hVo⟩ := plbox w1
  have HV := Lib.hid (And.intro (belows b1 hVb) hVo)
  clear b1 hVb hVs hVo
  go_upto_region 4 with fail
  rw [← hV]
  clear hV
  go_wp2_with fail
  go_loopw [6, 30] (fun vr vi wr => ∃ k : Nat, vi = .int .i64 (k : Int) ∧ k ≤ b.length ∧ TBt V wr b k vr) (fun _ vi _ => b.length - (intOf vi).toNat)
  case atStart => exact ⟨0, rfl, Nat.zero_le _, Below.refl _ _, World.ownsRow_nil _ _ _ _⟩
  case round =>
    obtain ⟨k, rfl, hk, hat⟩ := hrel
    obtain ⟨A9, c9, rfl⟩ := hat.form hk
    have Hat := Lib.hid hat
    have hnl : b.length < 1048577 := by have := HN.out; omega
    by_cases hlt : k < b.length
    · obtain ⟨u, hx⟩ : ∃ u, b[k]? = some u := ⟨_, List.getElem?_eq_getElem hlt⟩
      obtain ⟨bA, oA, hA, hB, hxs⟩ := lies_up (HL.out.2.2.1).head (by omega)
      have hbw : Below w.heap.size w wr := HV.out.1.trans (hat.below.mono HV.out.1.size)
      obtain ⟨e0, e1, e2, e3, e4, e5⟩ := ((hxs k u hx).past_ hbw hB).six
      obtain ⟨V2, hV2, hb2, hs2, ho2⟩ := upbox wr u
      obtain ⟨X, hX, hXo, hXb, hXs⟩ := own_zeroth ho2 (.slice none 0 0)
      have hbX : Below wr.heap.size wr X := hXb _ _ hb2 (Nat.le_refl _)
      obtain ⟨V3, hV3, hb3, hs3, hl3⟩ := nkbox X u
      have hb03 := belows hbX hb3
      have hr3 := Lib.hid (own_below hat.row hb03)
      have hl3 := Lib.hid hl3
      have H3 := Lib.hid (And.intro hb03 hx)
      have hsz3 : V.heap.size ≤ V3.heap.size := Nat.le_trans hat.below.size hb03.size
      obtain ⟨z0, z1, z2, z3, z4, z5⟩ := own6 ho2
      have k0 := ho2.open_ 0
      obtain ⟨y0_, y1, y2, y3, y4, y5⟩ := own6 hXo
      have q0 : (0 : Int) ≤ (k : Int) := by omega
      have q1 : (k : Int) < (b.length : Int) := by omega
      have HA := Lib.hid hA
      rw [hA]
      clear hat hxs hbw hb2 hs2 ho2 hXo hXb hXs hbX hb3 hs3 hb03 hA hx hB
      go_upto_region 8 with fail
      rw [← hV2]
      clear hV2 e0 e1 e2 e3 e4 e5
      go_upto_region 9 with fail
      rw [← hX]
      clear hX z0 z1 z2 z3 z4 z5 k0
      subst hV3
      have hrr := Lib.hid (show (X.alloc (.cells #[.slice none 0 0, .slice u.rA u.row.length u.rc, .int .u64 (u.t.e : Int), .int .u64 (u.t.a : Int), .int .u64 (u.t.b : Int), .int .i64 u.d] 48)).ownsRow V.heap.size 48 6 (.slice A9 k c9) k (((b.map nokey).take k).flatMap Up.cells) from hr3.out)
      go_wp2_with (at_builtin; refine wpList_append_liesK (l := [nokey u]) _ rfl (.tmp 35) (.tmp 37) 22 48 rfl i0 _ 80 HI.out.1 HI.out.2.1 HI.out.2.2.1 HI.out.2.2.2.1 HI.out.2.2.2.2 rfl (by decide) ucells_len ucells_one V.heap.size _ _ _ rfl hrr.out 1 rfl hl3.out ?ma1 ?ma2 ?ma3 ?ma4)
      case ma1 => unfold maxLen; simp only [List.length_singleton]; omega
      case ma2 => simp only [List.length_singleton]; omega
      case ma3 => exact hsz3
      intro v4 w4 ho4 hg4 hv4
      have HNX := Lib.hid (TBt.next Hat.out H3.out.2 H3.out.1 hg4 (by simpa using ho4))
      clear ho4 hg4 hv4 hr3 hl3 hrr hsz3 y0_ y1 y2 y3 y4 y5
      go_wp2_with fail
      go_roundw
      case rel => exact ⟨k + 1, by go_num, by omega, HNX.out⟩
      case measure => simp [intOf]; omega
    · have hE : k = b.length := by omega
      subst hE
      clear hat hlt
      obtain ⟨W1, hW1⟩ : ∃ W1, W1 = wr := ⟨_, rfl⟩
      subst hW1
      have hbw1 : Below w.heap.size w W1 := HV.out.1.trans (Hat.out.below.mono HV.out.1.size)
      have HW1 := Lib.hid (And.intro (Hat.out.ups hbw1 HL.out.2.2.1) (And.intro hbw1 (HV.out.2.past Hat.out.below HV.out.2.inside)))
      obtain ⟨Ab, hAb⟩ : ∃ Ab, Ab = A9 := ⟨_, rfl⟩
      obtain ⟨cb, hcb⟩ : ∃ cb, cb = c9 := ⟨_, rfl⟩
      subst hAb hcb
      clear Hat hbw1
      go_wp2_with fail
      go_loopw [9, 42] (fun vr vi wr => ∃ k : Nat, vi = .int .i64 (k : Int) ∧ k ≤ a.length ∧ TBt W1 wr a k vr) (fun _ vi _ => a.length - (intOf vi).toNat)
      case atStart => exact ⟨0, rfl, Nat.zero_le _, Below.refl _ _, World.ownsRow_nil _ _ _ _⟩
      case round =>
        obtain ⟨k, rfl, hk, hat⟩ := hrel
        obtain ⟨A9, c9, rfl⟩ := hat.form hk
        have Hat := Lib.hid hat
        have hnl : a.length < 1048577 := by have := HN.out; omega
        by_cases hlt : k < a.length
        · obtain ⟨u, hx⟩ : ∃ u, a[k]? = some u := ⟨_, List.getElem?_eq_getElem hlt⟩
          obtain ⟨bA, oA, hA, hB, hxs⟩ := lies_up (HL.out.1).head (by omega)
          have hbw : Below w.heap.size w wr := HW1.out.2.1.trans (hat.below.mono HW1.out.2.1.size)
          obtain ⟨e0, e1, e2, e3, e4, e5⟩ := ((hxs k u hx).past_ hbw hB).six
          obtain ⟨V2, hV2, hb2, hs2, ho2⟩ := upbox wr u
          obtain ⟨X, hX, hXo, hXb, hXs⟩ := own_zeroth ho2 (.slice none 0 0)
          have hbX : Below wr.heap.size wr X := hXb _ _ hb2 (Nat.le_refl _)
          obtain ⟨V3, hV3, hb3, hs3, hl3⟩ := nkbox X u
          have hb03 := belows hbX hb3
          have hr3 := Lib.hid (own_below hat.row hb03)
          have hl3 := Lib.hid hl3
          have H3 := Lib.hid (And.intro hb03 hx)
          have hsz3 : W1.heap.size ≤ V3.heap.size := Nat.le_trans hat.below.size hb03.size
          obtain ⟨z0, z1, z2, z3, z4, z5⟩ := own6 ho2
          have k0 := ho2.open_ 0
          obtain ⟨y0_, y1, y2, y3, y4, y5⟩ := own6 hXo
          have q0 : (0 : Int) ≤ (k : Int) := by omega
          have q1 : (k : Int) < (a.length : Int) := by omega
          have HA := Lib.hid hA
          rw [hA]
          clear hat hxs hbw hb2 hs2 ho2 hXo hXb hXs hbX hb3 hs3 hb03 hA hx hB
          go_upto_region 15 with fail
          rw [← hV2]
          clear hV2 e0 e1 e2 e3 e4 e5
          go_upto_region 16 with fail
          rw [← hX]
          clear hX z0 z1 z2 z3 z4 z5 k0
          subst hV3
          have hrr := Lib.hid (show (X.alloc (.cells #[.slice none 0 0, .slice u.rA u.row.length u.rc, .int .u64 (u.t.e : Int), .int .u64 (u.t.a : Int), .int .u64 (u.t.b : Int), .int .i64 u.d] 48)).ownsRow W1.heap.size 48 6 (.slice A9 k c9) k (((a.map nokey).take k).flatMap Up.cells) from hr3.out)
          go_wp2_with (at_builtin; refine wpList_append_liesK (l := [nokey u]) _ rfl (.tmp 47) (.tmp 49) 22 48 rfl i0 _ 80 HI.out.1 HI.out.2.1 HI.out.2.2.1 HI.out.2.2.2.1 HI.out.2.2.2.2 rfl (by decide) ucells_len ucells_one W1.heap.size _ _ _ rfl hrr.out 1 rfl hl3.out ?mb1 ?mb2 ?mb3 ?mb4)
          case mb1 => unfold maxLen; simp only [List.length_singleton]; omega
          case mb2 => simp only [List.length_singleton]; omega
          case mb3 => exact hsz3
          intro v4 w4 ho4 hg4 hv4
          have HNX := Lib.hid (TBt.next Hat.out H3.out.2 H3.out.1 hg4 (by simpa using ho4))
          clear ho4 hg4 hv4 hr3 hl3 hrr hsz3 y0_ y1 y2 y3 y4 y5
          go_wp2_with fail
          go_roundw
          case rel => exact ⟨k + 1, by go_num, by omega, HNX.out⟩
          case measure => simp [intOf]; omega
        · have hE : k = a.length := by omega
          subst hE
          clear hat hlt
          obtain ⟨W2, hW2⟩ : ∃ W2, W2 = wr := ⟨_, rfl⟩
          subst hW2
          have hbw2 : Below w.heap.size w W2 := HW1.out.2.1.trans (Hat.out.below.mono HW1.out.2.1.size)
          have hP2 := HW1.out.2.2.past Hat.out.below HW1.out.2.2.inside
          have hX2 := Hat.out.ups hbw2 HL.out.1
          have hY2 := (HW1.out.1.past Hat.out.below (Nat.le_refl _)).wide Hat.out.below.size
          have hok1 : ∀ u ∈ a.map nokey, UOk u := fun u hu => by obtain ⟨x, hx, rfl⟩ := List.mem_map.1 hu; exact nokey_ok (HL.out.2.1 x hx)
          have hok2 : ∀ u ∈ b.map nokey, UOk u := fun u hu => by obtain ⟨x, hx, rfl⟩ := List.mem_map.1 hu; exact nokey_ok (HL.out.2.2.2 x hx)
          have hbare1 : ∀ u ∈ a.map nokey, u.key = [] := fun u hu => by obtain ⟨x, hx, rfl⟩ := List.mem_map.1 hu; rfl
          have hbare2 : ∀ u ∈ b.map nokey, u.key = [] := fun u hu => by obtain ⟨x, hx, rfl⟩ := List.mem_map.1 hu; rfl
          have hla : (a.map nokey).length = a.length := List.length_map ..
          have hlb : (b.map nokey).length = b.length := List.length_map ..
          have H2 := Lib.hid (And.intro hbw2 (And.intro hP2 (And.intro hX2 (And.intro hY2 (And.intro hok1 (And.intro hok2 (And.intro hbare1 hbare2)))))))
          have HLL := Lib.hid (And.intro hla hlb)
          obtain ⟨a', ha'⟩ : ∃ a', a.map nokey = a' := ⟨_, rfl⟩
          obtain ⟨b', hb'⟩ : ∃ b', b.map nokey = b' := ⟨_, rfl⟩
          rw [ha', hb'] at H2 HLL
          have z1 := Lib.hid (do_negated 0 0 0 none none none none 0 0 0 0 0 0 0 0 Ab cb b' W2 H2.out.2.2.2.1 H2.out.2.2.2.2.2.1 (by have h1 := HLL.out.2; have h2 := HN.out; omega))
          unfold DoSays at z1
          rw [HLL.out.2] at z1
          obtain ⟨p0, p1, p2, p3, p4, p5, p6, p7⟩ := own8 hP2
          clear hbw2 hP2 hX2 hY2 hok1 hok2 hbare1 hbare2 hla hlb Hat ha' hb'
          go_wp2_with fail
          refine z1.out.mono ?_
          rintro _ w3 ⟨A3, c3, T, t3, E1, rfl, i1, j1, u3, o3, b3, m3, n3, l3⟩
          obtain ⟨V3, hV3, hb3⟩ := tm3 w3 t3
          have hbb : Below W2.heap.size W2 V3 := belows b3 hb3
          have H3 := Lib.hid (And.intro i1 (And.intro j1 (And.intro (u3.keep hb3) (And.intro o3 (And.intro hbb l3)))))
          have z2 := Lib.hid (pairs_any A9 c9 a' A3 c3 T V3 (H2.out.2.2.1.keep hbb) H2.out.2.2.2.2.1 (u3.keep hb3) o3 (by have h1 := HLL.out.1; have h2 := HN.out; omega) (by have h1 := HLL.out.2; have h2 := HN.out; omega) (by
            have h1 := HLL.out.1; have h2 := HLL.out.2; have h3 := HN.out
            exact Nat.le_trans (Nat.mul_le_mul (show a'.length ≤ 1048576 by omega) (show T.length ≤ 1048576 by omega)) (by decide)))
          unfold PairsSays at z2
          rw [HLL.out.1] at z2
          clear p0 p1 p2 p3 p4 p5 p6 p7 i1 j1 u3 o3 b3 m3 n3 l3 hb3 hbb z1
          go_upto_region 19 with fail
          rw [← hV3]
          clear hV3
          go_wp2_with fail
          refine z2.out.mono ?_
          rintro _ w4 ⟨A4, c4, X4, t4, E2, rfl, i2, j2, u4, o4, b4, m4, n4, l4⟩
          obtain ⟨V4, hV4, hb4⟩ := tm3 w4 t4
          have hbb : Below W2.heap.size W2 V4 := belows H3.out.2.2.2.2.1 (belows b4 hb4)
          have H4 := Lib.hid (And.intro i2 (And.intro j2 (And.intro (u4.keep hb4) (And.intro o4 (And.intro hbb l4)))))
          have z3 := Lib.hid (pairs_any A9 c9 a' Ab cb b' V4 (H2.out.2.2.1.keep hbb) H2.out.2.2.2.2.1 (H2.out.2.2.2.1.keep hbb) H2.out.2.2.2.2.2.1 (by have h1 := HLL.out.1; have h2 := HN.out; omega) (by have h1 := HLL.out.2; have h2 := HN.out; omega) (by
            have h1 := HLL.out.1; have h2 := HLL.out.2; have h3 := HN.out
            exact Nat.le_trans (Nat.mul_le_mul (show a'.length ≤ 1048576 by omega) (show b'.length ≤ 1048576 by omega)) (by decide)))
          unfold PairsSays at z3
          rw [HLL.out.1, HLL.out.2] at z3
          clear i2 j2 u4 o4 b4 m4 n4 l4 hb4 hbb z2
          go_upto_region 20 with fail
          rw [← hV4]
          clear hV4
          go_wp2_with fail
          refine z3.out.mono ?_
          rintro _ w5 ⟨A5, c5, X5, t5, E3, rfl, i3, j3, u5, o5, b5, m5, n5, l5⟩
          obtain ⟨V5, hV5, hb5⟩ := tm3 w5 t5
          have hb45 := belows b5 hb5
          have hbb : Below W2.heap.size W2 V5 := belows H4.out.2.2.2.2.1 hb45
          have hP5 := H2.out.2.1.past hbb H2.out.2.1.inside
          have hl5 : X5.length ≤ 1099511627776 := Nat.le_trans l5 (by
            have h1 := HN.out
            exact Nat.le_trans (Nat.mul_le_mul (show a.length ≤ 1048576 by omega) (show b.length ≤ 1048576 by omega)) (by decide))
          have H5 := Lib.hid (And.intro i3 (And.intro j3 (And.intro (H4.out.2.2.1.keep hb45) (And.intro hbb hl5))))
          have z4 := Lib.hid (do_negated 0 0 0 none none none none 0 0 0 0 0 0 0 0 A5 c5 X5 V5 (u5.keep hb5) o5 hl5)
          unfold DoSays at z4
          obtain ⟨p0, p1, p2, p3, p4, p5, p6, p7⟩ := own8 hP5
          clear i3 j3 u5 o5 b5 m5 n5 l5 hb5 hbb hb45 hP5 hl5 z3
          go_upto_region 21 with fail
          rw [← hV5]
          clear hV5
          go_wp2_with fail
          refine z4.out.mono ?_
          rintro _ w6 ⟨A6, c6, X6, t6, E4, rfl, i4, j4, u6, o6, b6, m6, n6, l6⟩
          obtain ⟨V6, hV6, hb6⟩ := tm3 w6 t6
          have hb56 := belows b6 hb6
          have hbb : Below W2.heap.size W2 V6 := belows H5.out.2.2.2.1 hb56
          have hbw : Below w.heap.size w V6 := H2.out.1.trans (hbb.mono H2.out.1.size)
          have H6 := Lib.hid (And.intro i4 (And.intro j4 (And.intro (u6.keep hb6) (And.intro o6 (And.intro (H5.out.2.2.1.keep hb56) (And.intro hbw l6))))))
          clear p0 p1 p2 p3 p4 p5 p6 p7 i4 j4 u6 o6 b6 m6 n6 l6 hb6 hb56 hbb hbw z4
          go_upto_region 22 with fail
          rw [← hV6]
          clear hV6
          by_cases g1 : E1 = 0
          case neg =>
            have t1 : (E1 != 0) = true := bne_iff_ne.2 g1
            clear g1
            go_wp2_with fail
            go_ret
            exact ⟨rfl, H6.out.2.2.2.2.2.1⟩
          by_cases g2 : E2 = 0
          case neg =>
            have t1 : (E1 != 0) = false := by simp [g1]
            have t2 : (E2 != 0) = true := bne_iff_ne.2 g2
            have G1 := Lib.hid g1
            clear g1 g2
            go_wp2_with fail
            go_ret
            exact ⟨rfl, H6.out.2.2.2.2.2.1⟩
          by_cases g3 : E3 = 0
          case neg =>
            have t1 : (E1 != 0) = false := by simp [g1]
            have t2 : (E2 != 0) = false := by simp [g2]
            have t3 : (E3 != 0) = true := bne_iff_ne.2 g3
            clear g1 g2 g3
            go_wp2_with fail
            go_ret
            exact ⟨rfl, H6.out.2.2.2.2.2.1⟩
          by_cases g4 : E4 = 0
          case neg =>
            have t1 : (E1 != 0) = false := by simp [g1]
            have t2 : (E2 != 0) = false := by simp [g2]
            have t3 : (E3 != 0) = false := by simp [g3]
            have t4 : (E4 != 0) = true := bne_iff_ne.2 g4
            clear g1 g2 g3 g4
            go_wp2_with fail
            go_ret
            exact ⟨rfl, H6.out.2.2.2.2.2.1⟩
          have hsame : X4.map Up.p = X6.map Up.p := by
            obtain ⟨k1, k2, k3⟩ := H3.out.1.1 g1
            obtain ⟨n1, n2, n3, n4⟩ := H4.out.1.1 g2
            obtain ⟨m1, m2, m3, m4⟩ := H5.out.1.1 g3
            obtain ⟨o1, o2, o3⟩ := H6.out.1.1 g4
            exact both_same H2.out.2.2.2.2.2.2.1 H2.out.2.2.2.2.2.2.2 k1 k2 o2 (H3.out.2.1 g1).1 (okPairs_right n1 n2 n3) (okPairs_right m1 m2 m3) (H4.out.2.1 g2).1 (H5.out.2.1 g3).1 (H6.out.2.1 g4).1
          have hlen : X6.length = X4.length := by have := congrArg List.length hsame; simpa using this.symm
          have t1 : (E1 != 0) = false := by simp [g1]
          have t2 : (E2 != 0) = false := by simp [g2]
          have t3 : (E3 != 0) = false := by simp [g3]
          have t4 : (E4 != 0) = false := by simp [g4]
          have t5 : ((X4.length : Int) != (X6.length : Int)) = false := by rw [hlen]; simp
          have t5' : (X4.length != X6.length) = false := by rw [hlen]; simp
          have HS := Lib.hid (And.intro hsame hlen)
          have hn4 : X4.length < 1099511627777 := by
            have h1 := H4.out.2.2.2.2.2
            have h2 := H3.out.2.2.2.2.2
            have h3 := HN.out
            have h4 := HLL.out.2
            exact Nat.lt_of_le_of_lt h1 (Nat.lt_of_le_of_lt (Nat.mul_le_mul (show a.length ≤ 1048576 by omega) (show T.length ≤ 1048576 by omega)) (by decide))
          have HN4 := Lib.hid hn4
          clear g1 g2 g3 g4 hsame hlen
          go_wp2_with fail
          go_loopw [101] (fun v101 wr => ∃ j : Nat, v101 = .int .i64 (j : Int) ∧ j ≤ X4.length ∧ Below V6.heap.size V6 wr) (fun v101 _ => X4.length - (intOf v101).toNat)
          case atStart => exact ⟨0, rfl, Nat.zero_le _, Below.refl _ _⟩
          case round =>
            obtain ⟨j, rfl, hj, hbj⟩ := hrel
            obtain ⟨wi, hwi⟩ : ∃ wi, wi = wr := ⟨_, rfl⟩
            subst hwi
            by_cases hjl : j < X4.length
            · have hjl6 : j < X6.length := by rw [HS.out.2]; exact hjl
              obtain ⟨x, hx⟩ : ∃ x, X4[j]? = some x := ⟨_, List.getElem?_eq_getElem hjl⟩
              obtain ⟨y, hy⟩ : ∃ y, X6[j]? = some y := ⟨_, List.getElem?_eq_getElem hjl6⟩
              have hp : x.p = y.p := by
                have h1 : (X4.map Up.p)[j]? = some x.p := by rw [List.getElem?_map, hx]; rfl
                have h2 : (X6.map Up.p)[j]? = some y.p := by rw [List.getElem?_map, hy]; rfl
                rw [HS.out.1, h2] at h1
                injection h1 with h1
                exact h1.symm
              have hk : x.k = y.k := congrArg Prod.fst hp
              have hd : y.d = x.d := (congrArg Prod.snd hp).symm
              have hxm := List.mem_of_getElem? hx
              have hym := List.mem_of_getElem? hy
              obtain ⟨b4, o4, hA4, hB4, hs4⟩ := lies_up H6.out.2.2.2.2.1.head (by omega)
              obtain ⟨b6, o6, hA6, hB6, hs6⟩ := lies_up H6.out.2.2.1.head (by omega)
              have hX := fun p : Past wi => ((hs4 j x hx).past_ (hbj.trans (p.h.mono hbj.size)) hB4).six
              have hY := fun p : Past wi => ((hs6 j y hy).past_ (hbj.trans (p.h.mono hbj.size)) hB6).six
              have e0 := fun p : Past wi => (hX p).1
              have e1 := fun p : Past wi => (hX p).2.1
              have e2 := fun p : Past wi => (hX p).2.2.1
              have e3 := fun p : Past wi => (hX p).2.2.2.1
              have e4 := fun p : Past wi => (hX p).2.2.2.2.1
              have e5 := fun p : Past wi => (hX p).2.2.2.2.2
              have f0 := fun p : Past wi => (hY p).1
              have f1 := fun p : Past wi => (hY p).2.1
              have f2 := fun p : Past wi => (hY p).2.2.1
              have f3 := fun p : Past wi => (hY p).2.2.2.1
              have f4 := fun p : Past wi => (hY p).2.2.2.2.1
              have f5 := fun p : Past wi => (hY p).2.2.2.2.2
              simp only [hd] at f5
              have u1 : ∀ p : Past wi, Calls Tryz.prog 25 #[.agg #[.slice x.kA x.key.length x.kc, .slice x.rA x.row.length x.rc, .int .u64 (x.t.e : Int), .int .u64 (x.t.a : Int), .int .u64 (x.t.b : Int), .int .i64 x.d], .agg #[.slice y.kA y.key.length y.kc, .slice y.rA y.row.length y.rc, .int .u64 (y.t.e : Int), .int .u64 (y.t.a : Int), .int .u64 (y.t.b : Int), .int .i64 x.d]] p.w fun e w'' => e = .returned (.int .i64 0) ∧ ∃ q : Past wi, w'' = q.w := fun p => by
                have h1 := dcompare_gr x y p.w ((((H6.out.2.2.2.2.1.each_ x hxm).past hbj (Nat.le_refl _)).wide hbj.size).keep p.h) ((((H6.out.2.2.1.each_ y hym).past hbj (Nat.le_refl _)).wide hbj.size).keep p.h) (H4.out.2.2.2.1 x hxm) (H6.out.2.2.2.1 y hym)
                rw [hk, uk_lin.self] at h1
                unfold Up.val at h1
                rw [hd] at h1
                exact calls_past (h1.mono fun e w' h => ⟨h.1, h.2.below⟩)
              have td : (x.d != x.d) = false := by simp
              have HJ := Lib.hid (And.intro hbj hA4)
              have HA6 := Lib.hid hA6
              have q0 : (0 : Int) ≤ (j : Int) := by omega
              have q1 : (j : Int) < (X4.length : Int) := by omega
              have q2 : (j : Int) < (X6.length : Int) := by omega
              rw [hA4, hA6]
              clear hjl6 hx hy hp hk hd hxm hym hs4 hs6 hX hY hA4 hA6 hB4 hB6 hbj
              go_upto_region 29 with fail
              refine wp_region_past wi (by kernel_rfl) (by kernel_rfl) (Below.refl _ _) ?_
              repeat (first | go_big_quiet_step (fail) | quiet_step (fail))
              quiet_step ((go_at_call 25; exact u1 _))
              repeat (first | go_big_quiet_step (fail) | quiet_step (fail))
              refine wpQuiet_nil ?_
              intro wz hw'
              obtain ⟨⟨wy, hbz⟩, hw''⟩ := hw'
              dsimp only at hw''
              subst hw''
              have HZ := Lib.hid (HJ.out.1.trans (hbz.mono HJ.out.1.size))
              clear hbz u1 e0 e1 e2 e3 e4 e5 f0 f1 f2 f3 f4 f5
              go_wp2_with fail
              go_roundw
              case rel => exact ⟨j + 1, by go_num, by omega, HZ.out⟩
              case measure => simp [intOf]; omega
            · have hE : j = X4.length := by omega
              have HJ := Lib.hid (H6.out.2.2.2.2.2.1.trans (hbj.mono H6.out.2.2.2.2.2.1.size))
              subst hE
              clear hbj hjl
              go_wp2_with fail
              go_ret
              exact ⟨rfl, HJ.out⟩
end Go.Proofs.YtllpfngmnccejaaGreat
namespace Go.Proofs.YtllpfngmnccejaaGreat
open Go
variable {H : Type}
theorem bulk_pos (d : DataW H) : 1 ≤ Rows.uptoBulk d := by
  cases d with
  | lit l => cases l <;> simp [Rows.uptoBulk]
  | nil => simp [Rows.uptoBulk]
  | ptr d => simp [Rows.uptoBulk]
  | slice es sp => simp [Rows.uptoBulk]
  | agg ps => simp [Rows.uptoBulk]
  | iface t d => simp [Rows.uptoBulk]
  | map es => simp [Rows.uptoBulk]
  | held h => simp [Rows.uptoBulk]
theorem bulk_all : ∀ es : List (DataW H), es.length ≤ Rows.uptoBulkAll es
  | [] => by simp
  | d :: r => by
    have := bulk_all r
    have := bulk_pos d
    simp only [List.length_cons, Rows.uptoBulkAll]
    omega
theorem bulk_slice (es sp : List (DataW H)) : es.length ≤ Rows.uptoBulk (.slice es sp) := by
  have := bulk_all es
  simp only [Rows.uptoBulk]
  omega
end Go.Proofs.YtllpfngmnccejaaGreat
namespace Go.Proofs.YtllpfngmnccejaaGreat
open Go Go.RowKit Go.ChangeShapes Go.WideShapes Go.ChangeAt Go.Deep

section
variable {H : Type} {enc : TypeId × Value → H} {P : Program} {w : World} {base : Nat} {spare : Nat → Bool} {held : Bool}
/-- the slice, its list; and what its reading tells of its length -/
theorem open_list_at {α : Type} [Inhabited α] {size : Nat} {cells : α → List Value} {OK : α → Prop} {t e : TypeId} (ht : P.underlying t = some (.slice e)) (hc : P.cellsOf e = size) (hpos : 0 < size) (hcl : ∀ x, (cells x).length = size)
    (dec : ∀ {n : Nat} {cs : List Value} {x : DataW H × List MemPlace}, DataW.trod enc P w base spare held n e cs = some x → ∃ a, cs = cells a ∧ OK a)
    {fuel : Nat} {cs : List Value} {x : DataW H × List MemPlace} (hf : DataW.trod enc P w base spare held fuel t cs = some x) :
    ∃ (A : Option Addr) (c : Nat) (l : List α), cs = [.slice A l.length c] ∧ l.length ≤ c ∧ c ≤ maxLen ∧ Lies size cells w w.heap.size A l ∧ (∀ a ∈ l, OK a) ∧ (x.1 = .nil ∧ l = [] ∧ c = 0 ∨ ∃ es sp, x.1 = .slice es sp ∧ es.length = l.length) := by
  rcases open_slice ht hf with ⟨e, hx⟩ | ⟨a, len, cap, m, n, D, Pl, e, hb, hl, hm, hmm, hx, hi⟩
  · subst e hx
    exact ⟨none, 0, [], rfl, by simp, by unfold maxLen; omega, fun h => absurd h (by simp), fun a ha => (by cases ha), .inl ⟨rfl, rfl, rfl⟩⟩
  · subst e hx
    obtain ⟨n0, rfl⟩ : ∃ n0, n0 = len := ⟨_, rfl⟩
    obtain ⟨c0, rfl⟩ : ∃ c0, c0 = cap := ⟨_, rfl⟩
    have hlm : n0 ≤ m := by rw [hmm]; split <;> omega
    rw [hc] at hi
    have hT : ∀ i, ∃ x : α, i < n0 → OK x ∧ ∀ (j : Nat) (u : Value), (cells x)[j]? = some u → w.cell? ((a.add (i * size)).add j) = some u := by
      intro i
      by_cases hil : i < n0
      · obtain ⟨cs', hcs, htr⟩ := hi i (by omega)
        obtain ⟨x, rfl, hok⟩ := dec htr
        obtain ⟨_, _, hat⟩ := World.cells?_some hcs
        refine ⟨x, fun _ => ⟨hok, fun j u hj => ?_⟩⟩
        have hjs : j < size := by have := (List.getElem?_eq_some_iff.1 hj).1; rw [hcl] at this; exact this
        rw [hat j hjs]
        exact hj
      · exact ⟨default, fun h => absurd h hil⟩
    obtain ⟨f, hf'⟩ : ∃ f : Nat → α, ∀ i, i < n0 → OK (f i) ∧ ∀ (j : Nat) (u : Value), (cells (f i))[j]? = some u → w.cell? ((a.add (i * size)).add j) = some u :=
      ⟨fun i => Classical.choose (hT i), fun i => Classical.choose_spec (hT i)⟩
    clear hT
    have hlen : ((List.range n0).map f).length = n0 := by simp
    refine ⟨some a, c0, (List.range n0).map f, by rw [hlen], by rw [hlen]; exact hl, hm, fun hp => ?_, fun x hx => ?_, .inr ⟨_, _, rfl, by simp⟩⟩
    · rw [hlen] at hp
      have hz : ((a.add (0 * size)).add 0) = a := by unfold Addr.add; simp
      obtain ⟨v0, h0⟩ : ∃ v0, w.cell? a = some v0 := by
        have h1 : 0 < (cells (f 0)).length := by rw [hcl]; exact hpos
        have := (hf' 0 hp).2 0 _ (List.getElem?_eq_getElem h1)
        rw [hz] at this
        exact ⟨_, this⟩
      have hspot : a.spot = none := by
        cases hs : a.spot with
        | none => rfl
        | some s =>
          unfold World.cell? at h0
          rw [hs] at h0
          split at h0 <;> simp at h0
      obtain ⟨b, o, sp⟩ := a
      simp only at hspot
      subst hspot
      have hadd : ∀ k j, ((⟨b, o, none⟩ : Addr).add k).add j = ⟨b, o + k + j, none⟩ := fun k j => by unfold Addr.add; split <;> split <;> simp_all
      refine ⟨b, o, rfl, World.block_lt_of_cell? w _ h0, fun i x hit j u hj => ?_⟩
      have hil : i < n0 := by have := (List.getElem?_eq_some_iff.1 hit).1; omega
      have hti : f i = x := by simpa [hil] using hit
      subst hti
      have := (hf' i hil).2 j u hj
      rwa [hadd] at this
    · obtain ⟨i, hi1, rfl⟩ := List.mem_map.1 hx
      exact (hf' i (List.mem_range.1 hi1)).1
theorem open_list {α : Type} [Inhabited α] {size : Nat} {cells : α → List Value} {OK : α → Prop} {t e : TypeId} (ht : P.underlying t = some (.slice e)) (hc : P.cellsOf e = size) (hpos : 0 < size) (hcl : ∀ x, (cells x).length = size)
    (dec : ∀ {n : Nat} {cs : List Value} {x : DataW H × List MemPlace}, DataW.trod enc P w base spare held n e cs = some x → ∃ a, cs = cells a ∧ OK a)
    {v : Value} {d : DataW H} {p : List MemPlace} {r : Reach} {b0 : Nat} (hv : Value.okWide P w r b0 t v) (h : DataW.Trod enc P w base spare held t v d p) :
    ∃ (A : Option Addr) (c : Nat) (l : List α), v = .slice A l.length c ∧ l.length ≤ c ∧ c ≤ maxLen ∧ Lies size cells w w.heap.size A l ∧ (∀ a ∈ l, OK a) ∧ (d = .nil ∧ l = [] ∧ c = 0 ∨ ∃ es sp, d = .slice es sp ∧ es.length = l.length) := by
  obtain ⟨a0, n0, c0, rfl⟩ := okWide_slice ht hv
  obtain ⟨fuel, hf⟩ := h
  obtain ⟨A, c, l, e, h1⟩ := open_list_at ht hc hpos hcl dec hf
  exact ⟨A, c, l, by simpa [Value.cells] using e, h1⟩
end
end Go.Proofs.YtllpfngmnccejaaGreat
namespace Go.Proofs.YtllpfngmnccejaaGreat
open Go Go.RowKit Go.ChangeShapes Go.WideShapes Go.ChangeAt Go.Deep

section
variable {H : Type} {enc : TypeId × Value → H} {P : Program} {w : World} {base : Nat} {spare : Nat → Bool} {held : Bool}
theorem lies_gen {α : Type} {size : Nat} {cells : α → List Value} (hcl : ∀ x, 0 < (cells x).length) {len : Nat} {a : Addr} {f : Nat → α} (hp : 0 < len) (hf : ∀ i, i < len → ∀ (j : Nat) (u : Value), (cells (f i))[j]? = some u → w.cell? ((a.add (i * size)).add j) = some u) :
    Lies size cells w w.heap.size (some a) ((List.range len).map f) := fun _ => by
  have hz : ((a.add (0 * size)).add 0) = a := by unfold Addr.add; simp
  obtain ⟨v0, h0⟩ : ∃ v0, w.cell? a = some v0 := by
    have := hf 0 hp 0 _ (List.getElem?_eq_getElem (hcl (f 0)))
    rw [hz] at this
    exact ⟨_, this⟩
  have hspot : a.spot = none := by
    cases hs : a.spot with
    | none => rfl
    | some s =>
      unfold World.cell? at h0
      rw [hs] at h0
      split at h0 <;> simp at h0
  obtain ⟨b, o, sp⟩ := a
  simp only at hspot
  subst hspot
  have hadd : ∀ k j, ((⟨b, o, none⟩ : Addr).add k).add j = ⟨b, o + k + j, none⟩ := fun k j => by unfold Addr.add; split <;> split <;> simp_all
  refine ⟨b, o, rfl, World.block_lt_of_cell? w _ h0, fun i x hit j u hj => ?_⟩
  have hil : i < len := by have := (List.getElem?_eq_some_iff.1 hit).1; simpa using this
  have hti : f i = x := by simpa [hil] using hit
  subst hti
  have := hf i hil j u hj
  rwa [hadd] at this
theorem bulk_sum : ∀ es : List (DataW H × List MemPlace), (es.map (fun z => Rows.uptoBulk z.1)).sum = Rows.uptoBulkAll (es.map (·.1))
  | [] => by simp [Rows.uptoBulkAll]
  | x :: es => by simp only [List.map_cons, List.sum_cons, Rows.uptoBulkAll]; rw [bulk_sum es]
theorem mem_le_sum : ∀ {bs : List Nat} {b : Nat}, b ∈ bs → b ≤ bs.sum
  | [], _, h => by cases h
  | x :: bs, b, h => by
    rw [List.sum_cons]
    rcases List.mem_cons.1 h with rfl | h
    · omega
    · have := mem_le_sum h; omega
theorem len_le_sum : ∀ {bs : List Nat}, (∀ b ∈ bs, 1 ≤ b) → bs.length ≤ bs.sum
  | [], _ => Nat.le_refl _
  | x :: bs, h => by
    have h1 := h x (by simp)
    have h2 := len_le_sum (bs := bs) fun b hb => h b (by simp [hb])
    rw [List.sum_cons, List.length_cons]
    omega
theorem sum_pair {α : Type} {g : α → Nat} : ∀ (l : List α) (bs : List Nat), bs.length = l.length → (∀ (i : Nat) (a : α), l[i]? = some a → ∃ b, bs[i]? = some b ∧ g a ≤ b) → (l.map g).sum ≤ bs.sum
  | [], _, _, _ => Nat.zero_le _
  | x :: l, [], h, _ => by simp at h
  | x :: l, b :: bs, h, hp => by
    obtain ⟨b', h1, h2⟩ := hp 0 x rfl
    obtain rfl : b = b' := by simpa using h1
    have := sum_pair l bs (by simpa using h) fun i a hi => by
      obtain ⟨b2, h3, h4⟩ := hp (i + 1) a (by simpa using hi)
      exact ⟨b2, by simpa using h3, h4⟩
    simp only [List.map_cons, List.sum_cons]
    omega
/-- the slice, its list, and how much each of its elements tells -/
theorem open_list_bulk {α : Type} [Inhabited α] {size : Nat} {cells : α → List Value} {OK : α → Nat → Prop} {t e : TypeId} {fuel : Nat} (ht : P.underlying t = some (.slice e)) (hc : P.cellsOf e = size) (hcl : ∀ x, 0 < (cells x).length)
    (dec : ∀ {n : Nat} {cs : List Value} {x : DataW H × List MemPlace}, n < fuel → DataW.trod enc P w base spare held n e cs = some x → ∃ a, cs = cells a ∧ OK a (Rows.uptoBulk x.1))
    {cs : List Value} {x : DataW H × List MemPlace} (hf : DataW.trod enc P w base spare held fuel t cs = some x) :
    ∃ (A : Option Addr) (c : Nat) (l : List α) (bs : List Nat), cs = [.slice A l.length c] ∧ l.length ≤ c ∧ c ≤ maxLen ∧ Lies size cells w w.heap.size A l ∧ bs.length = l.length ∧ bs.sum + 1 ≤ Rows.uptoBulk x.1 ∧ (∀ b ∈ bs, 1 ≤ b) ∧
      ∀ (i : Nat) (a : α), l[i]? = some a → ∃ b, bs[i]? = some b ∧ OK a b := by
  rcases DataW.trod_slice ht hf with ⟨h1, h2⟩ | ⟨a, len, cap, elems, rest, n, hfu, h1, h2, hb, hl, hm, hlen, hel, hsp, hns⟩
  · subst h1 h2
    exact ⟨none, 0, [], [], rfl, Nat.le_refl _, Nat.zero_le _, Lies.nil_, rfl, by simp [Rows.uptoBulk], fun b h => (by cases h), fun i a h => (by simp at h)⟩
  · rw [hc] at hel
    have hT : ∀ i, i < len → ∃ y : α, (∃ b, (elems.map (fun z => Rows.uptoBulk z.1))[i]? = some b ∧ OK y b) ∧ ∀ (j : Nat) (u : Value), (cells y)[j]? = some u → w.cell? ((a.add (i * size)).add j) = some u := fun i hi => by
      have h1 := hel i hi
      rw [List.getElem?_eq_getElem (by omega)] at h1
      obtain ⟨cs', h2, h3⟩ := Option.bind_eq_some_iff.1 h1
      obtain ⟨y, rfl, hy⟩ := dec (by omega) h3
      obtain ⟨_, hle2, hat⟩ := World.cells?_some h2
      refine ⟨y, ⟨_, by rw [List.getElem?_map, List.getElem?_eq_getElem (by omega)]; rfl, hy⟩, fun j u hj => ?_⟩
      rw [hat j (by have := (List.getElem?_eq_some_iff.1 hj).1; omega)]
      exact hj
    obtain ⟨f, hf'⟩ := choose_lt hT
    have hle : ((List.range len).map f).length = len := by simp
    refine ⟨some a, cap, (List.range len).map f, elems.map (fun z => Rows.uptoBulk z.1), by rw [hle]; exact h1, by rw [hle]; exact hl, hm, ?_, by rw [hle, List.length_map, hlen], ?_, ?_, ?_⟩
    · by_cases hp : 0 < len
      · exact lies_gen hcl hp fun i hi => (hf' i hi).2
      · exact fun h => by rw [hle] at h; omega
    · rw [h2]
      simp only [Rows.uptoBulk]
      rw [bulk_sum]
      omega
    · intro b hb
      obtain ⟨z, _, rfl⟩ := List.mem_map.1 hb
      exact bulk_pos _
    · intro i y hi
      have hil : i < len := by have := (List.getElem?_eq_some_iff.1 hi).1; simpa using this
      have hti : f i = y := by simpa [hil] using hi
      subst hti
      exact (hf' i hil).1
end
end Go.Proofs.YtllpfngmnccejaaGreat
namespace Go.Proofs.YtllpfngmnccejaaGreat
open Go Go.RowKit Go.ChangeShapes Go.WideShapes Go.ChangeAt Go.Deep

set_option maxRecDepth 100000
section
variable {H : Type} {enc : TypeId × Value → H} {w : World} {base : Nat} {spare : Nat → Bool} {held : Bool}
theorem wf_nat {n : Int} (h : (Lit.int .u64 n).wf = true) : ∃ m : Nat, n = (m : Int) := by
  have h2 : 0 ≤ n := by
    have : 0 ≤ n ∧ n ≤ 18446744073709551615 := by simpa [Lit.wf, IntKind.min, IntKind.max, IntKind.signed, IntKind.bits] using h
    exact this.1
  exact ⟨n.toNat, (Int.toNat_of_nonneg h2).symm⟩
theorem trod_time {fuel : Nat} {cs : List Value} {x : DataW H × List MemPlace} (h : DataW.trod enc Tryz.prog w base spare held fuel 46 cs = some x) : ∃ t : Tm, cs = t.cells := by
  obtain ⟨xs, n, _, _, hlen, hxs, hf⟩ := DataW.trod_struct Tryz.underlying46 h
  have hc : Tryz.prog.cellsOf 46 = 3 := by kernel_rfl
  have hc1 : Tryz.prog.cellsOf 43 = 1 := by kernel_rfl
  have hc2 : Tryz.prog.cellsOf 44 = 2 := by kernel_rfl
  rw [hc] at hlen
  match cs, hlen with
  | [c0, c1, c2], _ =>
    have h0 := hf 0 _ rfl
    have h1 := hf 1 _ rfl
    match xs, hxs with
    | [y0, y1], _ =>
      simp only [hc1, hc2, List.drop_zero, List.take_succ_cons, List.take_zero, List.drop_succ_cons, List.getElem?_cons_zero, List.getElem?_cons_succ] at h0 h1
      obtain ⟨n0, e0, _, w0⟩ := DataW.trod_int Tryz.underlying43 h0
      obtain ⟨zs, m, _, _, _, hzs, hg⟩ := DataW.trod_array Tryz.underlying44 h1
      match zs, hzs with
      | [z0, z1], _ =>
        have k0 := hg 0 (by omega)
        have k1 := hg 1 (by omega)
        simp only [hc1, Nat.zero_mul, Nat.one_mul, List.drop_zero, List.take_succ_cons, List.take_zero, List.drop_succ_cons, List.getElem?_cons_zero, List.getElem?_cons_succ] at k0 k1
        obtain ⟨n1, e1, _, w1⟩ := DataW.trod_int Tryz.underlying43 k0
        obtain ⟨n2, e2, _, w2⟩ := DataW.trod_int Tryz.underlying43 k1
        obtain ⟨m0, rfl⟩ := wf_nat w0
        obtain ⟨m1, rfl⟩ := wf_nat w1
        obtain ⟨m2, rfl⟩ := wf_nat w2
        obtain rfl := (List.cons.inj e0).1
        obtain rfl := (List.cons.inj e1).1
        obtain rfl := (List.cons.inj e2).1
        exact ⟨⟨m0, m1, m2⟩, rfl⟩
theorem open_time {r : Reach} {b0 : Nat} {v : Value} {d : DataW H} {p : List MemPlace} (hv : Value.okWide Tryz.prog w r b0 46 v) (h : DataW.Trod enc Tryz.prog w base spare held 46 v d p) : ∃ t : Tm, v = t.val := by
  obtain ⟨cs, rfl, hsz⟩ := okWide_struct Tryz.underlying46 hv
  obtain ⟨fuel, hf⟩ := h
  obtain ⟨t, ht⟩ := trod_time hf
  refine ⟨t, ?_⟩
  obtain ⟨l⟩ := cs
  simp only [Value.cells] at ht
  unfold Tm.val
  rw [show l = t.cells from by simpa using ht]
  rfl
/-- the slice, its list; and what its reading tells of its length -/
theorem open_times {v : Value} {d : DataW H} {p : List MemPlace} {r : Reach} {b0 : Nat} (hv : Value.okWide Tryz.prog w r b0 23 v) (h : DataW.Trod enc Tryz.prog w base spare held 23 v d p) :
    ∃ (A : Option Addr) (c : Nat) (l : List Tm), v = .slice A l.length c ∧ l.length ≤ c ∧ c ≤ maxLen ∧ Times w w.heap.size A l ∧ (d = .nil ∧ l = [] ∧ c = 0 ∨ ∃ es sp, d = .slice es sp ∧ es.length = l.length) := by
  obtain ⟨a0, n0, c0, rfl⟩ := okWide_slice Tryz.underlying23 hv
  obtain ⟨fuel, hf⟩ := h
  simp only [Value.cells] at hf
  rcases open_slice Tryz.underlying23 hf with ⟨e, hx⟩ | ⟨a, len, cap, m, n, D, Pl, e, hb, hl, hm, hmm, hx, hi⟩
  · simp only [List.cons.injEq, and_true, Value.slice.injEq] at e
    obtain ⟨rfl, rfl, rfl⟩ := e
    obtain ⟨rfl, _⟩ := Prod.mk.inj hx
    exact ⟨none, 0, [], rfl, by simp, by unfold maxLen; omega, Times.nil_, .inl ⟨rfl, rfl, rfl⟩⟩
  · simp only [List.cons.injEq, and_true, Value.slice.injEq] at e
    obtain ⟨rfl, rfl, rfl⟩ := e
    obtain ⟨rfl, rfl⟩ := Prod.mk.inj hx
    have hlm : n0 ≤ m := by rw [hmm]; split <;> omega
    have hc3 : Tryz.prog.cellsOf 46 = 3 := by kernel_rfl
    rw [hc3] at hi
    have hT : ∀ i, ∃ t : Tm, i < n0 → (w.cell? ((a.add (i * 3)).add 0) = some (.int .u64 (t.e : Int)) ∧ w.cell? ((a.add (i * 3)).add 1) = some (.int .u64 (t.a : Int)) ∧ w.cell? ((a.add (i * 3)).add 2) = some (.int .u64 (t.b : Int))) := by
      intro i
      by_cases hil : i < n0
      · obtain ⟨cs', hcs, htr⟩ := hi i (by omega)
        obtain ⟨t, rfl⟩ := trod_time htr
        obtain ⟨_, _, hat⟩ := World.cells?_some hcs
        exact ⟨t, fun _ => ⟨hat 0 (by omega), hat 1 (by omega), hat 2 (by omega)⟩⟩
      · exact ⟨default, fun h => absurd h hil⟩
    obtain ⟨f, hf'⟩ : ∃ f : Nat → Tm, ∀ i, i < n0 → (w.cell? ((a.add (i * 3)).add 0) = some (.int .u64 ((f i).e : Int)) ∧ w.cell? ((a.add (i * 3)).add 1) = some (.int .u64 ((f i).a : Int)) ∧ w.cell? ((a.add (i * 3)).add 2) = some (.int .u64 ((f i).b : Int))) :=
      ⟨fun i => Classical.choose (hT i), fun i => Classical.choose_spec (hT i)⟩
    clear hT
    have hlen : ((List.range n0).map f).length = n0 := by simp
    refine ⟨some a, c0, (List.range n0).map f, by rw [hlen], by rw [hlen]; exact hl, hm, fun hpos => ?_, .inr ⟨_, _, rfl, by simp⟩⟩
    rw [hlen] at hpos
    have haa : ∀ k, (a.add k).add 0 = a.add k := fun k => by unfold Addr.add; simp
    have hspot : a.spot = none := by
      have hz : ((a.add (0 * 3)).add 0) = a := by rw [haa]; unfold Addr.add; simp
      obtain ⟨v0, h0⟩ : ∃ v0, w.cell? a = some v0 := ⟨_, by have := (hf' 0 hpos).1; rwa [hz] at this⟩
      cases hs : a.spot with
      | none => rfl
      | some s =>
        unfold World.cell? at h0
        rw [hs] at h0
        split at h0 <;> simp at h0
    obtain ⟨b, o, sp⟩ := a
    simp only at hspot
    subst hspot
    have hblk : b < w.heap.size := by
      have hz : (((⟨b, o, none⟩ : Addr).add (0 * 3)).add 0).block = b := by unfold Addr.add; simp
      have := World.block_lt_of_cell? w _ (hf' 0 hpos).1
      rwa [hz] at this
    have hadd : ∀ k j, ((⟨b, o, none⟩ : Addr).add k).add j = ⟨b, o + k + j, none⟩ := fun k j => by unfold Addr.add; split <;> split <;> simp_all
    refine ⟨b, o, rfl, hblk, fun i t hit => ?_⟩
    have hil : i < n0 := by have := (List.getElem?_eq_some_iff.1 hit).1; omega
    have hti : f i = t := by simpa [hil] using hit
    obtain ⟨q0, q1, q2⟩ := hf' i hil
    rw [hadd] at q0 q1 q2
    rw [← hti]
    exact ⟨q0, q1, q2⟩
end
end Go.Proofs.YtllpfngmnccejaaGreat
namespace Go.Proofs.YtllpfngmnccejaaGreat
open Go Go.RowKit Go.ChangeShapes Go.WideShapes Go.ChangeAt Go.Deep

set_option maxRecDepth 100000
section
variable {H : Type} {enc : TypeId × Value → H} {w : World} {base : Nat} {spare : Nat → Bool} {held : Bool}
set_option maxRecDepth 100000 in
theorem trod_val {fuel : Nat} {cs : List Value} {x : DataW H × List MemPlace} (h : DataW.trod enc Tryz.prog w base spare held fuel 50 cs = some x) : ∃ v : Vl, cs = v.cells ∧ VOk v := by
  obtain ⟨xs, n, _, _, hlen, hxs, hf⟩ := DataW.trod_struct Tryz.underlying50 h
  have hc : Tryz.prog.cellsOf 50 = 3 := by kernel_rfl
  have hcb : Tryz.prog.cellsOf 4 = 1 := by kernel_rfl
  have hci : Tryz.prog.cellsOf 2 = 1 := by kernel_rfl
  have hcs : Tryz.prog.cellsOf 9 = 1 := by kernel_rfl
  rw [hc] at hlen
  match cs, hlen with
  | [c0, c1, c2], _ =>
    have h0 := hf 0 _ rfl
    have h1 := hf 1 _ rfl
    have h2 := hf 2 _ rfl
    match xs, hxs with
    | [y0, y1, y2], _ =>
      simp only [hcb, hci, hcs, List.drop_zero, List.take_succ_cons, List.take_zero, List.drop_succ_cons, List.getElem?_cons_zero, List.getElem?_cons_succ] at h0 h1 h2
      obtain ⟨n0, e0, _⟩ := DataW.trod_bool Tryz.underlying4 h0
      obtain ⟨n1, e1, _, w1⟩ := DataW.trod_int Tryz.underlying2 h1
      obtain ⟨n2, e2, _, w2⟩ := DataW.trod_string Tryz.underlying9 h2
      obtain rfl := (List.cons.inj e0).1
      obtain rfl := (List.cons.inj e1).1
      obtain rfl := (List.cons.inj e2).1
      exact ⟨⟨n0, n1, n2⟩, rfl, w2, wf_i64 w1⟩
/-- a row, and what its reading tells -/
theorem open_rowC {fuel : Nat} {cs : List Value} {x : DataW H × List MemPlace} (h : DataW.trod enc Tryz.prog w base spare held fuel 42 cs = some x) :
    ∃ (A : Option Addr) (c : Nat) (l : List Vl), cs = [.slice A l.length c] ∧ Vals w w.heap.size A l ∧ (∀ v ∈ l, VOk v) ∧ l.length ≤ Rows.uptoBulk x.1 := by
  obtain ⟨A, c, l, bs, e, h1, h2, h3, h4, h5, h6, h7⟩ := open_list_bulk (size := 3) (cells := Vl.cells) (OK := fun v _ => VOk v) Tryz.underlying42 (by kernel_rfl) (fun _ => by simp [Vl.cells]) (fun {n cs x} _ ht => trod_val ht) h
  have := len_le_sum h6
  refine ⟨A, c, l, e, vals_of_lies h3, fun v hv => ?_, by omega⟩
  obtain ⟨i, hi⟩ := List.getElem?_of_mem hv
  exact (h7 i v hi).elim fun _ h => h.2
/-- an update's part of what came in -/
def UIs (w : World) (u : Up) (b : Nat) : Prop := UIn w w.heap.size u ∧ (b ≤ 1048576 → UOk u)
set_option maxRecDepth 100000 in
theorem trod_up {fuel : Nat} {cs : List Value} {x : DataW H × List MemPlace} (h : DataW.trod enc Tryz.prog w base spare held fuel 48 cs = some x) : ∃ u : Up, cs = u.cells ∧ UIs w u (Rows.uptoBulk x.1) := by
  obtain ⟨xs, n, hfu, hx, hlen, hxs, hf⟩ := DataW.trod_struct Tryz.underlying48 h
  have hc : Tryz.prog.cellsOf 48 = 6 := by kernel_rfl
  have hc0 : Tryz.prog.cellsOf 42 = 1 := by kernel_rfl
  have hc1 : Tryz.prog.cellsOf 46 = 3 := by kernel_rfl
  have hc2 : Tryz.prog.cellsOf 2 = 1 := by kernel_rfl
  rw [hc] at hlen
  match cs, hlen with
  | [c0, c1, c2, c3, c4, c5], _ =>
    have h0 := hf 0 _ rfl
    have h1 := hf 1 _ rfl
    have h2 := hf 2 _ rfl
    have h3 := hf 3 _ rfl
    match xs, hxs with
    | [y0, y1, y2, y3], _ =>
      simp only [hc0, hc1, hc2, List.drop_zero, List.take_succ_cons, List.take_zero, List.drop_succ_cons, List.getElem?_cons_zero, List.getElem?_cons_succ] at h0 h1 h2 h3
      obtain ⟨A0, k0, l0, e0, i0, o0, m0⟩ := open_rowC h0
      obtain ⟨A1, k1, l1, e1, i1, o1, m1⟩ := open_rowC h1
      obtain ⟨t, e2⟩ := trod_time h2
      obtain ⟨d, e3, _, w3⟩ := DataW.trod_int Tryz.underlying2 h3
      have hM : Rows.uptoBulk x.1 = Rows.uptoBulk y0.1 + (Rows.uptoBulk y1.1 + (Rows.uptoBulk y2.1 + (Rows.uptoBulk y3.1 + 0))) + 1 := by
        rw [hx]
        simp only [List.map_cons, List.map_nil, Rows.uptoBulk, Rows.uptoBulkAll]
      obtain rfl := (List.cons.inj e0).1
      obtain rfl := (List.cons.inj e1).1
      obtain rfl := (List.cons.inj e3).1
      simp only [Tm.cells, List.cons.injEq, and_true] at e2
      obtain ⟨rfl, rfl, rfl⟩ := e2
      refine ⟨⟨A0, k0, l0, A1, k1, l1, t, d⟩, rfl, ⟨i0, i1⟩, fun hb => ⟨?_, ?_, o0, o1, wf_i64 w3⟩⟩
      · show l0.length ≤ _; omega
      · show l1.length ≤ _; omega
theorem open_upsC {fuel : Nat} {cs : List Value} {x : DataW H × List MemPlace} (h : DataW.trod enc Tryz.prog w base spare held fuel 22 cs = some x) :
    ∃ s : Rw Up, cs = s.cells ∧ s.l.length ≤ s.c ∧ s.c ≤ maxLen ∧ Ups w w.heap.size s.A s.l ∧ (Rows.uptoBulk x.1 ≤ 1048576 → ∀ u ∈ s.l, UOk u) ∧ s.l.length + 1 ≤ Rows.uptoBulk x.1 := by
  obtain ⟨A, c, l, bs, e, h1, h2, h3, h4, h5, h6, h7⟩ := open_list_bulk (size := 6) (cells := Up.cells) (OK := UIs w) Tryz.underlying22 (by kernel_rfl) (fun _ => by simp [Up.cells]) (fun {n cs x} _ ht => trod_up ht) h
  have := len_le_sum h6
  refine ⟨⟨A, c, l⟩, e, h1, h2, ⟨h3, fun u hu => ?_⟩, fun hb u hu => ?_, by show l.length + 1 ≤ _; omega⟩
  · obtain ⟨i, hi⟩ := List.getElem?_of_mem hu
    exact (h7 i u hi).elim fun _ h => h.2.1
  · obtain ⟨i, hi⟩ := List.getElem?_of_mem hu
    obtain ⟨b, hb1, hb2⟩ := h7 i u hi
    have := mem_le_sum (List.mem_of_getElem? hb1)
    exact hb2.2 (by omega)
theorem open_ups {v : Value} {d : DataW H} {p : List MemPlace} {r : Reach} {b0 : Nat} (hv : Value.okWide Tryz.prog w r b0 22 v) (h : DataW.Trod enc Tryz.prog w base spare held 22 v d p) :
    ∃ (A : Option Addr) (c : Nat) (l : List Up), v = .slice A l.length c ∧ l.length ≤ c ∧ c ≤ maxLen ∧ Ups w w.heap.size A l ∧ (Rows.uptoBulk d ≤ 1048576 → ∀ u ∈ l, UOk u) ∧ l.length ≤ Rows.uptoBulk d := by
  obtain ⟨a0, n0, c0, rfl⟩ := okWide_slice Tryz.underlying22 hv
  obtain ⟨fuel, hf⟩ := h
  simp only [Value.cells] at hf
  obtain ⟨⟨A, c, l⟩, e, h1, h2, h3, h4, h5⟩ := open_upsC hf
  exact ⟨A, c, l, by simpa [Rw.cells] using e, h1, h2, h3, h4, Nat.le_of_succ_le h5⟩
theorem sum_len {α : Type} : ∀ {L : List (Rw α)} {bs : List Nat}, bs.length = L.length → (∀ (i : Nat) (s : Rw α), L[i]? = some s → ∃ b, bs[i]? = some b ∧ s.l.length ≤ b) → (flatR L).length ≤ bs.sum := fun {L bs} hl h => by
  have := sum_pair (g := fun s : Rw α => s.l.length) L bs hl h
  unfold flatR
  rw [List.length_flatMap]
  exact this
theorem open_uplists {v : Value} {d : DataW H} {p : List MemPlace} {r : Reach} {b0 : Nat} (hv : Value.okWide Tryz.prog w r b0 41 v) (h : DataW.Trod enc Tryz.prog w base spare held 41 v d p) :
    ∃ (A : Option Addr) (c : Nat) (L : List (Rw Up)), v = .slice A L.length c ∧ L.length ≤ c ∧ c ≤ maxLen ∧ ULs w w.heap.size A L ∧ (Rows.uptoBulk d ≤ 1048576 → ∀ s ∈ L, ∀ u ∈ s.l, UOk u) ∧ (flatR L).length ≤ Rows.uptoBulk d ∧ L.length ≤ Rows.uptoBulk d ∧ ∀ s ∈ L, s.l.length ≤ s.c ∧ s.c ≤ maxLen := by
  obtain ⟨a0, n0, c0, rfl⟩ := okWide_slice Tryz.underlying41 hv
  obtain ⟨fuel, hf⟩ := h
  simp only [Value.cells] at hf
  obtain ⟨A, c, l, bs, e, h1, h2, h3, h4, h5, h6, h7⟩ := open_list_bulk (size := 1) (cells := Rw.cells (α := Up)) (OK := fun s b => s.l.length ≤ s.c ∧ s.c ≤ maxLen ∧ Ups w w.heap.size s.A s.l ∧ (b ≤ 1048576 → ∀ u ∈ s.l, UOk u) ∧ s.l.length + 1 ≤ b) Tryz.underlying41 (by kernel_rfl) (fun _ => by simp [Rw.cells]) (fun {n cs x} _ ht => open_upsC ht) hf
  change bs.sum + 1 ≤ Rows.uptoBulk d at h5
  have hlen := len_le_sum h6
  have hsum := sum_len (L := l) (bs := bs) (α := Up) h4 fun i s hi => by
    obtain ⟨b, hb, hs⟩ := h7 i s hi
    exact ⟨b, hb, by omega⟩
  refine ⟨A, c, l, by simpa using e, h1, h2, ⟨h3, fun s hs => ?_⟩, fun hb s hs => ?_, by omega, by omega, fun s hs => ?_⟩
  · obtain ⟨i, hi⟩ := List.getElem?_of_mem hs
    exact (h7 i s hi).elim fun _ h => h.2.2.2.1
  · obtain ⟨i, hi⟩ := List.getElem?_of_mem hs
    obtain ⟨b, hb1, hb2⟩ := h7 i s hi
    have := mem_le_sum (List.mem_of_getElem? hb1)
    exact hb2.2.2.2.1 (by omega)
  · obtain ⟨i, hi⟩ := List.getElem?_of_mem hs
    exact (h7 i s hi).elim fun _ h => ⟨h.2.1, h.2.2.1⟩
end
end Go.Proofs.YtllpfngmnccejaaGreat
