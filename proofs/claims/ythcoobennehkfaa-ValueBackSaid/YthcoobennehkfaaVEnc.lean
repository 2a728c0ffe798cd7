/- Encode, by the program. -/
import Derived.Test.YthcoobennehkfaaBldr
import Derived.Test.YthcoobennehkfaaNum
import Derived.Test.YthcoobennehkfaaTxt
import Derived.Test.YthcoobennehkfaaVCheck
namespace Go.Proofs.Ythcoobennehkfaa
open Go Go.RowKit

/-- the bytes of a value, of a row; what Encode hands back -/
def vB (v : Vl) : List UInt8 := if v.t then 1 :: txt v.s.data.toList else 0 :: enc (zig v.n)
def rowB (l : List Vl) : List UInt8 := enc l.length ++ l.flatMap vB
def encS (l : List Vl) : List UInt8 := if chkRow l = 0 then rowB l else []
theorem chk_case' (l : List Vl) : chkRow l = 0 ∧ l.all Vl.right = true ∧ l.length ≤ 8 ∨ chkRow l = 4 := by
  unfold chkRow
  by_cases h : (l.all Vl.right && decide (l.length ≤ 8)) = true
  · rw [if_pos h]; simp only [Bool.and_eq_true, decide_eq_true_eq] at h; exact .inl ⟨rfl, h.1, h.2⟩
  · rw [if_neg h]; exact .inr rfl
theorem vB_len {v : Vl} (h : v.right = true) (h2 : -9223372036854775808 ≤ v.n ∧ v.n ≤ 9223372036854775807) : (vB v).length ≤ 80 := by
  unfold vB
  unfold Vl.right at h
  split
  · rename_i ht
    rw [if_pos ht] at h
    simp only [Bool.and_eq_true, decide_eq_true_eq] at h
    have hs : v.s.data.toList.length = v.s.size := len_of v.s
    have := txt_len (l := v.s.data.toList) (by omega)
    rw [List.length_cons]; omega
  · have := enc_len10 (zig_lt h2.1 h2.2)
    rw [List.length_cons]; omega
theorem rows_len : ∀ {l : List Vl}, l.all Vl.right = true → (∀ v ∈ l, VOk v) → (l.flatMap vB).length ≤ 80 * l.length
  | [], _, _ => by simp
  | v :: l, h, hv => by
    rw [List.all_cons, Bool.and_eq_true] at h
    have h1 := rows_len h.2 fun u hu => hv u (List.mem_cons_of_mem _ hu)
    have h2 := vB_len h.1 (hv v (List.mem_cons_self ..)).2
    rw [List.flatMap_cons, List.length_append, List.length_cons]
    omega
theorem flatB_snoc {l : List Vl} {k : Nat} {v : Vl} (h : l[k]? = some v) : (l.take (k + 1)).flatMap vB = (l.take k).flatMap vB ++ vB v := by
  rw [List.take_add_one, h]; simp
theorem bldg_write {w : World} {b : Nat} {l m : List UInt8} (h : Lib.BuilderAt 64 5 b b (.pointer (some ⟨b, 0, none⟩)) (Lib.byteCells l ++ Lib.byteCells m) w) : Bldg w b (l ++ m) := by
  rw [← Lib.byteCells_append] at h
  exact .inr h
theorem Bldg.past {w w' : World} {b : Nat} {l : List UInt8} (h : Bldg w b l) (hb : Below w.heap.size w w') (hlt : b < w.heap.size) : Bldg w' b l := by
  have key : ∀ p, Lib.BuilderAt 64 5 b b p (Lib.byteCells l) w → Lib.BuilderAt 64 5 b b p (Lib.byteCells l) w' := by
    rintro p ⟨h1, v, h2, h3, h4⟩
    exact ⟨h1, v, (hb.block b hlt).trans h2, own_below h3 hb, h4⟩
  rcases h with h | h
  · exact .inl (key _ h)
  · exact .inr (key _ h)
theorem Bldg.inside {w : World} {b : Nat} {l : List UInt8} (h : Bldg w b l) : b < w.heap.size := by
  have key : ∀ p, Lib.BuilderAt 64 5 b b p (Lib.byteCells l) w → b < w.heap.size := by
    rintro p ⟨_, v, h2, _⟩
    exact (Array.getElem?_eq_some_iff.1 h2).1
  rcases h with h | h <;> exact key _ h
theorem writeS {b : Nat} {l : List UInt8} (m : List UInt8) {w : World} (h : Bldg w b l) (hlen : l.length + m.length ≤ 140737488355328) :
    Calls Try.prog 42 #[.pointer (some ⟨b, 0, none⟩), .string ⟨m.toArray⟩] w fun e w' => e = .returned (.tuple #[.int .i64 m.length, .nilIface]) ∧ Bldg w' b (l ++ m) ∧ Below b w w' ∧ ∀ k, k < w.heap.size → Free w b k → w'.heap[k]? = w.heap[k]? := by
  have hs : (⟨m.toArray⟩ : ByteArray).size = m.length := sizeL m
  refine (writeString_any b b (Lib.byteCells l) ⟨m.toArray⟩ w h (by rw [Lib.byteCells_length, hs]; exact hlen) (Nat.le_of_lt h.inside)).mono ?_
  rintro e w' ⟨he, hb, hw⟩
  refine ⟨by rw [he, hs], ?_, hw⟩
  rw [Lib.strCells_eq] at hb
  exact bldg_write hb
theorem writeB {b : Nat} {l : List UInt8} (c : UInt8) (x : Int) (hx : (c.toNat : Int) = x) {w : World} (h : Bldg w b l) (hlen : l.length + 1 ≤ 140737488355328) :
    Calls Try.prog 44 #[.pointer (some ⟨b, 0, none⟩), .int .u8 x] w fun e w' => e = .returned .nilIface ∧ Bldg w' b (l ++ [c]) ∧ Below b w w' ∧ ∀ k, k < w.heap.size → Free w b k → w'.heap[k]? = w.heap[k]? := by
  subst hx
  refine (writeByte_any b b (Lib.byteCells l) (c.toNat : Int) w h (by rw [Lib.byteCells_length]; exact hlen) (Nat.le_of_lt h.inside)).mono ?_
  rintro e w' ⟨he, hb, hw⟩
  exact ⟨he, bldg_write hb, hw⟩

/-- a block that was made behind the builder's is none of them -/
theorem Bldg.free {w : World} {b : Nat} {l : List UInt8} (h : Bldg w b l) (o : Obj) : Free (w.alloc o) b w.heap.size := by
  have hb := h.inside
  refine ⟨by omega, fun p v T r hv e => ?_⟩
  rw [Below.heap_alloc w o b hb] at hv
  have key : ∀ q, Lib.BuilderAt 64 5 b b q (Lib.byteCells l) w → False := by
    rintro q ⟨_, v', h2, h3, _⟩
    rw [h2] at hv
    simp only [Option.some.injEq, Obj.cells.injEq, Array.mk.injEq, List.cons.injEq, and_true] at hv
    obtain ⟨⟨_, rfl⟩, _⟩ := hv
    have := (h3.lt _ e).2
    omega
  rcases h with h | h <;> exact key _ h
theorem Bldg.more {w : World} {b : Nat} {l : List UInt8} (h : Bldg w b l) (o : Obj) : Bldg (w.alloc o) b l := h.past ((Below.refl _ _).alloc (Nat.le_refl _) _) h.inside
set_option maxRecDepth 100000 in
set_option maxHeartbeats 3200000 in
theorem encode_any (A : Option Addr) (c : Nat) (l : List Vl) (w : World) (hl : Vals w w.heap.size A l) (hn : l.length ≤ maxLen) (hok : ∀ v ∈ l, VOk v) :
    Calls Try.prog 19 #[.slice A l.length c] w fun e w' => e = .returned (.tuple #[.string ⟨(encS l).toArray⟩, .int .i64 (chkRow l)]) ∧ Below w.heap.size w w' := by
  have hchk := Lib.hid (vcheck_any A c l w hl hn (fun v hv => (hok v hv).1))
  have Hl := Lib.hid (And.intro hl hok)
  rcases chk_case' l with ⟨hz, hr, h8⟩ | hz
  · have hlen := rows_len hr hok
    have hle := enc_len10 (n := l.length) (by omega)
    have hE : encS l = enc l.length ++ l.flatMap vB := by unfold encS rowB; rw [if_pos hz]
    rw [hz] at hchk ⊢
    have HE := Lib.hid (And.intro hE hr)
    have hcount := fun W => Lib.hid (count_any (l.length : Int) W (by omega) (by omega))
    have hnum := fun n W h0 h1 => Lib.hid (number_any n W h0 h1)
    have htxt := fun s W h => Lib.hid (text_any s W h)
    rw [Int.toNat_natCast] at hcount
    clear hl hok hz hr hE
    go_enter Try.func19, Try.ntmps19
    go_wp2_with fail
    refine hchk.out.mono ?_
    rintro e w1 ⟨rfl, b1⟩
    have B1 := Lib.hid b1
    clear b1 hchk
    go_wp2_with fail
    refine (hcount _).out.mono ?_
    rintro e w2 ⟨rfl, b2⟩
    have hm := (Bldg.made w1).past b2 (by simp)
    have hsz : w.heap.size ≤ w1.heap.size := B1.out.size
    have B2 := Lib.hid (And.intro hm ((B1.out.alloc B1.out.size (.cells #[.pointer none, .slice none 0 0] 64)).trans (b2.mono (by simp; omega))))
    clear b2 hm hcount
    go_wp2_with fail
    refine (writeS (enc l.length) B2.out.1 (by simp; omega)).mono ?_
    rintro e w3 ⟨rfl, m3, b3, _⟩
    rw [List.nil_append] at m3
    have B3 := Lib.hid (And.intro m3 (B2.out.2.trans (b3.mono hsz)))
    clear m3 b3
    go_wp2_with fail
    go_loopw [20] (fun i wr => ∃ k : Nat, i = .int .i64 (k : Int) ∧ k ≤ l.length ∧ Bldg wr w1.heap.size (enc l.length ++ (l.take k).flatMap vB) ∧ Below w.heap.size w wr)
      (fun i _ => l.length - (intOf i).toNat)
    case atStart => exact ⟨0, rfl, by omega, by simpa using B3.out.1, B3.out.2⟩
    case round =>
      obtain ⟨k, rfl, hk, hm, hb⟩ := hrel
      by_cases hlt : k < l.length
      · have hx : l[k]? = some l[k] := List.getElem?_eq_getElem hlt
        obtain ⟨b, o, rfl, hB, hl⟩ := Hl.out.1 (by omega)
        obtain ⟨c0, c1, c2⟩ := (hl k _ hx).past hb hB
        obtain ⟨o1, o2, o3⟩ := Hl.out.2 _ (List.mem_of_getElem? hx)
        have hsn := flatB_snoc hx
        have hrv : l[k].right = true := List.all_eq_true.1 HE.out.2 _ (List.mem_of_getElem? hx)
        have htl : ((l.take k).flatMap vB).length ≤ 80 * k := by
          have h1 : (l.take k).all Vl.right = true := List.all_eq_true.2 fun v hv => List.all_eq_true.1 HE.out.2 v (List.mem_of_mem_take hv)
          have h2 := rows_len h1 fun v hv => Hl.out.2 v (List.mem_of_mem_take hv)
          rw [List.length_take, Nat.min_eq_left (by omega)] at h2
          exact h2
        generalize l[k] = v at *
        obtain ⟨pre, hpre⟩ : ∃ p, enc l.length ++ (l.take k).flatMap vB = p := ⟨_, rfl⟩
        have hpl : pre.length ≤ 1000 := by rw [← hpre, List.length_append]; omega
        rw [hpre] at hm
        have HH := Lib.hid (And.intro hb (And.intro hm (And.intro hsn hpre)))
        have hwz := hm.inside
        clear hb hm hx hl hsn hpre
        obtain ⟨t, n, s⟩ := v
        unfold Vl.right at hrv
        cases t
        · simp only [Bool.false_eq_true, if_false] at hrv
          clear hrv o1
          go_wp2_with fail
          clear c0 c1 c2
          refine (writeB 0 0 rfl (HH.out.2.1.more _) (by omega)).mono ?_
          rintro e w4 ⟨rfl, m4, b4, f4⟩
          have hown := Own.made wr 23 [.bool false, .int .i64 n, .string s]
          have hw4 : w4.heap[wr.heap.size]? = _ := (f4 wr.heap.size (by simp) (HH.out.2.1.free _)).trans hown
          have d1 : w4.cell? ⟨wr.heap.size, 1, none⟩ = some (.int .i64 n) := by simp [World.cell?, hw4]
          have H4 := Lib.hid (And.intro m4 b4)
          clear m4 b4 f4 hown hw4
          go_wp2_with fail
          refine (hnum n _ o2 o3).out.mono ?_
          rintro e w5 ⟨rfl, b5⟩
          have hle' := enc_len10 (zig_lt o2 o3)
          have H5 := Lib.hid (And.intro (H4.out.1.past b5 H4.out.1.inside) (H4.out.2.trans (b5.mono (by have := H4.out.1.inside; omega))))
          clear b5
          go_wp2_with fail
          refine (writeS (enc (zig n)) H5.out.1 (by simp; omega)).mono ?_
          rintro e w6 ⟨rfl, m6, b6, _⟩
          have H6 := Lib.hid (And.intro m6 (H5.out.2.trans b6))
          clear m6 b6
          go_wp2_with fail
          go_roundw
          case rel =>
            obtain ⟨hb, hm, hsn, hpre⟩ := HH.out
            refine ⟨k + 1, by go_num, by omega, ?_, (hb.alloc hb.size _).trans (H6.out.2.mono hsz)⟩
            have := H6.out.1
            rw [hsn, ← List.append_assoc, hpre]
            simpa [vB] using this
          case measure => simp [intOf]; omega
        · simp only [if_true, Bool.and_eq_true, decide_eq_true_eq] at hrv
          obtain ⟨_, hs64⟩ := hrv
          go_wp2_with fail
          clear c0 c1 c2
          refine (writeB 1 1 rfl (HH.out.2.1.more _) (by omega)).mono ?_
          rintro e w4 ⟨rfl, m4, b4, f4⟩
          have hown := Own.made wr 23 [.bool true, .int .i64 n, .string s]
          have hw4 : w4.heap[wr.heap.size]? = _ := (f4 wr.heap.size (by simp) (HH.out.2.1.free _)).trans hown
          have d1 : w4.cell? ⟨wr.heap.size, 2, none⟩ = some (.string s) := by simp [World.cell?, hw4]
          have H4 := Lib.hid (And.intro m4 b4)
          clear m4 b4 f4 hown hw4
          go_wp2_with fail
          refine (htxt s _ (by omega)).out.mono ?_
          rintro e w5 ⟨rfl, b5⟩
          have hss : s.data.toList.length = s.size := len_of s
          have hle' := txt_len (l := s.data.toList) (by omega)
          have H5 := Lib.hid (And.intro (H4.out.1.past b5 H4.out.1.inside) (H4.out.2.trans (b5.mono (by have := H4.out.1.inside; omega))))
          clear b5
          go_wp2_with fail
          refine (writeS (txt s.data.toList) H5.out.1 (by simp; omega)).mono ?_
          rintro e w6 ⟨rfl, m6, b6, _⟩
          have H6 := Lib.hid (And.intro m6 (H5.out.2.trans b6))
          clear m6 b6
          go_wp2_with fail
          go_roundw
          case rel =>
            obtain ⟨hb, hm, hsn, hpre⟩ := HH.out
            refine ⟨k + 1, by go_num, by omega, ?_, (hb.alloc hb.size _).trans (H6.out.2.mono hsz)⟩
            have := H6.out.1
            rw [hsn, ← List.append_assoc, hpre]
            simpa [vB] using this
          case measure => simp [intOf]; omega
      · have hk2 : k = l.length := by omega
        subst hk2
        rw [List.take_length] at hm
        have HH := Lib.hid (And.intro hb hm)
        clear hb hm
        go_wp2_with fail
        refine (Try.Builder_String_any w1.heap.size w1.heap.size _ _ HH.out.2 (Nat.le_of_lt HH.out.2.inside)).mono ?_
        rintro e w4 ⟨rfl, b4⟩
        go_wp2_with fail
        go_ret2
        exact ⟨by rw [HE.out.1]; rfl, HH.out.1.trans (b4.mono hsz)⟩
  · have hE : encS l = [] := by unfold encS; rw [if_neg (by omega)]
    rw [hz] at hchk ⊢
    have HE := Lib.hid hE
    clear hl hok hz hE
    go_enter Try.func19, Try.ntmps19
    go_wp2_with fail
    refine hchk.out.mono ?_
    rintro e w1 ⟨rfl, b1⟩
    go_wp2_with fail
    go_ret2
    exact ⟨by rw [HE.out]; rfl, b1⟩
end Go.Proofs.Ythcoobennehkfaa
