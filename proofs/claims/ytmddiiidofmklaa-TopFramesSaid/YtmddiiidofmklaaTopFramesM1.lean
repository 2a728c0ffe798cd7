/- Part 1 of the texts on which TopFrames rests: facts and contracts. -/
import Derived.Test.YtmddiiidofmklaaRows
import Derived.WalkKit
import Derived.ProofKit
import Derived.OpenShut
import Derived.JoinedCond
import Derived.Carry
import Derived.Lib.Hide
import Derived.Laws.IdiomStrings
import Derived.Maps.AppendAt
import Derived.Deep.QuietTactic
import Derived.Test.YtmddiiidofmklaaProg
import Derived.Outline
import Derived.Test.YtmddiiidofmklaaShelf
import Derived.OneCell
import Derived.Lib.Strings
import Derived.Lib.IndexBytes
import Derived.BigQuiet
import Derived.Deep.RegionWith
import Derived.Lib.Bytealg
namespace Go.Proofs.Ytmddiiidofmklaa
open Go.ChangeShapes Go.WideShapes Go.ChangeAt Go.RowKit

theorem own : ownKnob Try.prog.godebug = none := by kernel_rfl
theorem laidOut : laidOutB Try.prog = true := by kernel_rfl

section
variable {H : Type} {enc : TypeId × Value → H} {P : Program}
/-- what was read before the call reads so behind it -/
theorem trodAll_later (hl : laidOutB P = true) {W W' : World} (hb : Below W.heap.size W W') :
    ∀ {ts : List TypeId} {vs : List Value} {ds : List (DataW H)} {ps : List MemPlace}, (∀ t ∈ ts, P.readableRec t = true ∧ t < P.types.size) → (∀ x ∈ ps, x.block < W.heap.size) →
      DataW.TrodAll enc P W 0 (fun _ => true) true ts vs ds ps → DataW.TrodAll enc P W' 0 (fun b => decide (b < W.heap.size)) true ts vs ds ps
  | [], _, _, _, _, _, h => by
    obtain ⟨rfl, rfl, rfl⟩ := trodAll_nil h
    exact trodAll_mk0
  | t :: ts, _, _, _, hr, hlt, h => by
    obtain ⟨v, vs, d, ds, a, b, rfl, rfl, rfl, h1, h2⟩ := trodAll_cons h
    have h3 := hr t (List.mem_cons_self ..)
    exact trodAll_cons_mk (Below.trod hl h3.1 h3.2 h1 hb (fun x hx => hlt x (List.mem_append_left _ hx)))
      (trodAll_later hl hb (fun t ht => hr t (List.mem_cons_of_mem _ ht)) (fun x hx => hlt x (List.mem_append_right _ hx)) h2)

/-- what a law's statement asks behind the call -/
theorem post_law {f : Func} {s : ChangeSpec} {fresh handsOn : Bool} {W W' : World} {args : Array Value} {ds gs : List (DataW H)} {before : List MemPlace}
    (hl : laidOutB P = true) (hr : ∀ t ∈ f.params.toList, P.readableRec t = true ∧ t < P.types.size) (hB : P.underlying 4 = some .bool) (hres : f.resultTypes = #[4]) (hv : s.vars = [])
    (hW : DataW.Whole enc P f.params.toList s.vars false W args.toList ds gs before) (hs : s.fn H (ds ++ gs) = { results := [.lit (.bool true)], args := ds }) (hb : Below W.heap.size W W') :
    s.post enc P f false fresh handsOn false W args (.bool true) W' := by
  have hlt : ∀ p ∈ before, p.block < W.heap.size := fun p hp => hW.lt p hp
  have hW0 := hW
  obtain ⟨p, q, hA, hV, rfl, hz, hn⟩ := hW
  rw [hv] at hV
  obtain ⟨rfl, rfl⟩ := trodVars_none hV
  simp only [List.append_nil] at hlt hW0
  refine ⟨ds, [], p, [], p, [], by simpa using hW0, ?_, ?_, ?_, World.keptBut_mono (fun x hx => ⟨hx, .inr (.inl hx)⟩) (hb.frame (· ∈ p)), fun h => by cases h⟩
  · rw [hs, hres]; exact trodAll_cons_mk (shut_bool hB true) trodAll_mk0
  · rw [hs]; exact trodAll_later hl hb hr hlt hA
  · rw [hs, hv]; exact hV
end

section
variable {H : Type} {enc : TypeId × Value → H} {P : Program} {W : World} {base : Nat}
/-- an integer argument, with its kind's range behind 'wf' -/
theorem arg_int {t : TypeId} {k : IntKind} {v : Value} {d : DataW H} {ps : List MemPlace} (ht : P.underlying t = some (.int k)) (hval : Value.okWide P W .any base t v) (hd : DataW.Trod enc P W 0 (fun _ => true) true t v d ps) :
    ∃ n, v = .int k n ∧ d = .lit (.int k n) ∧ ps = [] ∧ (Lit.int k n).wf = true := open_int ht hval hd
theorem wf_u64 {n : Int} (h : (Lit.int .u64 n).wf = true) : 0 ≤ n ∧ n ≤ 18446744073709551615 := by simpa [Lit.wf, IntKind.min, IntKind.max, IntKind.signed, IntKind.bits] using h
theorem wf_i64 {n : Int} (h : (Lit.int .i64 n).wf = true) : -9223372036854775808 ≤ n ∧ n ≤ 9223372036854775807 := by simpa [Lit.wf, IntKind.min, IntKind.max, IntKind.signed, IntKind.bits] using h
theorem wf_u8 {n : Int} (h : (Lit.int .u8 n).wf = true) : 0 ≤ n ∧ n ≤ 255 := by simpa [Lit.wf, IntKind.min, IntKind.max, IntKind.signed, IntKind.bits] using h
theorem wf_u16 {n : Int} (h : (Lit.int .u16 n).wf = true) : 0 ≤ n ∧ n ≤ 65535 := by simpa [Lit.wf, IntKind.min, IntKind.max, IntKind.signed, IntKind.bits] using h
end
end Go.Proofs.Ytmddiiidofmklaa
namespace Go.Proofs.Ytmddiiidofmklaa
open Go Go.RowKit

/-- 'append(s, x)' onto a row of the call's own: the new element lies in a block of its own. -/
theorem wpList_push {P : Program} (w : World) {ops : Array Oper} {rest : List Oper} {o : Oper} {a : Act} {Q : Exit → Act → World → Prop} (hgd : o.guard = none) (s x : Operand) (t : TypeId)
    (ho : o.op = .call { callee := .builtin .append, args := #[s, x], argTypes := #[t, t] })
    (base : Nat) (e : TypeId) (i : TypeInfo) (z : Value) (size bytes : Nat) (ht : P.underlying t = some (.slice e)) (hi : P.info? e = some i) (hz : i.zero = some z)
    (hsize : i.size = size) (hby : i.bytes = bytes) (hzs : z.cells.size = size) (hsz : 0 < size)
    (v : Value) (n : Nat) (xs : List Value) (hs : a.eval s = v) (hown : w.ownsRow base e size v n xs)
    (news : Array Value) (hx : a.eval x = .slice (some ⟨w.heap.size, 0, none⟩) 1 1) (hl : news.size = size) (h1 : ∀ u ∈ news.toList, u.oneCell' = true)
    (h63 : n + 1 ≤ maxLen) (hbytes : (n + 1) * bytes ≤ 140737488355328) (hbase : base ≤ w.heap.size)
    (h : ∀ v' w', w'.ownsRow base e size v' (n + 1) (xs ++ news.toList) → Below base w w' → (v'.ownBlock = v.ownBlock ∨ v'.ownBlock = some (w.heap.size + 1)) → w.grownBy w' v.ownBlock → wpList P ops Q rest (a.put o.dst v') w') :
    wpList P ops Q (o :: rest) a (w.alloc (.cells news e)) := by
  have hc : ∀ j u, news.toList[j]? = some u → (w.alloc (.cells news e)).cell? ((⟨w.heap.size, 0, none⟩ : Addr).add j) = some u := by
    intro j u hu
    have : (⟨w.heap.size, 0, none⟩ : Addr).add j = ⟨w.heap.size, j, none⟩ := by unfold Addr.add; split <;> simp_all
    rw [this, World.cell?_alloc_at _ _ _ _ rfl]
    simpa using hu
  obtain ⟨v', w', hrun, ho', hg, _, hat⟩ := run_append_own_at (P := P) (w.alloc (.cells news e)) base t o.type e i z size bytes ht hi hz hsize hby hzs hsz v n xs (hown.alloc _)
    ⟨w.heap.size, 0, none⟩ 1 1 news.toList (by simpa using hl) hc h1 h63 hbytes (by simp; omega)
  refine wpList_plain hgd fun K hK => ?_
  unfold Oper.wp execOp
  simp only [ho, resolve, invoke, builtin, Sem.run_bind, Sem.run_pure, Result.andThen_ok, List.map_toArray, List.map_cons, List.map_nil, hs, hx, hrun]
  have hg2 : w.grownBy w' v.ownBlock := ⟨hg.os, hg.tape, hg.output, Nat.le_trans (by simp) hg.size, fun k hk hne => (hg.block k (by simp; omega) hne).trans (Below.heap_alloc w _ k hk)⟩
  exact hK _ _ (h v' w' ho' ((Below.refl base w).grown hg2 hbase (fun k hk => (hown.lt k hk).1)) (by simpa using hat) hg2)

/-- a byte in its cell -/
def cellB (b : UInt8) : Value := .int .u8 (b.toNat : Int)
theorem cellB_one (l : List UInt8) : ∀ u ∈ l.map cellB, u.oneCell' = true := by
  intro u hu; obtain ⟨b, _, rfl⟩ := List.mem_map.1 hu; rfl

/-- 'string(b)' of a row of bytes of the call's own -/
theorem run_string_own {P : Program} (w : World) (src dst e : TypeId) (base : Nat) (v : Value) (l : List UInt8) (n : Nat) (hs : P.underlying src = some (.slice e)) (he : P.underlying e = some (.int .u8))
    (hd : P.underlying dst = some .string) (hn : l.length = n) (hn0 : 0 < n) (h : w.ownsRow base e 1 v n (l.map cellB)) : (convert src dst v).run P w = .ok (.string ⟨l.toArray⟩) w := by
  rcases h.2 with ⟨_, h0⟩ | ⟨g, cap, cur, rfl, hb, hg, hr⟩
  · omega
  · subst hn
    refine run_convert_bytes_back w src dst e ⟨g, 0, none⟩ cap l hs he hd fun j hj => ?_
    refine h.cells (g := g) rfl j _ ?_
    simp [List.getElem?_eq_getElem hj, cellB]
theorem belows {a b c : World} (h : Below a.heap.size a b) (k : Below b.heap.size b c) : Below a.heap.size a c := h.trans (k.mono h.size)
/-- what the call owns stays owned behind a call that turns nothing older -/
theorem own_below {w w' : World} {base : Nat} {e : TypeId} {size : Nat} {v : Value} {n : Nat} {xs : List Value} (h : w.ownsRow base e size v n xs) (hb : Below w.heap.size w w') : w'.ownsRow base e size v n xs :=
  h.kept (row := none) ⟨hb.os, hb.tape, hb.output, hb.size, fun k hk _ => hb.block k hk⟩ (by cases v.ownBlock <;> simp)
/-- a frame that is older than both -/
theorem below_then {B : Nat} {a b c : World} (h : Below B a b) (hB : B ≤ a.heap.size) (k : Below b.heap.size b c) : Below B a c := h.trans (k.mono (Nat.le_trans hB h.size))
/-- draws turn no block -/
theorem below_draws {B : Nat} {a w : World} (h : Below B a w) (n : Nat) : Below B a (w.drewN n) := ⟨h.os, h.tape, h.output, h.size, h.block⟩
theorem str_ext {a b : ByteArray} (h : a.data.toList = b.data.toList) : a = b := by
  cases a; cases b; simp only at h; congr 1; exact Array.toList_inj.1 h
theorem str_app (a b : List UInt8) : (⟨a.toArray⟩ : ByteArray) ++ ⟨b.toArray⟩ = ⟨(a ++ b).toArray⟩ := by
  apply str_ext; simp
theorem str_app1 (a : List UInt8) (b : UInt8) : (⟨a.toArray⟩ : ByteArray) ++ ⟨#[b]⟩ = ⟨(a ++ [b]).toArray⟩ := str_app a [b]
theorem str_of (s : ByteArray) : s = ⟨s.data.toList.toArray⟩ := by apply str_ext; simp
theorem str_app_of (a : List UInt8) (s : ByteArray) : (⟨a.toArray⟩ : ByteArray) ++ s = ⟨(a ++ s.data.toList).toArray⟩ := by apply str_ext; simp
theorem sizeL (l : List UInt8) : (⟨l.toArray⟩ : ByteArray).size = l.length := by simp [ByteArray.size]
theorem len_of (s : ByteArray) : s.data.toList.length = s.size := by rw [Array.length_toList]; rfl
theorem extract_from (s : ByteArray) (k : Nat) : s.extract k s.size = ⟨(s.data.toList.drop k).toArray⟩ := by
  apply str_ext
  simp [ByteArray.data_extract, Array.toList_extract, List.extract_eq_take_drop]
  exact List.take_of_length_le (by simp)
theorem extract_upto (s : ByteArray) (k : Nat) : s.extract 0 k = ⟨(s.data.toList.take k).toArray⟩ := by
  apply str_ext
  simp [ByteArray.data_extract, Array.toList_extract, List.extract_eq_take_drop]
end Go.Proofs.Ytmddiiidofmklaa
namespace Go.Proofs.Ytmddiiidofmklaa
open Go.RowKit

/-- the bytes of a count -/
def enc (n : Nat) : List UInt8 :=
  if _h : n < 128 then [UInt8.ofNat n] else UInt8.ofNat (n % 128 + 128) :: enc (n / 128)
termination_by n
decreasing_by omega

theorem enc_lt {n : Nat} (h : n < 128) : enc n = [UInt8.ofNat n] := by rw [enc, dif_pos h]
theorem enc_ge {n : Nat} (h : 128 ≤ n) : enc n = UInt8.ofNat (n % 128 + 128) :: enc (n / 128) := by rw [enc, dif_neg (by omega)]

theorem enc_len : ∀ (m n : Nat), n < 128 ^ (m + 1) → (enc n).length ≤ m + 1 := by
  intro m
  induction m with
  | zero => intro n h; rw [enc_lt (by simpa using h)]; simp
  | succ m ih =>
    intro n h
    by_cases h1 : n < 128
    · rw [enc_lt h1]; simp
    · rw [enc_ge (by omega), List.length_cons]
      have := ih (n / 128) (by rw [Nat.div_lt_iff_lt_mul (by omega)]; rw [Nat.pow_succ] at h; exact h)
      omega
theorem enc_len10 {n : Nat} (h : n < 18446744073709551616) : (enc n).length ≤ 10 :=
  enc_len 9 n (by omega)
theorem enc_pos (n : Nat) : 1 ≤ (enc n).length := by
  by_cases h : n < 128
  · rw [enc_lt h]; simp
  · rw [enc_ge (by omega)]; simp

theorem or128 (x : Int) : bits .or .u8 (x % 256) 128 = x % 128 + 128 := by
  have h0 : 0 ≤ x % 256 := by omega
  have h1 : x % 256 < 256 := by omega
  have h2 : x % 128 = (x % 256) % 128 := by omega
  rw [h2]
  generalize x % 256 = y at h0 h1
  obtain ⟨k, rfl⟩ := Int.eq_ofNat_of_zero_le h0
  have hk : k < 256 := by omega
  have : ∀ k : Fin 256, bits .or .u8 ((k.val : Nat) : Int) 128 = ((k.val : Nat) : Int) % 128 + 128 := by decide +kernel
  exact this ⟨k, hk⟩
end Go.Proofs.Ytmddiiidofmklaa
namespace Go.Proofs.Ytmddiiidofmklaa
open Go.RowKit
/-- a number as a count -/
def zig (n : Int) : Nat := if n < 0 then (2 * (-1 - n) + 1).toNat else (2 * n).toNat
theorem zig_lt {n : Int} (h0 : -9223372036854775808 ≤ n) (h1 : n ≤ 9223372036854775807) : zig n < 18446744073709551616 := by
  unfold zig; split <;> omega
theorem enc_300 : enc 300 = [172, 2] := by rw [enc_ge (by omega), enc_lt (by omega)]; rfl
theorem enc_1 : enc 1 = [1] := by rw [enc_lt (by omega)]; rfl
end Go.Proofs.Ytmddiiidofmklaa
namespace Go.Proofs.Ytmddiiidofmklaa
open Go.RowKit

theorem infoU8 : (Try.prog.info? 5).map (fun i => (i.zero, i.size, i.bytes)) = some (some (.int .u8 0), 1, 1) := by kernel_rfl

set_option maxRecDepth 100000 in
set_option maxHeartbeats 800000 in
theorem count_any (n : Int) (w : World) (h0 : 0 ≤ n) (h1 : n ≤ 18446744073709551615) :
    Calls Try.prog 27 #[.int .u64 n] w fun e w' => e = .returned (.string ⟨(enc n.toNat).toArray⟩) ∧ Below w.heap.size w w' := by
  obtain ⟨i0, hi, hz0, hz1, hz2⟩ := info_parts infoU8
  go_enter Try.func27, Try.ntmps27
  go_wp2_with (at_make; refine wpList_make_own _ rfl _ _ 65 rfl w.heap.size 5 i0 (.int .u8 0) 1 Try.underlying65 hi hz0 hz1 _ _ _ 10 rfl rfl (by omega) ?b1 ?b2 ?b3 ?_)
  case b1 => omega
  case b2 => unfold maxLen; omega
  case b3 => exact Nat.le_refl _
  intro w1 hown hgr
  have hbw : Below w.heap.size w w1 := (Below.refl _ _).grown hgr (Nat.le_refl _) (by simp)
  go_wp2
  go_loopw [0, 3] (fun m v wr => ∃ (k : Nat) (pre : List UInt8), m = .int .u64 (k : Int) ∧ k ≤ 18446744073709551615 ∧ pre ++ enc k = enc n.toNat ∧
      wr.ownsRow w.heap.size 5 1 v pre.length (pre.map cellB) ∧ Below w.heap.size w wr)
    (fun m _ _ => (intOf m).toNat)
  case atStart => exact ⟨n.toNat, [], by rw [Int.toNat_of_nonneg h0], by omega, rfl, hown, hbw⟩
  case round =>
    obtain ⟨k, pre, rfl, hk, hpre, hown, hb⟩ := hrel
    have hlen : pre.length + 1 ≤ 10 := by
      have := congrArg List.length hpre
      have h2 := enc_len10 (n := n.toNat) (by omega)
      have h3 := enc_pos k
      simp at this; omega
    have Hpre := Lib.hid hpre; clear hpre
    have hU := Try.underlying65
    by_cases hc : 128 ≤ k
    · go_wp2_with (at_builtin; refine wpList_push _ rfl _ _ 65 rfl w.heap.size 5 i0 (.int .u8 0) 1 1 hU hi hz0 hz1 hz2 rfl (by decide) _ _ _ rfl hown _ rfl rfl ?c1 ?c2 ?c3 ?c4 ?_)
      case c1 => rfl
      case c2 => unfold maxLen; omega
      case c3 => omega
      case c4 => exact hb.size
      intro v' w' ho' hb' _ _
      rw [or128] at ho'
      have e1 : List.map cellB pre ++ [Value.int IntKind.u8 (↑k % 128 + 128)] = (pre ++ [UInt8.ofNat (k % 128 + 128)]).map cellB := by
        simp [cellB]; omega
      simp only [e1] at ho'
      go_wp2
      go_roundw
      case rel => exact ⟨k / 128, pre ++ [UInt8.ofNat (k % 128 + 128)], by go_num, by omega, by rw [← Hpre.out, enc_ge hc]; simp, by simpa using ho', hb.trans hb'⟩
      case measure => simp [intOf]; omega
    · go_wp2_with (at_builtin; refine wpList_push _ rfl _ _ 65 rfl w.heap.size 5 i0 (.int .u8 0) 1 1 hU hi hz0 hz1 hz2 rfl (by decide) _ _ _ rfl hown _ rfl rfl ?c1 ?c2 ?c3 ?c4 ?_)
      case c1 => rfl
      case c2 => unfold maxLen; omega
      case c3 => omega
      case c4 => exact hb.size
      intro v' w' ho' hb' _ _
      have e1 : List.map cellB pre ++ [Value.int IntKind.u8 ↑k] = (pre ++ [UInt8.ofNat k]).map cellB := by
        simp [cellB]; omega
      simp only [e1] at ho'
      have hcv := run_string_own (P := Try.prog) w' 65 9 5 _ v' _ _ hU Try.underlying5 Try.underlying9 (by simp) (by simp) ho'
      go_wp2
      go_ret
      exact ⟨by rw [← Hpre.out, enc_lt (by omega)]; rfl, hb.trans hb'⟩
end Go.Proofs.Ytmddiiidofmklaa
namespace Go.Proofs.Ytmddiiidofmklaa
open Go.RowKit

end Go.Proofs.Ytmddiiidofmklaa
namespace Go.Proofs.Ytmddiiidofmklaa
open Go.RowKit

theorem bytes_one {P : Program} (W : World) (src dst e : TypeId) (b : UInt8) (hs : P.underlying src = some (.slice e)) (he : P.underlying e = some (.int .u8)) (hd : P.underlying dst = some .string) :
    (convert src dst (.slice (some ⟨W.heap.size, 0, none⟩) 1 1)).run P (W.alloc (.cells #[.int .u8 (b.toNat : Int)] e)) = .ok (.string ⟨#[b]⟩) (W.alloc (.cells #[.int .u8 (b.toNat : Int)] e)) := by
  refine run_convert_bytes_back (W.alloc (.cells #[.int .u8 (b.toNat : Int)] e)) src dst e ⟨W.heap.size, 0, none⟩ 1 [b] hs he hd fun j hj => ?_
  have : j = 0 := by simp at hj; omega
  subst this
  have : (⟨W.heap.size, 0, none⟩ : Addr).add 0 = ⟨W.heap.size, 0, none⟩ := by simp [Addr.add]
  rw [this, World.cell?_alloc_at _ _ _ _ rfl]; rfl

end Go.Proofs.Ytmddiiidofmklaa
namespace Go.Proofs.Ytmddiiidofmklaa
open Go.RowKit

theorem join_two (a b : List UInt8) : Lib.join [a, b] [] = a ++ b := by simp [Lib.join, List.intercalate]

/-- two strings, one behind the other -/
theorem concat_two (a b : ByteArray) (w : World) (hab : a.size + b.size ≤ 140737488355328) :
    Calls Try.prog 12 #[.slice (some ⟨w.heap.size, 0, none⟩) 2 2] (w.alloc (.cells #[.string a, .string b] 9)) fun e w' => e = .returned (.string ⟨(a.data.toList ++ b.data.toList).toArray⟩) ∧ Below w.heap.size w w' := by
  have hc : ∀ (j : Nat) x, [a, b][j]? = some x → (w.alloc (.cells #[.string a, .string b] 9)).cell? ⟨w.heap.size, 0 + j, none⟩ = some (.string x) := by
    intro j x hx
    rw [World.cell?_alloc_at _ _ _ _ rfl]
    match j, hx with
    | 0, hx => simp at hx; subst hx; rfl
    | 1, hx => simp at hx; subst hx; rfl
    | j + 2, hx => simp at hx
  have hl : a.data.toList.length = a.size := by rw [Array.length_toList]; rfl
  have hl2 : b.data.toList.length = b.size := by rw [Array.length_toList]; rfl
  have hlen : (Lib.join ([a, b].map (·.data.toList)) (⟨#[]⟩ : ByteArray).data.toList).length ≤ 140737488355328 := by
    show (Lib.join [a.data.toList, b.data.toList] []).length ≤ _
    rw [join_two, List.length_append]; omega
  have H := Lib.hid (Try.strings_Join w.heap.size 0 2 [a, b] ⟨#[]⟩ (w.alloc (.cells #[.string a, .string b] 9)) hc (by simp) (by simp) (by simp) hlen)
  rw [show Lib.join ([a, b].map (·.data.toList)) (⟨#[]⟩ : ByteArray).data.toList = a.data.toList ++ b.data.toList from join_two _ _] at H
  clear hlen hc
  go_enter Try.func12, Try.ntmps12
  go_wp2_with fail
  refine H.out.mono ?_
  rintro e w' ⟨rfl, hb⟩
  go_wp2_with fail
  go_ret
  exact ⟨rfl, ((Below.refl _ _).alloc (Nat.le_refl _) _).trans (hb.mono (by simp))⟩

/-- the bytes of a text -/
def txt (l : List UInt8) : List UInt8 := enc l.length ++ l
theorem txt_len {l : List UInt8} (h : l.length < 18446744073709551616) : (txt l).length ≤ l.length + 10 := by
  unfold txt; rw [List.length_append]; have := enc_len10 h; omega

set_option maxRecDepth 100000 in
set_option maxHeartbeats 400000 in
theorem text_any (s : ByteArray) (w : World) (hs : s.size ≤ 140737488351232) :
    Calls Try.prog 13 #[.string s] w fun e w' => e = .returned (.string ⟨(txt s.data.toList).toArray⟩) ∧ Below w.heap.size w w' := by
  have hl : (enc s.size).length ≤ 10 := enc_len10 (by omega)
  have ht : txt s.data.toList = enc s.size ++ s.data.toList := by unfold txt; rw [len_of]
  have hd : (⟨(enc s.size).toArray⟩ : ByteArray).size = (enc s.size).length := sizeL _
  rw [ht]
  clear ht
  go_enter Try.func13, Try.ntmps13
  go_wp2_with fail
  refine (count_any _ _ (by omega) (by omega)).mono ?_
  rintro e w1 ⟨rfl, h1⟩
  rw [Int.toNat_natCast]
  go_wp2_with fail
  refine (concat_two ⟨(enc s.size).toArray⟩ s w1 (by omega)).mono ?_
  rintro e w2 ⟨rfl, h2⟩
  go_wp2_with fail
  go_ret
  exact ⟨rfl, h1.trans (h2.mono h1.size)⟩

end Go.Proofs.Ytmddiiidofmklaa
namespace Go.Proofs.Ytmddiiidofmklaa
open Go.RowKit

theorem ret_bool {a b : Bool} (h : a = b) : Ending.returned (.bool a) = .returned (.bool b) := by rw [h]

theorem count_300 (w : World) : Calls Try.prog 27 #[.int .u64 300] w fun e w' => e = .returned (.string ⟨#[172, 2]⟩) ∧ Below w.heap.size w w' :=
  (count_any 300 w (by omega) (by omega)).mono fun e w' ⟨he, hb⟩ => ⟨by rw [he]; show Ending.returned (.string ⟨(enc 300).toArray⟩) = _; rw [enc_300], hb⟩
end Go.Proofs.Ytmddiiidofmklaa
namespace Go.Proofs.Ytmddiiidofmklaa
open Go.RowKit

end Go.Proofs.Ytmddiiidofmklaa
namespace Go.Proofs.Ytmddiiidofmklaa
open Go.RowKit

/-- the register shifted by one bit -/
def bitS (c : Nat) : Nat := if c % 2 = 1 then c / 2 ^^^ 2197175160 else c / 2
def bitsS : Nat → Nat → Nat
  | 0, c => c
  | n + 1, c => bitsS n (bitS c)
/-- a byte taken in -/
def byteS (c b : Nat) : Nat := bitsS 8 (c ^^^ b)
def regS (c : Nat) (l : List UInt8) : Nat := l.foldl (fun c b => byteS c b.toNat) c
/-- the checksum -/
def sumS (l : List UInt8) : Nat := 4294967295 - regS 4294967295 l

theorem xor_lt {a b : Nat} (ha : a < 4294967296) (hb : b < 4294967296) : a ^^^ b < 4294967296 := Nat.xor_lt_two_pow (n := 32) ha hb
theorem bitS_lt {c : Nat} (h : c < 4294967296) : bitS c < 4294967296 := by
  unfold bitS; split
  · exact xor_lt (by omega) (by omega)
  · omega
theorem bitsS_lt : ∀ (n c : Nat), c < 4294967296 → bitsS n c < 4294967296
  | 0, _, h => h
  | n + 1, _, h => bitsS_lt n _ (bitS_lt h)
theorem bitsS_succ : ∀ (n c : Nat), bitsS (n + 1) c = bitS (bitsS n c)
  | 0, _ => rfl
  | n + 1, c => by rw [bitsS, bitsS_succ n, ← bitsS]
theorem byteS_lt {c b : Nat} (hc : c < 4294967296) (hb : b < 256) : byteS c b < 4294967296 := bitsS_lt 8 _ (xor_lt hc (by omega))
theorem regS_lt : ∀ (l : List UInt8) (c : Nat), c < 4294967296 → regS c l < 4294967296
  | [], _, h => h
  | b :: l, c, h => regS_lt l _ (byteS_lt h b.toNat_lt)
theorem sumS_lt (l : List UInt8) : sumS l < 4294967296 := by unfold sumS; omega
theorem regS_snoc (c : Nat) (l : List UInt8) (b : UInt8) : regS c (l ++ [b]) = byteS (regS c l) b.toNat := by simp [regS]
theorem take_snoc (s : ByteArray) (k : Nat) (h : k < s.size) : s.data.toList.take (k + 1) = s.data.toList.take k ++ [s[k]] := by
  rw [List.take_succ_eq_append_getElem (by simpa using h)]; rfl
theorem regS_at (s : ByteArray) (k : Nat) (h : k < s.size) : regS 4294967295 (s.data.toList.take (k + 1)) = byteS (regS 4294967295 (s.data.toList.take k)) s[k].toNat := by
  rw [take_snoc s k h, regS_snoc]

theorem xor_walk {a b : Nat} (ha : a < 4294967296) (hb : b < 4294967296) : bits .xor .u32 (a : Int) (b : Int) = ((a ^^^ b : Nat) : Int) := u32_xor_nat a b ha hb
theorem and1_walk {a : Nat} (ha : a < 4294967296) : bits .and .u32 (a : Int) 1 = ((a % 2 : Nat) : Int) := by
  have := u32_and_nat a 1 ha (by omega)
  rw [Nat.and_one_is_mod] at this
  exact this
theorem bitS_odd {c : Nat} (h : c % 2 = 1) : bitS c = c / 2 ^^^ 2197175160 := by unfold bitS; rw [if_pos h]
theorem bitS_even {c : Nat} (h : ¬ c % 2 = 1) : bitS c = c / 2 := by unfold bitS; rw [if_neg h]
theorem grown_set {w w' : World} {b : Nat} (h : w.grownBy w' (some b)) (o : Nat) (v : Value) : w.grownBy (w'.setCell ⟨b, o, none⟩ v) (some b) :=
  ⟨h.os, h.tape, h.output, by simpa [World.setCell] using h.size, fun k hk hne => (Below.heap_setCell _ _ _ _ (by rintro rfl; exact hne rfl)).trans (h.block k hk hne)⟩
theorem grown_same {a b c : World} {r : Option Nat} (h : a.grownBy b r) (k : b.grownBy c r) : a.grownBy c r :=
  ⟨k.os.trans h.os, k.tape.trans h.tape, k.output.trans h.output, Nat.le_trans h.size k.size, fun i hi hne => (k.block i (Nat.lt_of_lt_of_le hi h.size) hne).trans (h.block i hi hne)⟩
theorem not_nat {d : Nat} (h : d < 4294967296) : 4294967295 ^^^ d = 4294967295 - d := by
  have h1 : (~~~ (BitVec.ofNat 32 d)).toNat = 4294967295 - d := by
    rw [BitVec.toNat_not, BitVec.toNat_ofNat, Nat.mod_eq_of_lt h]
  have h2 : ~~~ (BitVec.ofNat 32 d) = BitVec.allOnes 32 ^^^ BitVec.ofNat 32 d := by
    rw [BitVec.allOnes_xor]
  rw [h2, BitVec.toNat_xor, BitVec.toNat_allOnes, BitVec.toNat_ofNat, Nat.mod_eq_of_lt h] at h1
  exact h1
theorem not_walk {d : Nat} (h : d < 4294967296) : bits .xor .u32 IntKind.u32.max (d : Int) = ((4294967295 - d : Nat) : Int) := by
  rw [← not_nat h]
  exact xor_walk (a := 4294967295) (by omega) h
end Go.Proofs.Ytmddiiidofmklaa
namespace Go.Proofs.Ytmddiiidofmklaa
open Go.RowKit

/-- block b is the register alone -/
def IsReg (w : World) (b c : Nat) : Prop := w.heap[b]? = some (.cells #[.int .u32 (c : Int)] 59 (0, 0))

set_option maxRecDepth 100000 in
set_option maxHeartbeats 400000 in
theorem step_any (b c x : Nat) (w : World) (hr : IsReg w b c) (hc : c < 4294967296) (hx : x < 256) :
    Calls Try.prog 25 #[.pointer (some ⟨b, 0, none⟩), .int .u8 (x : Int)] w fun e w' => e = .returned (.tuple #[]) ∧ IsReg w' b (byteS c x) ∧ w.grownBy w' (some b) := by
  have hcell := cell_of_one hr
  have hfree := free_of_one hr
  have hxor := xor_walk hc (show x < 4294967296 by omega)
  go_enter Try.func25, Try.ntmps25
  go_wp2
  have h0 : c ^^^ x < 4294967296 := xor_lt hc (by omega)
  go_loopw [12] (fun i wr => ∃ k : Nat, k ≤ 8 ∧ i = .int .i64 (k : Int) ∧ IsReg wr b (bitsS k (c ^^^ x)) ∧ w.grownBy wr (some b)) (fun i _ => 8 - (intOf i).toNat)
  case atStart => exact ⟨0, by omega, rfl, one_setCell hr, grown_set (World.grownBy.refl w _) _ _⟩
  case round =>
    obtain ⟨k, hk, rfl, hr', hg⟩ := hrel
    clear hcell hfree hxor
    have hlt := bitsS_lt k _ h0
    have hs := bitsS_succ k (c ^^^ x)
    have Hr := Lib.hid hr'
    generalize hd : bitsS k (c ^^^ x) = d at hr' hlt hs
    have Hd := Lib.hid hd; clear hd
    have hcell := cell_of_one hr'
    have hfree := free_of_one hr'
    have hand := and1_walk hlt
    have hxor : bits .xor .u32 ((d : Int) / 2) 2197175160 = ((d / 2 ^^^ 2197175160 : Nat) : Int) := xor_walk (show d / 2 < 4294967296 by omega) (show 2197175160 < 4294967296 by omega)
    have Hs := Lib.hid hs; clear hs
    by_cases h8 : k < 8
    · by_cases ho : d % 2 = 1
      · have ht : (((d : Int) % 2) == 1) = true := by simp; omega
        have hs := Lib.hid (Hs.out.trans (bitS_odd ho))
        go_wp2
        go_roundw
        case rel => exact ⟨k + 1, by omega, by go_num, by rw [hs.out]; exact one_setCell (one_setCell hr'), grown_set (grown_set hg _ _) _ _⟩
        case measure => simp [intOf]; omega
      · have ht : (((d : Int) % 2) == 1) = false := by simp; omega
        have hs := Lib.hid (Hs.out.trans (bitS_even ho))
        go_wp2
        go_roundw
        case rel => exact ⟨k + 1, by omega, by go_num, by rw [hs.out]; exact one_setCell hr', grown_set hg _ _⟩
        case measure => simp [intOf]; omega
    · obtain rfl : k = 8 := by omega
      go_wp2
      go_end0
      exact ⟨rfl, Hr.out, hg⟩

set_option maxRecDepth 100000 in
set_option maxHeartbeats 400000 in
theorem each_any (b : Nat) (s : ByteArray) (w : World) (hr : IsReg w b 4294967295) (hs : s.size ≤ maxLen) :
    Calls Try.prog 24 #[.string s, .func (.func 25) #[.pointer (some ⟨b, 0, none⟩)] #[]] w fun e w' => e = .returned (.tuple #[]) ∧ IsReg w' b (regS 4294967295 s.data.toList) ∧ w.grownBy w' (some b) := by
  unfold maxLen at hs
  go_enter Try.func24, Try.ntmps24
  go_wp2
  go_loopw [7] (fun i wr => ∃ k : Nat, k ≤ s.size ∧ i = .int .i64 (k : Int) ∧ IsReg wr b (regS 4294967295 (s.data.toList.take k)) ∧ w.grownBy wr (some b)) (fun i _ => s.size - (intOf i).toNat)
  case atStart => exact ⟨0, by omega, rfl, hr, World.grownBy.refl w _⟩
  case round =>
    obtain ⟨k, hk, rfl, hr', hg⟩ := hrel
    have hlt := regS_lt (s.data.toList.take k) 4294967295 (by omega)
    by_cases hk' : k < s.size
    · have Hs := Lib.hid (regS_at s k hk')
      have Hr := Lib.hid hr'; clear hr'
      generalize regS 4294967295 (s.data.toList.take k) = d at hlt Hs Hr
      have hb : s[k].toNat < 256 := s[k].toNat_lt
      go_wp2_with fail
      refine (step_any b d s[k].toNat _ Hr.out hlt hb).mono ?_
      rintro e w1 ⟨rfl, hr1, hg1⟩
      go_wp2_with fail
      go_roundw
      case rel => exact ⟨k + 1, by omega, by go_num, by rw [Hs.out]; exact hr1, grown_same hg hg1⟩
      case measure => simp [intOf]; omega
    · obtain rfl : k = s.size := by omega
      rw [List.take_of_length_le (by simp)] at hr'
      have Hr := Lib.hid hr'; clear hr'
      go_wp2
      go_end0
      exact ⟨rfl, Hr.out, hg⟩

set_option maxRecDepth 100000 in
set_option maxHeartbeats 400000 in
theorem sum_any (s : ByteArray) (w : World) (hs : s.size ≤ maxLen) :
    Calls Try.prog 11 #[.string s] w fun e w' => e = .returned (.int .u32 (sumS s.data.toList : Int)) ∧ Below w.heap.size w w' := by
  have hmf : ∀ (fn : Fn) (first cap : Array Value) (w : World), (Instr.makeFunc fn first cap).run Try.prog w = .ok (.func fn first cap) w := fun _ _ _ _ => rfl
  have hsl := Lib.hid (regS_lt s.data.toList 4294967295 (by omega))
  have hdef : sumS s.data.toList = 4294967295 - regS 4294967295 s.data.toList := rfl
  have Hdef := Lib.hid hdef; clear hdef
  go_enter Try.func11, Try.ntmps11
  go_wp2_with fail
  refine (each_any w.heap.size s _ (heap_alloc_new w _) hs).mono ?_
  rintro e w1 ⟨rfl, hr1, hg1⟩
  have hcell := cell_of_one hr1
  have hb : Below w.heap.size w w1 := ((Below.refl _ _).alloc (Nat.le_refl _) _).grown hg1 (by simp) (by simp)
  generalize regS 4294967295 s.data.toList = d at hsl Hdef hcell
  have hlt := hsl.out
  go_wp2
  go_ret
  refine ⟨?_, hb⟩
  rw [Hdef.out, ← not_walk hlt]
  rfl
end Go.Proofs.Ytmddiiidofmklaa
namespace Go.Proofs.Ytmddiiidofmklaa
open Go.RowKit

theorem sumS_digits : sumS [49, 50, 51, 52, 53, 54, 55, 56, 57] = 3808858755 := by decide +kernel

end Go.Proofs.Ytmddiiidofmklaa
namespace Go.Proofs.Ytmddiiidofmklaa
open Go.RowKit

/-- four bytes of a checksum, the least one first -/
def le4 (n : Nat) : List UInt8 := [UInt8.ofNat (n % 256), UInt8.ofNat (n / 256 % 256), UInt8.ofNat (n / 65536 % 256), UInt8.ofNat (n / 16777216 % 256)]
/-- the checksum as a frame has it -/
def sealS (l : List UInt8) : List UInt8 := le4 (sumS l)
/-- a frame, and why not -/
def frm (l : List UInt8) : List UInt8 × Int := if 65536 < l.length then ([], 2) else (txt l ++ sealS l, 0)
def pairS (r : List UInt8 × Int) : Value := .tuple #[.string ⟨r.1.toArray⟩, .int .i64 r.2]
theorem le4_len (n : Nat) : (le4 n).length = 4 := rfl

theorem bytes_four {P : Program} (W : World) (src dst e : TypeId) (l : List UInt8) (hl : l.length = 4) (hs : P.underlying src = some (.slice e)) (he : P.underlying e = some (.int .u8)) (hd : P.underlying dst = some .string) :
    (convert src dst (.slice (some ⟨W.heap.size, 0, none⟩) 4 4)).run P (W.alloc (.cells (l.map cellB).toArray e)) = .ok (.string ⟨l.toArray⟩) (W.alloc (.cells (l.map cellB).toArray e)) := by
  rw [← hl]
  refine run_convert_bytes_back (W.alloc (.cells (l.map cellB).toArray e)) src dst e ⟨W.heap.size, 0, none⟩ l.length l hs he hd fun j hj => ?_
  have : (⟨W.heap.size, 0, none⟩ : Addr).add j = ⟨W.heap.size, j, none⟩ := by unfold Addr.add; split <;> simp_all
  rw [this, World.cell?_alloc_at _ _ _ _ rfl]
  simp [List.getElem?_eq_getElem hj, cellB]

set_option maxRecDepth 100000 in
set_option maxHeartbeats 800000 in
theorem seal_any (s : ByteArray) (w : World) (hs : s.size ≤ maxLen) :
    Calls Try.prog 14 #[.string s] w fun e w' => e = .returned (.string ⟨(sealS s.data.toList).toArray⟩) ∧ Below w.heap.size w w' := by
  have hn := sumS_lt s.data.toList
  have H := fun w => Lib.hid (sum_any s w hs)
  have ht : sealS s.data.toList = le4 (sumS s.data.toList) := rfl
  rw [ht]
  generalize sumS s.data.toList = n at hn H ⊢
  have hmk : ∀ w, (Instr.makeSlice 65 (.int .i64 4) (.int .i64 4)).run Try.prog w = .ok (.slice (some ⟨w.heap.size, 0, none⟩) 4 4) (w.alloc (.cells #[.int .u8 0, .int .u8 0, .int .u8 0, .int .u8 0] 5)) := fun _ => by kernel_rfl
  have hcv := fun w => bytes_four (P := Try.prog) w 65 9 5 (le4 n) rfl Try.underlying65 Try.underlying5 Try.underlying9
  have e1 : ((le4 n).map cellB).toArray = #[.int .u8 ((n : Int) % 256), .int .u8 ((n : Int) / 256 % 256), .int .u8 ((n : Int) / 65536 % 256), .int .u8 ((n : Int) / 16777216)] := by
    simp [le4, cellB]; omega
  rw [e1] at hcv
  clear e1 ht
  go_enter Try.func14, Try.ntmps14
  go_wp2_with fail
  refine (H _).out.mono ?_
  rintro e w1 ⟨rfl, h1⟩
  go_wp2
  refine wp_loop_rounds 5 ?_
  rw [rounds_succ]
  go_wp2
  rw [rounds_succ]
  go_wp2
  rw [rounds_succ]
  go_wp2
  rw [rounds_succ]
  go_wp2
  rw [rounds_succ]
  go_wp2
  go_ret
  exact ⟨rfl, h1.alloc h1.size _⟩

theorem frm_long {l : List UInt8} (h : 65536 < l.length) : frm l = ([], 2) := by unfold frm; rw [if_pos h]
theorem frm_fits {l : List UInt8} (h : ¬ 65536 < l.length) : frm l = (txt l ++ sealS l, 0) := by unfold frm; rw [if_neg h]
theorem seal_len (l : List UInt8) : (sealS l).length = 4 := rfl

set_option maxRecDepth 100000 in
set_option maxHeartbeats 400000 in
theorem frame_any (s : ByteArray) (w : World) (hs : s.size ≤ maxLen) :
    Calls Try.prog 5 #[.string s] w fun e w' => e = .returned (pairS (frm s.data.toList)) ∧ Below w.heap.size w w' := by
  have hms := hs
  unfold maxLen at hs
  by_cases h : 65536 < s.size
  · rw [frm_long (by rw [len_of]; exact h)]
    go_enter Try.func5, Try.ntmps5
    go_wp2_with fail
    go_ret2
    exact ⟨rfl, Below.refl _ _⟩
  · rw [frm_fits (by rw [len_of]; exact h)]
    have hl1 := txt_len (l := s.data.toList) (by rw [len_of]; omega)
    have hl2 := sizeL (txt s.data.toList)
    have hl3 := sizeL (sealS s.data.toList)
    have hl4 := seal_len s.data.toList
    have hl5 := len_of s
    go_enter Try.func5, Try.ntmps5
    go_wp2_with fail
    refine (text_any s _ (by omega)).mono ?_
    rintro e w1 ⟨rfl, h1⟩
    go_wp2_with fail
    refine (seal_any s _ hms).mono ?_
    rintro e w2 ⟨rfl, h2⟩
    go_wp2_with fail
    refine (concat_two ⟨(txt s.data.toList).toArray⟩ ⟨(sealS s.data.toList).toArray⟩ w2 (by omega)).mono ?_
    rintro e w3 ⟨rfl, h3⟩
    go_wp2_with fail
    go_ret2
    exact ⟨rfl, h1.trans ((h2.trans (h3.mono h2.size)).mono h1.size)⟩

end Go.Proofs.Ytmddiiidofmklaa
namespace Go.Proofs.Ytmddiiidofmklaa
open Go.RowKit

/-- what is taken from the k-th byte on, n being what was gathered: the count, the rest, why not -/
def tc : Nat → Nat → List UInt8 → Nat × List UInt8 × Int
  | _, _, [] => (0, [], 3)
  | k, n, b :: l =>
    if (k = 9 ∧ 1 < b.toNat) ∨ (0 < k ∧ b.toNat = 0) then (0, [], 4)
    else if b.toNat < 128 then (n + b.toNat % 128 * 128 ^ k, l, 0) else tc (k + 1) (n + b.toNat % 128 * 128 ^ k) l

theorem drop_at (s : ByteArray) (k : Nat) (h : k < s.size) : s.data.toList.drop k = s[k] :: s.data.toList.drop (k + 1) := by
  rw [List.drop_eq_getElem_cons (by simpa using h)]; rfl

theorem tc_end (s : ByteArray) (k n : Nat) (h : s.size ≤ k) : tc k n (s.data.toList.drop k) = (0, [], 3) := by
  rw [List.drop_eq_nil_of_le (by simpa using h)]; rfl
theorem tc_bad (s : ByteArray) (k n : Nat) (h : k < s.size) (hb : (k = 9 ∧ 1 < s[k].toNat) ∨ (0 < k ∧ s[k].toNat = 0)) : tc k n (s.data.toList.drop k) = (0, [], 4) := by
  rw [drop_at s k h, tc, if_pos hb]
theorem tc_last (s : ByteArray) (k n : Nat) (h : k < s.size) (hb : ¬ ((k = 9 ∧ 1 < s[k].toNat) ∨ (0 < k ∧ s[k].toNat = 0))) (hl : s[k].toNat < 128) :
    tc k n (s.data.toList.drop k) = (n + s[k].toNat % 128 * 128 ^ k, s.data.toList.drop (k + 1), 0) := by
  rw [drop_at s k h, tc, if_neg hb, if_pos hl]
theorem tc_more (s : ByteArray) (k n : Nat) (h : k < s.size) (hb : ¬ ((k = 9 ∧ 1 < s[k].toNat) ∨ (0 < k ∧ s[k].toNat = 0))) (hl : ¬ s[k].toNat < 128) :
    tc k n (s.data.toList.drop k) = tc (k + 1) (n + s[k].toNat % 128 * 128 ^ k) (s.data.toList.drop (k + 1)) := by
  rw [drop_at s k h, tc, if_neg hb, if_neg hl]

theorem byte_lt (b : UInt8) : b.toNat < 256 := b.toNat_lt
/-- what has been gathered stays in its place -/
theorem gather_lt {k n x : Nat} (hn : n < 128 ^ k) : n + x % 128 * 128 ^ k < 128 ^ (k + 1) := by
  have h : x % 128 < 128 := Nat.mod_lt _ (by omega)
  rw [Nat.pow_succ]
  have : x % 128 * 128 ^ k ≤ 127 * 128 ^ k := Nat.mul_le_mul_right _ (by omega)
  omega
theorem pow9 {k : Nat} (h : k ≤ 9) : 128 ^ k ≤ 9223372036854775808 := by
  have : 128 ^ k ≤ 128 ^ 9 := Nat.pow_le_pow_right (by omega) h
  omega

theorem andNot128 (b : UInt8) : bits .andNot .u8 (b.toNat : Int) 128 = (b.toNat : Int) % 128 := by
  have : ∀ k : Fin 256, bits .andNot .u8 ((k.val : Nat) : Int) 128 = ((k.val : Nat) : Int) % 128 := by decide +kernel
  exact this ⟨b.toNat, b.toNat_lt⟩

/-- the bits of what was gathered and of what comes do not meet: or is a sum -/
theorem or_gather {k n x : Nat} (hk : k ≤ 9) (hn : n < 128 ^ k) (hx : x % 128 * 128 ^ k < 18446744073709551616) : bits .or .u64 (n : Int) ((x % 128 * 128 ^ k : Nat) : Int) = ((n + x % 128 * 128 ^ k : Nat) : Int) := by
  have hp := pow9 hk
  have e : 128 ^ k = 2 ^ (7 * k) := by rw [Nat.pow_mul]
  have h1 : n ||| x % 128 * 128 ^ k = n + x % 128 * 128 ^ k := by
    rw [e] at hn ⊢
    rw [Nat.mul_comm, Nat.or_comm, ← Nat.two_pow_add_eq_or_of_lt hn]; omega
  rw [u64_or_nat _ _ (by omega) hx, h1]
theorem fits {k x : Nat} (hk : k ≤ 9) (h9 : k = 9 → x ≤ 1) : x % 128 * 128 ^ k < 18446744073709551616 := by
  by_cases h : k = 9
  · subst h
    have := h9 rfl
    have : x = 0 ∨ x = 1 := by omega
    rcases this with rfl | rfl <;> decide
  · have : 128 ^ k ≤ 128 ^ 8 := Nat.pow_le_pow_right (by omega) (by omega)
    have h2 : x % 128 ≤ 127 := by omega
    have : x % 128 * 128 ^ k ≤ 127 * 128 ^ 8 := Nat.mul_le_mul h2 this
    omega
theorem or_walk {k n x : Nat} (hk : k ≤ 9) (h9 : k = 9 → x ≤ 1) (hn : n < 128 ^ k) :
    bits .or .u64 (n : Int) (IntKind.u64.wrap ((x : Int) % 128 * 2 ^ (7 * k))) = ((n + x % 128 * 128 ^ k : Nat) : Int) := by
  have hf := fits hk h9
  have e : ((x : Int) % 128 * 2 ^ (7 * k)) = ((x % 128 * 128 ^ k : Nat) : Int) := by
    rw [show (128 : Nat) ^ k = 2 ^ (7 * k) by rw [Nat.pow_mul]]
    simp
  rw [e, IntWalk.u64_in _ ⟨by omega, by omega⟩, or_gather hk hn hf]
end Go.Proofs.Ytmddiiidofmklaa
namespace Go.Proofs.Ytmddiiidofmklaa
open Go.RowKit

/-- three results: a count, the rest, why not -/
def triple (r : Nat × List UInt8 × Int) : Value := .tuple #[.int .u64 (r.1 : Int), .string ⟨r.2.1.toArray⟩, .int .i64 r.2.2]

set_option maxRecDepth 100000 in
set_option maxHeartbeats 800000 in
theorem takeCount_any (s : ByteArray) (w : World) (hs : s.size ≤ maxLen) :
    Calls Try.prog 39 #[.string s] w fun e w' => e = .returned (triple (tc 0 0 s.data.toList)) ∧ Below w.heap.size w w' := by
  unfold maxLen at hs
  go_enter Try.func39, Try.ntmps39
  go_wp2
  go_loop [5, 10] (fun n i => ∃ (N k : Nat), n = .int .u64 (N : Int) ∧ i = .int .i64 (k : Int) ∧ k ≤ s.size ∧ k ≤ 9 ∧ N < 128 ^ k ∧ tc 0 0 s.data.toList = tc k N (s.data.toList.drop k))
    (fun _ i => s.size - (intOf i).toNat)
  case atStart => exact ⟨0, 0, rfl, rfl, by omega, by omega, by omega, by simp⟩
  case round =>
    obtain ⟨N, k, rfl, rfl, hk, hk9, hN, htc⟩ := hrel
    have Htc := Lib.hid htc; clear htc
    have HN := Lib.hid hN; clear hN
    by_cases hlt : k < s.size
    · by_cases hbad : (k = 9 ∧ 1 < s[k].toNat) ∨ (0 < k ∧ s[k].toNat = 0)
      · have Hres := Lib.hid (Htc.out.trans (tc_bad s k N hlt hbad))
        have Hbad := Lib.hid hbad; clear hbad
        go_wp2
        all_goals first
          | (go_ret3; exact ⟨by rw [Hres.out]; rfl, Below.refl _ _⟩)
          | (exfalso; have h := Hbad.out; simp_all; omega)
          | (exfalso; have h := Hbad.out; simp_all; done)
      · have hor := or_walk (x := s[k].toNat) hk9 (fun h => by omega) HN.out
        have ha := andNot128 s[k]
        have hb1 : s[k].toNat < 256 := s[k].toNat_lt
        have hg := Lib.hid (gather_lt (x := s[k].toNat) HN.out)
        have hk8 : ¬ s[k].toNat < 128 → k < 9 := by omega
        have h3 : (k = 9 ∧ s[k].toNat = 1) ∨ k = 0 ∨ (0 < k ∧ k ≠ 9 ∧ s[k].toNat ≠ 0) := by omega
        have Hbad := Lib.hid hbad; clear hbad
        generalize hM : N + s[k].toNat % 128 * 128 ^ k = M at hor hg
        have HM := Lib.hid hM; clear hM
        have tests : (((k : Int) == 9) = true ∧ decide ((1 : Int) < (s[k].toNat : Int)) = false ∧ 0 < k ∧ ((s[k].toNat : Int) == 0) = false) ∨
            (((k : Int) == 9) = false ∧ ¬ 0 < k) ∨ (((k : Int) == 9) = false ∧ 0 < k ∧ ((s[k].toNat : Int) == 0) = false) := by
          rcases h3 with ⟨h3, h4⟩ | h3 | ⟨h3, h4, h5⟩
          · left; simp; omega
          · right; left; simp; omega
          · right; right; simp; omega
        clear h3
        by_cases hl : s[k].toNat < 128
        · have Hres := Lib.hid (Htc.out.trans (tc_last s k N hlt Hbad.out hl))
          rcases tests with ⟨t1, t2, t3, t4⟩ | ⟨t1, t2⟩ | ⟨t1, t2, t3⟩
          all_goals
            go_wp2
            go_quiet (fail)
            go_wp2
            go_ret3
            refine ⟨?_, ?_⟩
            · rw [Hres.out, HM.out]
              show Ending.returned (.tuple #[_, .string (s.extract (k + 1) s.size), _]) = _
              rw [extract_from]; rfl
            · exact below_draws (Below.refl _ _) _
        · rcases tests with ⟨t1, t2, t3, t4⟩ | ⟨t1, t2⟩ | ⟨t1, t2, t3⟩
          all_goals
            go_wp2
            go_round
            case rel => exact ⟨M, k + 1, rfl, by go_num, by omega, by omega, hg.out, by rw [Htc.out, tc_more s k N hlt Hbad.out hl, HM.out]⟩
            case measure => simp [intOf]; omega
    · have Hres := Lib.hid (Htc.out.trans (tc_end s k N (by omega)))
      go_wp2
      go_ret3
      exact ⟨by rw [Hres.out]; rfl, Below.refl _ _⟩
end Go.Proofs.Ytmddiiidofmklaa
namespace Go.Proofs.Ytmddiiidofmklaa
open Go.RowKit

theorem mul_walk {k x : Nat} (hk : k ≤ 9) (h9 : k = 9 → x ≤ 1) : IntKind.u64.wrap ((x : Int) % 128 * ((128 ^ k : Nat) : Int)) = ((x % 128 * 128 ^ k : Nat) : Int) := by
  have hf := fits hk h9
  have e : (x : Int) % 128 * ((128 ^ k : Nat) : Int) = ((x % 128 * 128 ^ k : Nat) : Int) := by rw [Int.natCast_mul]; rfl
  rw [e]
  exact IntWalk.u64_in _ ⟨by omega, by omega⟩
theorem sum_lt {k n x : Nat} (hk : k ≤ 9) (h9 : k = 9 → x ≤ 1) (hn : n < 128 ^ k) : n + x % 128 * 128 ^ k ≤ 18446744073709551615 := by
  by_cases h : k = 9
  · subst h
    have := h9 rfl
    have : x = 0 ∨ x = 1 := by omega
    rcases this with rfl | rfl <;> omega
  · have h1 := gather_lt (x := x) hn
    have : 128 ^ (k + 1) ≤ 128 ^ 9 := Nat.pow_le_pow_right (by omega) (by omega)
    omega
theorem pow8 {k : Nat} (h : k < 9) : 128 ^ k ≤ 72057594037927936 := by
  have : 128 ^ k ≤ 128 ^ 8 := Nat.pow_le_pow_right (by omega) (by omega)
  omega

end Go.Proofs.Ytmddiiidofmklaa
namespace Go.Proofs.Ytmddiiidofmklaa
open Go.RowKit

theorem tc_ok : ∀ (l : List UInt8) (k n : Nat), k ≤ 9 → n < 128 ^ k →
    (tc k n l).1 ≤ 18446744073709551615 ∧ ((tc k n l).2.2 = 0 ∧ (tc k n l).2.1.length ≤ l.length ∨ tc k n l = (0, [], 3) ∨ tc k n l = (0, [], 4)) := by
  intro l
  induction l with
  | nil => intro k n _ _; exact ⟨by simp [tc], .inr (.inl rfl)⟩
  | cons b l ih =>
    intro k n hk hn
    unfold tc
    by_cases hbad : (k = 9 ∧ 1 < b.toNat) ∨ (0 < k ∧ b.toNat = 0)
    · rw [if_pos hbad]; exact ⟨by simp, .inr (.inr rfl)⟩
    · rw [if_neg hbad]
      have h9 : k = 9 → b.toNat ≤ 1 := fun h => by omega
      by_cases hl : b.toNat < 128
      · rw [if_pos hl]; exact ⟨sum_lt hk h9 hn, .inl ⟨rfl, by simp⟩⟩
      · rw [if_neg hl]
        have := ih (k + 1) (n + b.toNat % 128 * 128 ^ k) (by omega) (gather_lt hn)
        refine ⟨this.1, ?_⟩
        rcases this.2 with ⟨h1, h2⟩ | h | h
        · exact .inl ⟨h1, by simp; omega⟩
        · exact .inr (.inl h)
        · exact .inr (.inr h)

/-- a number taken -/
def tn (r : Nat × List UInt8 × Int) : Int × List UInt8 × Int :=
  if r.2.2 = 0 then ((if r.1 % 2 = 1 then -1 - ((r.1 / 2 : Nat) : Int) else ((r.1 / 2 : Nat) : Int)), r.2.1, 0) else (0, [], r.2.2)
def tripleI (r : Int × List UInt8 × Int) : Value := .tuple #[.int .i64 r.1, .string ⟨r.2.1.toArray⟩, .int .i64 r.2.2]

/-- a text taken -/
def tt (r : Nat × List UInt8 × Int) : List UInt8 × List UInt8 × Int :=
  if r.2.2 = 0 then (if 65536 < r.1 then ([], [], 2) else if r.2.1.length < r.1 then ([], [], 3) else (r.2.1.take r.1, r.2.1.drop r.1, 0)) else ([], [], r.2.2)
def tripleS (r : List UInt8 × List UInt8 × Int) : Value := .tuple #[.string ⟨r.1.toArray⟩, .string ⟨r.2.1.toArray⟩, .int .i64 r.2.2]

theorem size_list (l : List UInt8) : (⟨l.toArray⟩ : ByteArray).size = l.length := by simp [ByteArray.size]
theorem tn_odd {m : Nat} {l : List UInt8} (h : m % 2 = 1) : tn (m, l, 0) = (-1 - ((m / 2 : Nat) : Int), l, 0) := by simp [tn, h]
theorem tn_even {m : Nat} {l : List UInt8} (h : ¬ m % 2 = 1) : tn (m, l, 0) = (((m / 2 : Nat) : Int), l, 0) := by simp only [tn, if_true, if_neg h]
theorem tt_long {m : Nat} {l : List UInt8} (h : 65536 < m) : tt (m, l, 0) = ([], [], 2) := by simp [tt, h]
theorem tt_short {m : Nat} {l : List UInt8} (h : ¬ 65536 < m) (h2 : l.length < m) : tt (m, l, 0) = ([], [], 3) := by simp [tt, h, h2]
theorem tt_fits {m : Nat} {l : List UInt8} (h : ¬ 65536 < m) (h2 : ¬ l.length < m) : tt (m, l, 0) = (l.take m, l.drop m, 0) := by simp [tt, h, h2]

set_option maxRecDepth 100000 in
set_option maxHeartbeats 400000 in
theorem takeText_any (s : ByteArray) (w : World) (hs : s.size ≤ maxLen) :
    Calls Try.prog 23 #[.string s] w fun e w' => e = .returned (tripleS (tt (tc 0 0 s.data.toList))) ∧ Below w.heap.size w w' := by
  have hb := tc_ok s.data.toList 0 0 (by omega) (by omega)
  have hcall := Lib.hid (takeCount_any s w hs)
  have hsl : s.data.toList.length = s.size := by rw [Array.length_toList]; rfl
  rw [hsl] at hb
  generalize tc 0 0 s.data.toList = r at hb hcall
  obtain ⟨m, l, y⟩ := r
  obtain ⟨hm, hy⟩ := hb
  simp only at hm hy
  unfold maxLen at hs
  have h3 : (y = 0 ∧ 65536 < m ∧ l.length ≤ s.size) ∨ (y = 0 ∧ ¬ 65536 < m ∧ l.length < m ∧ l.length ≤ s.size) ∨ (y = 0 ∧ ¬ 65536 < m ∧ ¬ l.length < m ∧ l.length ≤ s.size) ∨ (m, l, y) = (0, [], 3) ∨ (m, l, y) = (0, [], 4) := by
    rcases hy with ⟨h, h5⟩ | h | h
    · omega
    · exact .inr (.inr (.inr (.inl h)))
    · exact .inr (.inr (.inr (.inr h)))
  clear hy hsl
  rcases h3 with ⟨rfl, h3, h6⟩ | ⟨rfl, h3, h4, h6⟩ | ⟨rfl, h3, h4, h6⟩ | h3 | h3
  · rw [tt_long h3]
    go_enter Try.func23, Try.ntmps23
    go_wp2_with fail
    refine hcall.out.mono ?_
    rintro e w' ⟨rfl, hb⟩
    unfold triple
    go_wp2_with fail
    go_ret3
    exact ⟨rfl, hb⟩
  · rw [tt_short h3 h4]
    go_enter Try.func23, Try.ntmps23
    go_wp2_with fail
    refine hcall.out.mono ?_
    rintro e w' ⟨rfl, hb⟩
    unfold triple
    go_wp2_with fail
    go_ret3
    exact ⟨rfl, hb⟩
  · rw [tt_fits h3 h4]
    go_enter Try.func23, Try.ntmps23
    go_wp2_with fail
    refine hcall.out.mono ?_
    rintro e w' ⟨rfl, hb⟩
    unfold triple
    go_wp2_with fail
    have hml : m ≤ l.length := by omega
    go_quiet (fail)
    go_wp2
    go_ret3
    refine ⟨?_, below_draws hb _⟩
    show Ending.returned (.tuple #[.string ((⟨l.toArray⟩ : ByteArray).extract 0 m), .string ((⟨l.toArray⟩ : ByteArray).extract m (⟨l.toArray⟩ : ByteArray).size), _]) = _
    rw [extract_from, extract_upto]
    rfl
  all_goals
    obtain ⟨rfl, rfl, rfl⟩ : m = 0 ∧ l = [] ∧ y = _ := by simpa using h3
    clear h3
    go_enter Try.func23, Try.ntmps23
    go_wp2_with fail
    refine hcall.out.mono ?_
    rintro e w' ⟨rfl, hb⟩
    unfold triple
    go_wp2_with fail
    go_ret3
    exact ⟨rfl, hb⟩

end Go.Proofs.Ytmddiiidofmklaa
namespace Go.Proofs.Ytmddiiidofmklaa
open Go.RowKit

/-- a frame taken: of a text taken -/
def tf (r : List UInt8 × List UInt8 × Int) : List UInt8 × List UInt8 × Int :=
  if r.2.2 = 0 then (if r.2.1.length < 4 then ([], [], 3) else if r.2.1.take 4 = sealS r.1 then (r.1, r.2.1.drop 4, 0) else ([], [], 4)) else ([], [], r.2.2)
theorem tf_no {a b : List UInt8} {y : Int} (h : y ≠ 0) : tf (a, b, y) = ([], [], y) := by simp [tf, h]
theorem tf_short {a b : List UInt8} (h : b.length < 4) : tf (a, b, 0) = ([], [], 3) := by simp [tf, h]
theorem tf_bad {a b : List UInt8} (h : ¬ b.length < 4) (h2 : ¬ b.take 4 = sealS a) : tf (a, b, 0) = ([], [], 4) := by simp [tf, h, h2]
theorem tf_good {a b : List UInt8} (h : ¬ b.length < 4) (h2 : b.take 4 = sealS a) : tf (a, b, 0) = (a, b.drop 4, 0) := by simp [tf, h, h2]

theorem tt_ok (l : List UInt8) : (tt (tc 0 0 l)).1.length ≤ l.length ∧ (tt (tc 0 0 l)).2.1.length ≤ l.length := by
  have hb := tc_ok l 0 0 (by omega) (by omega)
  generalize tc 0 0 l = r at hb
  obtain ⟨m, k, y⟩ := r
  obtain ⟨_, hy⟩ := hb
  simp only at hy
  rcases hy with ⟨rfl, h⟩ | h | h
  · by_cases h1 : 65536 < m
    · rw [tt_long h1]; simp
    · by_cases h2 : k.length < m
      · rw [tt_short h1 h2]; simp
      · rw [tt_fits h1 h2]; simp; omega
  all_goals
    obtain ⟨rfl, rfl, rfl⟩ : m = 0 ∧ k = [] ∧ y = _ := by simpa using h
    simp [tt]

theorem ext4 (b : List UInt8) : ((⟨b.toArray⟩ : ByteArray).extract 0 4).toList = b.take 4 := by
  rw [extract_upto, ByteArray.toList_eq]

set_option maxRecDepth 100000 in
set_option maxHeartbeats 400000 in
theorem takeFrame_any (s : ByteArray) (w : World) (hs : s.size ≤ maxLen) :
    Calls Try.prog 10 #[.string s] w fun e w' => e = .returned (tripleS (tf (tt (tc 0 0 s.data.toList)))) ∧ Below w.heap.size w w' := by
  have hb := tt_ok s.data.toList
  have H := Lib.hid (takeText_any s w hs)
  rw [len_of] at hb
  generalize tt (tc 0 0 s.data.toList) = r at hb H
  obtain ⟨a, b, y⟩ := r
  simp only at hb
  obtain ⟨ha, hb⟩ := hb
  have hms := hs
  unfold maxLen at hs
  have za := sizeL a
  have zb := sizeL b
  by_cases hy : y = 0
  · subst hy
    by_cases h4 : b.length < 4
    · rw [tf_short h4]
      go_enter Try.func10, Try.ntmps10
      go_wp2_with fail
      refine H.out.mono ?_
      rintro e w1 ⟨rfl, h1⟩
      unfold tripleS
      go_wp2_with fail
      go_ret3
      exact ⟨rfl, h1⟩
    · by_cases h5 : b.take 4 = sealS a
      · rw [tf_good h4 h5]
        have heq : (((⟨b.toArray⟩ : ByteArray).extract 0 4).toList == sealS a) = true := by rw [ext4, h5]; simp
        have heq2 : (((⟨b.toArray⟩ : ByteArray).extract 0 4).toList == le4 (sumS a)) = true := heq
        have H5 := Lib.hid h5; clear h5
        go_enter Try.func10, Try.ntmps10
        go_wp2_with fail
        refine H.out.mono ?_
        rintro e w1 ⟨rfl, h1⟩
        unfold tripleS
        go_wp2_with fail
        go_region_with (go_at_call 14; refine (seal_any _ _ (by omega)).mono ?_; rintro e w2 ⟨rfl, h2⟩)
        go_wp2_with fail
        go_quiet (fail)
        go_wp2
        go_ret3
        refine ⟨?_, below_draws (((h1.drew).trans (h2.mono h1.size))) _⟩
        show Ending.returned (.tuple #[.string ⟨a.toArray⟩, .string ((⟨b.toArray⟩ : ByteArray).extract 4 (⟨b.toArray⟩ : ByteArray).size), _]) = _
        rw [extract_from]
        rfl
      · rw [tf_bad h4 h5]
        have heq : (((⟨b.toArray⟩ : ByteArray).extract 0 4).toList == sealS a) = false := by rw [ext4]; simpa using h5
        have heq2 : (((⟨b.toArray⟩ : ByteArray).extract 0 4).toList == le4 (sumS a)) = false := heq
        have H5 := Lib.hid h5; clear h5
        go_enter Try.func10, Try.ntmps10
        go_wp2_with fail
        refine H.out.mono ?_
        rintro e w1 ⟨rfl, h1⟩
        unfold tripleS
        go_wp2_with fail
        go_region_with (go_at_call 14; refine (seal_any _ _ (by omega)).mono ?_; rintro e w2 ⟨rfl, h2⟩)
        go_wp2_with fail
        go_ret3
        exact ⟨rfl, ((h1.drew).trans (h2.mono h1.size))⟩
  · rw [tf_no hy]
    have hy1 : (y == 0) = false := by simpa using hy
    have hy2 : (y != 0) = true := by simpa using hy
    go_enter Try.func10, Try.ntmps10
    go_wp2_with fail
    refine H.out.mono ?_
    rintro e w1 ⟨rfl, h1⟩
    unfold tripleS
    go_wp2_with fail
    go_ret3
    exact ⟨rfl, h1⟩

end Go.Proofs.Ytmddiiidofmklaa
namespace Go.Proofs.Ytmddiiidofmklaa
open Go.RowKit


theorem tc_enc : ∀ (f m : Nat), m < f → ∀ (k n : Nat) (rest : List UInt8), k ≤ 9 → m * 128 ^ k < 18446744073709551616 → (0 < k → 0 < m) → tc k n (enc m ++ rest) = (n + m * 128 ^ k, rest, 0) := by
  intro f
  induction f with
  | zero => intro m h; omega
  | succ f ih =>
    intro m hm k n rest hk hfit hpos
    by_cases h1 : m < 128
    · rw [enc_lt h1]
      have hb : (UInt8.ofNat m).toNat = m := by simp; omega
      have h9 : k = 9 → m ≤ 1 := by
        rintro rfl
        have : (128 : Nat) ^ 9 = 9223372036854775808 := by decide
        rw [this] at hfit; omega
      have hbad : ¬ ((k = 9 ∧ 1 < (UInt8.ofNat m).toNat) ∨ (0 < k ∧ (UInt8.ofNat m).toNat = 0)) := by rw [hb]; omega
      show tc k n (UInt8.ofNat m :: rest) = _
      rw [tc, if_neg hbad, hb, if_pos h1, Nat.mod_eq_of_lt h1]
    · rw [enc_ge (by omega)]
      have hb : (UInt8.ofNat (m % 128 + 128)).toNat = m % 128 + 128 := by simp; omega
      have hk8 : k ≠ 9 := by
        rintro rfl
        have : (128 : Nat) ^ 9 = 9223372036854775808 := by decide
        rw [this] at hfit; omega
      have hbad : ¬ ((k = 9 ∧ 1 < (UInt8.ofNat (m % 128 + 128)).toNat) ∨ (0 < k ∧ (UInt8.ofNat (m % 128 + 128)).toNat = 0)) := by rw [hb]; omega
      show tc k n (UInt8.ofNat (m % 128 + 128) :: (enc (m / 128) ++ rest)) = _
      rw [tc, if_neg hbad, hb, if_neg (by omega)]
      have e : m / 128 * 128 ^ (k + 1) + m % 128 * 128 ^ k = m * 128 ^ k := by
        rw [Nat.pow_succ, Nat.mul_comm (128 ^ k) 128, ← Nat.mul_assoc, ← Nat.add_mul]
        congr 1; omega
      have e2 : (m % 128 + 128) % 128 = m % 128 := by omega
      rw [ih (m / 128) (by omega) (k + 1) _ rest (by omega) (by omega) (fun _ => by omega), e2]
      congr 1
      omega

theorem tc_short : ∀ (f m : Nat), m < f → ∀ (k n j : Nat), k ≤ 9 → m * 128 ^ k < 18446744073709551616 → j < (enc m).length → tc k n ((enc m).take j) = (0, [], 3) := by
  intro f
  induction f with
  | zero => intro m h; omega
  | succ f ih =>
    intro m hm k n j hk hfit hj
    match j with
    | 0 => rw [List.take_zero]; rfl
    | j + 1 =>
      have h1 : ¬ m < 128 := fun h => by rw [enc_lt h] at hj; simp at hj
      rw [enc_ge (by omega)] at hj ⊢
      have hb : (UInt8.ofNat (m % 128 + 128)).toNat = m % 128 + 128 := by simp; omega
      have hk8 : k ≠ 9 := by
        rintro rfl
        have : (128 : Nat) ^ 9 = 9223372036854775808 := by decide
        rw [this] at hfit; omega
      have hbad : ¬ ((k = 9 ∧ 1 < (UInt8.ofNat (m % 128 + 128)).toNat) ∨ (0 < k ∧ (UInt8.ofNat (m % 128 + 128)).toNat = 0)) := by rw [hb]; omega
      have e : m / 128 * 128 ^ (k + 1) + m % 128 * 128 ^ k = m * 128 ^ k := by
        rw [Nat.pow_succ, Nat.mul_comm (128 ^ k) 128, ← Nat.mul_assoc, ← Nat.add_mul]
        congr 1; omega
      rw [List.take_succ_cons, tc, if_neg hbad, hb, if_neg (by omega)]
      exact ih (m / 128) (by omega) (k + 1) _ j (by omega) (by omega) (by simpa using hj)

theorem tc_back (m : Nat) (rest : List UInt8) (h : m < 18446744073709551616) : tc 0 0 (enc m ++ rest) = (m, rest, 0) := by
  have := tc_enc (m + 1) m (by omega) 0 0 rest (by omega) (by simpa using h) (by omega)
  simpa using this
theorem tc_cut (m j : Nat) (h : m < 18446744073709551616) (hj : j < (enc m).length) : tc 0 0 ((enc m).take j) = (0, [], 3) :=
  tc_short (m + 1) m (by omega) 0 0 j (by omega) (by simpa using h) hj
theorem tn_back (m : Int) (rest : List UInt8) : tn (zig m, rest, 0) = (m, rest, 0) := by
  unfold zig
  by_cases h : m < 0
  · rw [if_pos h, tn_odd (by omega)]; congr 1; omega
  · rw [if_neg h, tn_even (by omega)]; congr 1; omega
theorem tt_back (l rest : List UInt8) (h : ¬ 65536 < l.length) : tt (tc 0 0 (txt l ++ rest)) = (l, rest, 0) := by
  unfold txt
  rw [List.append_assoc, tc_back _ _ (by omega), tt_fits h (by simp)]
  simp
theorem tt_back_long (l rest : List UInt8) (h : 65536 < l.length) (h2 : l.length < 18446744073709551616) : tt (tc 0 0 (txt l ++ rest)) = ([], [], 2) := by
  unfold txt
  rw [List.append_assoc, tc_back _ _ h2, tt_long h]
theorem tf_back (l rest : List UInt8) (h : ¬ 65536 < l.length) : tf (tt (tc 0 0 (txt l ++ sealS l ++ rest))) = (l, rest, 0) := by
  rw [List.append_assoc, tt_back l _ h, tf_good (by rw [List.length_append, seal_len]; omega) (by rw [List.take_left' (seal_len l)])]
  rw [List.drop_left' (seal_len l)]
theorem tf_cut (l : List UInt8) (j : Nat) (h : ¬ 65536 < l.length) (hj : j < (txt l ++ sealS l).length) : tf (tt (tc 0 0 ((txt l ++ sealS l).take j))) = ([], [], 3) := by
  unfold txt at hj ⊢
  rw [List.append_assoc] at hj ⊢
  rw [List.length_append, List.length_append, seal_len] at hj
  by_cases h1 : j < (enc l.length).length
  · rw [List.take_append_of_le_length (by omega), tc_cut _ _ (by omega) h1]; rfl
  · rw [List.take_append, List.take_of_length_le (by omega), tc_back _ _ (by omega)]
    generalize hi : j - (enc l.length).length = i
    by_cases h2 : i < l.length
    · rw [tt_short h (by rw [List.length_take, List.length_append]; omega)]; rfl
    · rw [List.take_append, List.take_of_length_le (by omega), tt_fits h (by simp)]
      rw [List.take_left, List.drop_left, tf_short (by rw [List.length_take, seal_len]; omega)]

/-! ### the checksum tells two strings that differ in one byte -/
theorem xor_high {x : Nat} (h : x < 2147483648) : 2147483648 ≤ x ^^^ 2197175160 := by
  have h1 : (x ^^^ 2197175160).testBit 31 = true := by
    rw [Nat.testBit_xor, Nat.testBit_lt_two_pow (i := 31) h]; decide
  exact Nat.ge_two_pow_of_testBit h1
theorem xor_cancel {a b c : Nat} (h : a ^^^ c = b ^^^ c) : a = b := by
  have := congrArg (· ^^^ c) h
  simpa [Nat.xor_assoc] using this
theorem bitS_inj {c d : Nat} (hc : c < 4294967296) (hd : d < 4294967296) (h : bitS c = bitS d) : c = d := by
  by_cases h1 : c % 2 = 1 <;> by_cases h2 : d % 2 = 1
  · rw [bitS_odd h1, bitS_odd h2] at h; have := xor_cancel h; omega
  · rw [bitS_odd h1, bitS_even h2] at h; have := xor_high (x := c / 2) (by omega); omega
  · rw [bitS_even h1, bitS_odd h2] at h; have := xor_high (x := d / 2) (by omega); omega
  · rw [bitS_even h1, bitS_even h2] at h; omega
theorem bitsS_inj : ∀ (n : Nat) {c d : Nat}, c < 4294967296 → d < 4294967296 → bitsS n c = bitsS n d → c = d
  | 0, _, _, _, _, h => h
  | n + 1, _, _, hc, hd, h => bitS_inj hc hd (bitsS_inj n (bitS_lt hc) (bitS_lt hd) h)
theorem byteS_inj {c d b : Nat} (hc : c < 4294967296) (hd : d < 4294967296) (hb : b < 256) (h : byteS c b = byteS d b) : c = d :=
  xor_cancel (bitsS_inj 8 (xor_lt hc (by omega)) (xor_lt hd (by omega)) h)
theorem byteS_inj2 {c a b : Nat} (hc : c < 4294967296) (ha : a < 256) (hb : b < 256) (h : byteS c a = byteS c b) : a = b := by
  have := bitsS_inj 8 (xor_lt hc (by omega)) (xor_lt hc (by omega)) h
  rw [Nat.xor_comm c a, Nat.xor_comm c b] at this
  exact xor_cancel this
theorem regS_inj : ∀ (l : List UInt8) {c d : Nat}, c < 4294967296 → d < 4294967296 → regS c l = regS d l → c = d
  | [], _, _, _, _, h => h
  | b :: l, _, _, hc, hd, h => byteS_inj hc hd b.toNat_lt (regS_inj l (byteS_lt hc b.toNat_lt) (byteS_lt hd b.toNat_lt) h)
theorem regS_set : ∀ (l : List UInt8) (i : Nat) (b : UInt8) (hi : i < l.length) {c : Nat}, c < 4294967296 → b ≠ l[i] → regS c (l.set i b) ≠ regS c l
  | a :: l, 0, b, _, c, hc, hb, h => by
    have h2 : byteS c b.toNat = byteS c a.toNat := regS_inj l (byteS_lt hc b.toNat_lt) (byteS_lt hc a.toNat_lt) h
    exact hb (UInt8.toNat_inj.1 (byteS_inj2 hc b.toNat_lt a.toNat_lt h2))
  | a :: l, i + 1, b, hi, c, hc, hb, h => regS_set l i b (by simpa using hi) (byteS_lt hc a.toNat_lt) hb h
theorem le4_inj {m n : Nat} (hm : m < 4294967296) (hn : n < 4294967296) (h : le4 m = le4 n) : m = n := by
  unfold le4 at h
  simp only [List.cons.injEq, and_true] at h
  obtain ⟨h1, h2, h3, h4⟩ := h
  have g : ∀ a b : Nat, a < 256 → b < 256 → UInt8.ofNat a = UInt8.ofNat b → a = b := fun a b ha hb h => by
    have := congrArg UInt8.toNat h
    simpa [Nat.mod_eq_of_lt ha, Nat.mod_eq_of_lt hb] using this
  have k1 := g _ _ (Nat.mod_lt _ (by omega)) (Nat.mod_lt _ (by omega)) h1
  have k2 := g _ _ (Nat.mod_lt _ (by omega)) (Nat.mod_lt _ (by omega)) h2
  have k3 := g _ _ (Nat.mod_lt _ (by omega)) (Nat.mod_lt _ (by omega)) h3
  have k4 := g _ _ (Nat.mod_lt _ (by omega)) (Nat.mod_lt _ (by omega)) h4
  omega
theorem seal_ne {l k : List UInt8} (h : regS 4294967295 l ≠ regS 4294967295 k) : sealS l ≠ sealS k := by
  intro e
  have := le4_inj (sumS_lt l) (sumS_lt k) e
  unfold sumS at this
  have h1 := regS_lt l 4294967295 (by omega)
  have h2 := regS_lt k 4294967295 (by omega)
  omega

theorem tf_turned (l : List UInt8) (i : Nat) (b : UInt8) (h : ¬ 65536 < l.length) (hlo : (enc l.length).length ≤ i) (hi : i < (txt l ++ sealS l).length) (hb : b ≠ (txt l ++ sealS l)[i]) :
    tf (tt (tc 0 0 ((txt l ++ sealS l).set i b))) = ([], [], 4) := by
  have e0 : txt l ++ sealS l = enc l.length ++ (l ++ sealS l) := by unfold txt; rw [List.append_assoc]
  have hset : (txt l ++ sealS l).set i b = enc l.length ++ (l ++ sealS l).set (i - (enc l.length).length) b := by
    rw [e0, List.set_append_right _ _ hlo]
  have hlen : i - (enc l.length).length < (l ++ sealS l).length := by
    have := hi; rw [e0, List.length_append] at this; omega
  have hget : b ≠ (l ++ sealS l)[i - (enc l.length).length]'hlen := by
    intro hh; apply hb; rw [hh]
    simp only [e0]
    rw [List.getElem_append_right hlo]
  rw [hset, tc_back _ _ (by omega)]
  generalize i - (enc l.length).length = j at hlen hget
  by_cases h1 : j < l.length
  · rw [List.set_append_left _ _ h1, tt_fits h (by simp)]
    have hl : (l.set j b).length = l.length := List.length_set ..
    rw [List.take_left' hl, List.drop_left' hl]
    refine tf_bad (by rw [seal_len]; omega) ?_
    rw [List.take_of_length_le (by rw [seal_len]; omega)]
    intro e
    refine seal_ne (regS_set l j b h1 (by omega) ?_) e.symm
    intro hh; apply hget; rw [hh, List.getElem_append_left h1]
  · rw [List.set_append_right _ _ (by omega), tt_fits h (by simp)]
    rw [List.take_left, List.drop_left]
    refine tf_bad (by rw [List.length_set, seal_len]; omega) ?_
    rw [List.take_of_length_le (by rw [List.length_set, seal_len]; omega)]
    intro e
    have h2 : j - l.length < (sealS l).length := by rw [List.length_append] at hlen; omega
    have h3 := congrArg (fun k => k[j - l.length]?) e
    simp only [List.getElem?_set_self h2, List.getElem?_eq_getElem h2, Option.some.injEq] at h3
    apply hget
    rw [h3, List.getElem_append_right (by omega)]
end Go.Proofs.Ytmddiiidofmklaa
namespace Go.Proofs.Ytmddiiidofmklaa
open Go Go.RowKit

theorem u8_eq {a b : UInt8} (h1 : ¬ a < b) (h2 : ¬ b < a) : a = b := by
  rw [UInt8.lt_iff_toNat_lt] at h1 h2
  exact UInt8.toNat_inj.1 (by omega)
theorem cmpB_cases : ∀ a b : List UInt8, (Lib.compareBytes a b = -1 ∧ Op.bytesLess a b = true) ∨ (Lib.compareBytes a b = 0 ∧ Op.bytesLess a b = false ∧ a = b) ∨ (Lib.compareBytes a b = 1 ∧ Op.bytesLess a b = false ∧ a ≠ b)
  | [], [] => .inr (.inl ⟨rfl, rfl, rfl⟩)
  | [], _ :: _ => .inl ⟨rfl, rfl⟩
  | _ :: _, [] => .inr (.inr ⟨rfl, rfl, by simp⟩)
  | x :: a, y :: b => by
    have ih := cmpB_cases a b
    unfold Lib.compareBytes Op.bytesLess
    by_cases h1 : x < y
    · left; simp [h1]
    · by_cases h2 : y < x
      · have hne : x ≠ y := fun e => by subst e; exact h1 h2
        right; right; simp [h1, h2, hne]
      · have he := u8_eq h1 h2
        subst he
        simpa [h1] using ih


theorem cmpB_swap : ∀ a b : List UInt8, Lib.compareBytes b a = - Lib.compareBytes a b
  | [], [] => rfl
  | [], _ :: _ => rfl
  | _ :: _, [] => rfl
  | x :: a, y :: b => by
    have ih := cmpB_swap a b
    unfold Lib.compareBytes
    by_cases h1 : x < y
    · have h2 : ¬ y < x := by rw [UInt8.lt_iff_toNat_lt] at *; omega
      simp [h1, h2]
    · by_cases h2 : y < x
      · simp [h1, h2]
      · simp [h1, h2, ih]
theorem cmpB_zero {a b : List UInt8} : Lib.compareBytes a b = 0 ↔ a = b := by
  rcases cmpB_cases a b with ⟨h, _⟩ | ⟨h, _, rfl⟩ | ⟨h, _, hn⟩
  · rw [h]; refine ⟨fun h => by omega, fun e => ?_⟩
    subst e
    have := cmpB_swap a a
    omega
  · simp [h]
  · rw [h]; exact ⟨fun h => by omega, fun e => absurd e hn⟩
theorem cmpB_le : ∀ a b c : List UInt8, Lib.compareBytes a b ≤ 0 → Lib.compareBytes b c ≤ 0 → Lib.compareBytes a c ≤ 0 ∧ (Lib.compareBytes a b < 0 ∨ Lib.compareBytes b c < 0 → Lib.compareBytes a c < 0)
  | [], _, [], _, h => by
    rename_i b _
    cases b with
    | nil => exact ⟨by decide, by decide⟩
    | cons x b => simp [Lib.compareBytes] at h
  | [], [], _ :: _, _, _ => ⟨by simp [Lib.compareBytes], fun _ => by simp [Lib.compareBytes]⟩
  | [], _ :: _, _ :: _, _, _ => ⟨by simp [Lib.compareBytes], fun _ => by simp [Lib.compareBytes]⟩
  | _ :: _, [], _, h, _ => by simp [Lib.compareBytes] at h
  | _ :: _, _ :: _, [], _, h => by simp [Lib.compareBytes] at h
  | x :: a, y :: b, z :: c, h, k => by
    have ih := cmpB_le a b c
    unfold Lib.compareBytes at h k ⊢
    simp only [UInt8.lt_iff_toNat_lt] at *
    by_cases h1 : x.toNat < y.toNat
    · by_cases h2 : y.toNat < z.toNat
      · have h3 : x.toNat < z.toNat := by omega
        simp [h1, h2, h3]
      · by_cases h4 : z.toNat < y.toNat
        · simp [h2, h4] at k
        · have h3 : x.toNat < z.toNat := by omega
          simp [h1, h2, h4, h3]
    · by_cases h5 : y.toNat < x.toNat
      · simp [h1, h5] at h
      · by_cases h2 : y.toNat < z.toNat
        · have h3 : x.toNat < z.toNat := by omega
          simp [h1, h5, h2, h3]
        · by_cases h4 : z.toNat < y.toNat
          · simp [h2, h4] at k
          · have h3 : ¬ x.toNat < z.toNat := by omega
            have h6 : ¬ z.toNat < x.toNat := by omega
            simp only [h1, h5, h2, h4, h3, h6, if_false] at h k ⊢
            exact ih h k

/-- a file: its name, and what it contains -/
structure Fl where
  n : ByteArray
  d : ByteArray
instance : Inhabited Fl := ⟨⟨⟨#[]⟩, ⟨#[]⟩⟩⟩
def cmpN (a b : ByteArray) : Int := Lib.compareBytes a.data.toList b.data.toList
theorem bytes_eq {a b : ByteArray} : a.data.toList = b.data.toList ↔ a = b := ⟨str_ext, fun h => by rw [h]⟩
theorem cmpN_zero {a b : ByteArray} : cmpN a b = 0 ↔ a = b := by unfold cmpN; rw [cmpB_zero, bytes_eq]
theorem cmpN_swap (a b : ByteArray) : cmpN b a = - cmpN a b := cmpB_swap _ _
theorem cmpN_lt {a b c : ByteArray} (h : cmpN a b < 0) (k : cmpN b c < 0) : cmpN a c < 0 := (cmpB_le _ _ _ (by unfold cmpN at h; omega) (by unfold cmpN at k; omega)).2 (.inl h)
theorem cmpN_le {a b c : ByteArray} (h : cmpN a b ≤ 0) (k : cmpN b c < 0) : cmpN a c < 0 := (cmpB_le _ _ _ h (by unfold cmpN at k; omega)).2 (.inr k)
theorem cmpN_le' {a b c : ByteArray} (h : cmpN a b < 0) (k : cmpN b c ≤ 0) : cmpN a c < 0 := (cmpB_le _ _ _ (by unfold cmpN at h; omega) k).2 (.inl h)
theorem cmpN_self (a : ByteArray) : cmpN a a = 0 := cmpN_zero.2 rfl
/-- names that ascend -/
def SortedN (ns : List ByteArray) : Prop := ns.Pairwise (fun a b => cmpN a b < 0)
def posN (ns : List ByteArray) (n : ByteArray) : Nat := ns.countP (fun x => decide (cmpN x n < 0))
def hasN (ns : List ByteArray) (n : ByteArray) : Bool := ns.any (fun x => decide (x = n))
theorem hasN_mem {ns : List ByteArray} {n : ByteArray} : hasN ns n = true ↔ n ∈ ns := by
  unfold hasN; rw [List.any_eq_true]
  exact ⟨fun ⟨x, hx, e⟩ => by have := of_decide_eq_true e; rwa [← this], fun h => ⟨n, h, by simp⟩⟩
theorem hasN_not {ns : List ByteArray} {n : ByteArray} : hasN ns n = false ↔ n ∉ ns := by rw [← hasN_mem]; simp
theorem posN_le (ns : List ByteArray) (n : ByteArray) : posN ns n ≤ ns.length := List.countP_le_length
theorem posN_zero {ns : List ByteArray} {n : ByteArray} (h : ∀ x ∈ ns, 0 ≤ cmpN x n) : posN ns n = 0 := by
  unfold posN; rw [List.countP_eq_zero]; intro x hx; have := h x hx; simp; omega
theorem posN_at {ns : List ByteArray} {n : ByteArray} (hs : SortedN ns) : ∀ i x, ns[i]? = some x → (i < posN ns n ↔ cmpN x n < 0) := by
  induction ns with
  | nil => simp
  | cons y r ih =>
    obtain ⟨h1, h2⟩ := List.pairwise_cons.1 hs
    intro i x hx
    by_cases hy : cmpN y n < 0
    · have e : posN (y :: r) n = posN r n + 1 := by unfold posN; rw [List.countP_cons]; simp [hy]
      rw [e]
      cases i with
      | zero => obtain rfl : y = x := by simpa using hx
                exact ⟨fun _ => hy, fun _ => by omega⟩
      | succ i =>
        have := ih h2 i x (by simpa using hx)
        rw [← this]; omega
    · have e : posN (y :: r) n = 0 := posN_zero fun x hx => by
        rcases List.mem_cons.1 hx with rfl | hx
        · omega
        · have hyx := h1 x hx
          by_cases hc : 0 ≤ cmpN x n
          · exact hc
          · have := cmpN_lt hyx (show cmpN x n < 0 by omega); omega
      rw [e]
      refine ⟨fun h => by omega, fun h => ?_⟩
      exfalso
      cases i with
      | zero => obtain rfl : y = x := by simpa using hx
                exact hy h
      | succ i =>
        have hm : x ∈ r := List.mem_of_getElem? (show r[i]? = some x by simpa using hx)
        exact hy (cmpN_lt (h1 x hm) h)
/-- where a name stands that is there -/
theorem posN_has {ns : List ByteArray} {n : ByteArray} (hs : SortedN ns) (h : hasN ns n = true) : ns[posN ns n]? = some n := by
  have hm : n ∈ ns := hasN_mem.1 h
  obtain ⟨i, hi⟩ := List.getElem?_of_mem hm
  have h0 := (posN_at (n := n) hs i n hi)
  rw [cmpN_self] at h0
  have hle : posN ns n ≤ i := by omega
  rcases Nat.lt_or_ge (posN ns n) i with hlt | hge
  · have hin : i < ns.length := (List.getElem?_eq_some_iff.1 hi).1
    have hx : ns[posN ns n]? = some (ns[posN ns n]'(by omega)) := List.getElem?_eq_getElem (by omega)
    have h1 := posN_at (n := n) hs _ _ hx
    have h2 : cmpN (ns[posN ns n]'(by omega)) n < 0 := by
      have := List.pairwise_iff_getElem.1 hs (posN ns n) i (by omega) hin hlt
      rwa [(List.getElem?_eq_some_iff.1 hi).2] at this
    omega
  · have : posN ns n = i := by omega
    rw [this]; exact hi
theorem posN_not {ns : List ByteArray} {n : ByteArray} (h : hasN ns n = false) : ns[posN ns n]? ≠ some n := by
  intro hx
  exact hasN_not.1 h (List.mem_of_getElem? hx)
def namesF (l : List Fl) : List ByteArray := l.map Fl.n
def SortedF (l : List Fl) : Prop := SortedN (namesF l)
def posF (l : List Fl) (n : ByteArray) : Nat := posN (namesF l) n
def hasF (l : List Fl) (n : ByteArray) : Bool := hasN (namesF l) n
theorem posF_le (l : List Fl) (n : ByteArray) : posF l n ≤ l.length := by have := posN_le (namesF l) n; simpa [namesF, posF] using this
/-- one put in, one taken away, one made longer, one called otherwise -/
def putF (l : List Fl) (f : Fl) : List Fl := l.take (posF l f.n) ++ f :: l.drop (posF l f.n)
def takeF (l : List Fl) (n : ByteArray) : List Fl := if hasF l n then l.take (posF l n) ++ l.drop (posF l n + 1) else l
def oldF (l : List Fl) (n : ByteArray) : Fl := (l[posF l n]?).getD ⟨n, ⟨#[]⟩⟩
def extF (l : List Fl) (n d : ByteArray) : List Fl := if hasF l n then l.set (posF l n) ⟨n, (oldF l n).d ++ d⟩ else putF l ⟨n, ⟨#[]⟩ ++ d⟩
def renF (l : List Fl) (n t : ByteArray) : List Fl := if hasF l n then putF (takeF (takeF l n) t) ⟨t, (oldF l n).d⟩ else l
def getF (l : List Fl) (n : ByteArray) : Option ByteArray := (l.find? (fun f => decide (f.n = n))).map Fl.d
theorem hasF_at {l : List Fl} {n : ByteArray} (hs : SortedF l) (h : hasF l n = true) : ∃ d, l[posF l n]? = some ⟨n, d⟩ := by
  have := posN_has hs h
  unfold namesF at this
  rw [List.getElem?_map] at this
  obtain ⟨f, hf, e⟩ := Option.map_eq_some_iff.1 this
  refine ⟨f.d, ?_⟩
  unfold posF namesF
  rw [hf, ← e]
/-- a list that has a name, parted there -/
theorem parted {l : List Fl} {n : ByteArray} (hs : SortedF l) (h : hasF l n = true) : ∃ A d B, l = A ++ ⟨n, d⟩ :: B ∧ A.length = posF l n ∧ (∀ f ∈ A, cmpN f.n n < 0) ∧ (∀ f ∈ B, cmpN n f.n < 0) ∧ oldF l n = ⟨n, d⟩ := by
  obtain ⟨d, hd⟩ := hasF_at hs h
  have hlt := (List.getElem?_eq_some_iff.1 hd).1
  have e : l = l.take (posF l n) ++ ⟨n, d⟩ :: l.drop (posF l n + 1) := by
    have h1 := (List.getElem?_eq_some_iff.1 hd).2
    rw [← h1, ← List.drop_eq_getElem_cons hlt, List.take_append_drop]
  refine ⟨_, d, _, e, by rw [List.length_take]; omega, ?_, ?_, by unfold oldF; rw [hd]; rfl⟩
  · intro f hf
    unfold SortedF SortedN namesF at hs
    rw [e, List.map_append, List.pairwise_append] at hs
    exact hs.2.2 f.n (List.mem_map_of_mem hf) n (by simp)
  · intro f hf
    unfold SortedF SortedN namesF at hs
    rw [e, List.map_append, List.pairwise_append, List.map_cons, List.pairwise_cons] at hs
    exact hs.2.1.1 f.n (List.mem_map_of_mem hf)
/-- .. that has not -/
theorem parted_not {l : List Fl} {n : ByteArray} (hs : SortedF l) (h : hasF l n = false) : (∀ f ∈ l.take (posF l n), cmpN f.n n < 0) ∧ (∀ f ∈ l.drop (posF l n), cmpN n f.n < 0) := by
  have hat := posN_at (n := n) hs
  have hne : ∀ f ∈ l, f.n ≠ n := by
    intro f hf e
    have : n ∈ namesF l := by rw [← e]; exact List.mem_map_of_mem hf
    exact hasN_not.1 h this
  constructor
  · intro f hf
    obtain ⟨i, hi⟩ := List.getElem?_of_mem hf
    rw [List.getElem?_take] at hi
    split at hi
    · rename_i hlt
      exact (hat i f.n (by simp [namesF, hi])).1 hlt
    · cases hi
  · intro f hf
    obtain ⟨i, hi⟩ := List.getElem?_of_mem hf
    rw [List.getElem?_drop] at hi
    have h1 := (hat (posF l n + i) f.n (by simp [namesF, hi]))
    unfold posF at h1
    have h2 : ¬ cmpN f.n n < 0 := fun hc => by have := h1.2 hc; omega
    have h3 : cmpN f.n n ≠ 0 := fun hc => hne f (List.mem_of_mem_drop hf) (cmpN_zero.1 hc)
    rw [cmpN_swap]; omega
theorem take_of_parts {l A B : List Fl} {x : Fl} {p : Nat} (e : l = A ++ x :: B) (hp : A.length = p) : l.take p = A ∧ l.drop p = x :: B ∧ l.drop (p + 1) = B ∧ l[p]? = some x := by
  subst e hp
  refine ⟨by simp, by simp, by rw [← List.drop_drop]; simp, by simp⟩
theorem sorted_parts {A B : List Fl} {f : Fl} (ha : SortedF A) (hb : SortedF B) (h1 : ∀ x ∈ A, cmpN x.n f.n < 0) (h2 : ∀ x ∈ B, cmpN f.n x.n < 0) : SortedF (A ++ f :: B) := by
  unfold SortedF SortedN namesF at *
  rw [List.map_append, List.pairwise_append, List.map_cons, List.pairwise_cons]
  refine ⟨ha, ⟨?_, hb⟩, ?_⟩
  · intro n hn
    obtain ⟨x, hx, rfl⟩ := List.mem_map.1 hn
    exact h2 x hx
  · intro n hn m hm
    obtain ⟨x, hx, rfl⟩ := List.mem_map.1 hn
    rcases List.mem_cons.1 hm with rfl | hm
    · exact h1 x hx
    · obtain ⟨y, hy, rfl⟩ := List.mem_map.1 hm
      exact cmpN_lt (h1 x hx) (h2 y hy)
theorem sorted_sub {l m : List Fl} (h : SortedF l) (hs : m.Sublist l) : SortedF m := List.Pairwise.sublist (hs.map _) h
theorem sorted_put {l : List Fl} {f : Fl} (hs : SortedF l) (h : hasF l f.n = false) : SortedF (putF l f) := by
  obtain ⟨h1, h2⟩ := parted_not hs h
  exact sorted_parts (sorted_sub hs (List.take_sublist _ _)) (sorted_sub hs (List.drop_sublist _ _)) h1 h2
theorem sorted_take {l : List Fl} {n : ByteArray} (hs : SortedF l) : SortedF (takeF l n) := by
  unfold takeF
  split
  · rename_i h
    obtain ⟨A, d, B, e, hp, _, _, _⟩ := parted hs h
    obtain ⟨e1, _, e3, _⟩ := take_of_parts e hp
    rw [e1, e3]
    refine sorted_sub hs ?_
    rw [e]
    exact List.Sublist.append_left (List.sublist_cons_self _ _) _
  · exact hs
theorem names_set {l : List Fl} {n : ByteArray} (hs : SortedF l) (h : hasF l n = true) (d : ByteArray) : namesF (l.set (posF l n) ⟨n, d⟩) = namesF l := by
  obtain ⟨x, hx⟩ := hasF_at hs h
  unfold namesF
  rw [List.map_set]
  apply List.ext_getElem?
  intro i
  rw [List.getElem?_set]
  split
  · rename_i hi
    subst hi
    rw [List.getElem?_map, hx]
    have := (List.getElem?_eq_some_iff.1 hx).1
    simp [this]
  · rfl
theorem sorted_ext {l : List Fl} {n d : ByteArray} (hs : SortedF l) : SortedF (extF l n d) := by
  unfold extF
  split
  · rename_i h; unfold SortedF; rw [names_set hs h]; exact hs
  · rename_i h; exact sorted_put hs (by simpa using h)
theorem has_take {l : List Fl} {n : ByteArray} (hs : SortedF l) : hasF (takeF l n) n = false := by
  by_cases h : hasF l n = true
  · obtain ⟨A, d, B, e, hp, ha, hb, _⟩ := parted hs h
    obtain ⟨e1, _, e3, _⟩ := take_of_parts e hp
    unfold takeF
    rw [if_pos h, e1, e3]
    unfold hasF namesF
    rw [hasN_not]
    intro hm
    obtain ⟨f, hf, rfl⟩ := List.mem_map.1 hm
    rcases List.mem_append.1 hf with hf | hf
    · have := ha f hf; rw [cmpN_self] at this; omega
    · have := hb f hf; rw [cmpN_self] at this; omega
  · unfold takeF; rw [if_neg h]; simpa using h
theorem sorted_ren {l : List Fl} {n t : ByteArray} (hs : SortedF l) : SortedF (renF l n t) := by
  unfold renF
  split
  · exact sorted_put (sorted_take (sorted_take hs)) (has_take (sorted_take hs))
  · exact hs
theorem get_app (A B : List Fl) (m : ByteArray) : getF (A ++ B) m = (getF A m).or (getF B m) := by
  unfold getF; rw [List.find?_append]; cases List.find? (fun f => decide (f.n = m)) A <;> simp
theorem get_cons (f : Fl) (B : List Fl) (m : ByteArray) : getF (f :: B) m = if m = f.n then some f.d else getF B m := by
  unfold getF; rw [List.find?_cons]
  by_cases h : m = f.n
  · subst h; simp
  · have : decide (f.n = m) = false := by simpa using fun e => h e.symm
    simp [this, h]
theorem get_none {l : List Fl} {m : ByteArray} : getF l m = none ↔ hasF l m = false := by
  unfold getF hasF namesF
  rw [Option.map_eq_none_iff, List.find?_eq_none, hasN_not]
  simp
theorem get_lt {l : List Fl} {m : ByteArray} (h : ∀ f ∈ l, cmpN f.n m < 0) : getF l m = none := by
  rw [get_none]; unfold hasF namesF; rw [hasN_not]
  intro hm; obtain ⟨f, hf, rfl⟩ := List.mem_map.1 hm; have := h f hf; rw [cmpN_self] at this; omega
theorem get_gt {l : List Fl} {m : ByteArray} (h : ∀ f ∈ l, cmpN m f.n < 0) : getF l m = none := by
  rw [get_none]; unfold hasF namesF; rw [hasN_not]
  intro hm; obtain ⟨f, hf, rfl⟩ := List.mem_map.1 hm; have := h f hf; rw [cmpN_self] at this; omega
theorem get_put {l : List Fl} {f : Fl} (h : hasF l f.n = false) (m : ByteArray) : getF (putF l f) m = if m = f.n then some f.d else getF l m := by
  unfold putF
  rw [get_app, get_cons]
  have e : getF l m = (getF (l.take (posF l f.n)) m).or (getF (l.drop (posF l f.n)) m) := by rw [← get_app, List.take_append_drop]
  split
  · rename_i hm
    have h0 := get_none.2 h
    rw [← hm, e] at h0
    cases hx : getF (List.take (posF l f.n) l) m
    · rfl
    · rw [hx] at h0; simp at h0
  · rw [e]
theorem get_take {l : List Fl} {n : ByteArray} (hs : SortedF l) (m : ByteArray) : getF (takeF l n) m = if m = n then none else getF l m := by
  by_cases h : hasF l n = true
  · by_cases hm : m = n
    · subst hm; rw [if_pos rfl, get_none]; exact has_take hs
    · obtain ⟨A, d, B, e, hp, ha, hb, _⟩ := parted hs h
      obtain ⟨e1, _, e3, _⟩ := take_of_parts e hp
      unfold takeF
      rw [if_pos h, e1, e3, if_neg hm, get_app, e, get_app, get_cons, if_neg hm]
  · have h0 : hasF l n = false := by simpa using h
    unfold takeF
    rw [if_neg h]
    split
    · rename_i hm; rw [hm]; exact get_none.2 h0
    · rfl
theorem get_old {l : List Fl} {n : ByteArray} (hs : SortedF l) (h : hasF l n = true) : getF l n = some (oldF l n).d := by
  obtain ⟨A, d, B, e, hp, ha, hb, ho⟩ := parted hs h
  rw [ho, e, get_app, get_lt ha, get_cons, if_pos rfl]; rfl
theorem empty_app (d : ByteArray) : (⟨#[]⟩ : ByteArray) ++ d = d := by apply str_ext; simp
theorem get_ext {l : List Fl} {n d : ByteArray} (hs : SortedF l) (m : ByteArray) : getF (extF l n d) m = if m = n then some ((getF l n).getD ⟨#[]⟩ ++ d) else getF l m := by
  unfold extF
  by_cases h : hasF l n = true
  · obtain ⟨A, x, B, e, hp, ha, hb, ho⟩ := parted hs h
    rw [if_pos h, get_old hs h, ho]
    have : l.set (posF l n) ⟨n, x ++ d⟩ = A ++ ⟨n, x ++ d⟩ :: B := by
      rw [← hp, e]; simp
    dsimp only
    rw [this, get_app, get_cons]
    by_cases hm : m = n
    · subst hm; rw [if_pos rfl, if_pos rfl, get_lt ha]; simp
    · rw [if_neg hm, if_neg hm, e, get_app, get_cons, if_neg hm]
  · have h0 : hasF l n = false := by simpa using h
    rw [if_neg h, get_put h0, get_none.2 h0]; rfl
theorem get_ren {l : List Fl} {n t : ByteArray} (hs : SortedF l) (h : hasF l n = true) (m : ByteArray) : getF (renF l n t) m = if m = t then getF l n else if m = n then none else getF l m := by
  unfold renF
  have h1 := has_take (n := t) (sorted_take (n := n) hs)
  rw [if_pos h, get_put (f := ⟨t, (oldF l n).d⟩) h1, get_take (sorted_take hs), get_take hs, get_old hs h]
  dsimp only
  split
  · rfl
  · rfl
/-- files that ascend are what is there of each name -/
theorem files_ext : ∀ {l k : List Fl}, SortedF l → SortedF k → (∀ m, getF l m = getF k m) → l = k
  | [], [], _, _, _ => rfl
  | [], f :: k, _, _, h => by have := h f.n; rw [get_cons, if_pos rfl] at this; simp [getF] at this
  | f :: l, [], _, _, h => by have := h f.n; rw [get_cons, if_pos rfl] at this; simp [getF] at this
  | f :: l, g :: k, hl, hk, h => by
    obtain ⟨a1, a2⟩ := List.pairwise_cons.1 (show List.Pairwise _ (f.n :: l.map Fl.n) from hl)
    obtain ⟨b1, b2⟩ := List.pairwise_cons.1 (show List.Pairwise _ (g.n :: k.map Fl.n) from hk)
    have al : ∀ x ∈ l, cmpN f.n x.n < 0 := fun x hx => a1 x.n (List.mem_map_of_mem hx)
    have bl : ∀ x ∈ k, cmpN g.n x.n < 0 := fun x hx => b1 x.n (List.mem_map_of_mem hx)
    have hfg : f.n = g.n := by
      by_cases h0 : f.n = g.n
      · exact h0
      · exfalso
        have h1 := h f.n
        rw [get_cons, if_pos rfl, get_cons, if_neg h0] at h1
        have h2 := h g.n
        rw [get_cons, if_neg (fun e => h0 e.symm), get_cons, if_pos rfl] at h2
        by_cases hc : cmpN f.n g.n < 0
        · have : getF k f.n = none := get_gt fun x hx => cmpN_lt hc (bl x hx)
          rw [this] at h1; cases h1
        · have hc2 : cmpN g.n f.n < 0 := by
            have := cmpN_swap f.n g.n
            have h3 : cmpN f.n g.n ≠ 0 := fun e => h0 (cmpN_zero.1 e)
            omega
          have : getF l g.n = none := get_gt fun x hx => cmpN_lt hc2 (al x hx)
          rw [this] at h2; cases h2
    have hd : f.d = g.d := by
      have h1 := h f.n
      rw [get_cons, if_pos rfl, get_cons, if_pos hfg] at h1
      exact Option.some.inj h1
    have hfe : f = g := by cases f; cases g; simp_all
    subst hfe
    have : l = k := files_ext a2 b2 fun m => by
      have h1 := h m
      rw [get_cons, get_cons] at h1
      by_cases hm : m = f.n
      · rw [hm, get_gt al, get_gt bl]
      · rwa [if_neg hm, if_neg hm] at h1
    rw [this]
/-- how much they contain -/
def szF (l : List Fl) : Nat := (l.map (fun f => f.d.size)).sum
theorem szF_app (A B : List Fl) : szF (A ++ B) = szF A + szF B := by unfold szF; simp
theorem szF_cons (f : Fl) (B : List Fl) : szF (f :: B) = f.d.size + szF B := by unfold szF; simp
theorem szF_put (l : List Fl) (f : Fl) : szF (putF l f) = szF l + f.d.size := by
  unfold putF
  have : szF l = szF (l.take (posF l f.n)) + szF (l.drop (posF l f.n)) := by rw [← szF_app, List.take_append_drop]
  rw [szF_app, szF_cons, this]; omega
theorem szF_take {l : List Fl} {n : ByteArray} (hs : SortedF l) (h : hasF l n = true) : szF (takeF l n) + (oldF l n).d.size = szF l := by
  obtain ⟨A, d, B, e, hp, _, _, ho⟩ := parted hs h
  obtain ⟨e1, _, e3, _⟩ := take_of_parts e hp
  unfold takeF
  rw [if_pos h, e1, e3, ho, e, szF_app, szF_app, szF_cons]
  dsimp only; omega
theorem bsize_app (a b : ByteArray) : (a ++ b).size = a.size + b.size := ByteArray.size_append ..
theorem szF_ext {l : List Fl} {n d : ByteArray} (hs : SortedF l) : szF (extF l n d) = szF l + d.size := by
  unfold extF
  by_cases h : hasF l n = true
  · obtain ⟨A, x, B, e, hp, _, _, ho⟩ := parted hs h
    rw [if_pos h, ho]
    have : l.set (posF l n) ⟨n, x ++ d⟩ = A ++ ⟨n, x ++ d⟩ :: B := by rw [← hp, e]; simp
    dsimp only
    rw [this, e, szF_app, szF_app, szF_cons, szF_cons]
    dsimp only
    rw [bsize_app]; omega
  · rw [if_neg h, szF_put]
    dsimp only
    rw [empty_app]
theorem len_put (l : List Fl) (f : Fl) : (putF l f).length = l.length + 1 := by
  unfold putF; have := posF_le l f.n; simp; omega
theorem len_take {l : List Fl} {n : ByteArray} : (takeF l n).length ≤ l.length := by
  unfold takeF; split
  · simp; omega
  · omega
theorem len_take_has {l : List Fl} {n : ByteArray} (hs : SortedF l) (h : hasF l n = true) : (takeF l n).length + 1 = l.length := by
  obtain ⟨A, d, B, e, hp, _, _, _⟩ := parted hs h
  obtain ⟨e1, _, e3, _⟩ := take_of_parts e hp
  unfold takeF
  rw [if_pos h, e1, e3, e]; simp; omega
/-- what writes do -/
structure Wr where
  k : Int
  n : ByteArray
  t : ByteArray
  d : ByteArray
instance : Inhabited Wr := ⟨⟨0, ⟨#[]⟩, ⟨#[]⟩, ⟨#[]⟩⟩⟩
def appF (l : List Fl) (w : Wr) : List Fl := if w.k = 1 then extF l w.n w.d else if w.k = 2 then renF l w.n w.t else if w.k = 3 then takeF l w.n else l
def baseF (fs : List Fl) : List Fl := fs.foldl (fun l f => extF l f.n f.d) []
def lookF (fs : List Fl) (ws : List Wr) : List Fl := ws.foldl appF (baseF fs)
theorem sorted_app {l : List Fl} {w : Wr} (hs : SortedF l) : SortedF (appF l w) := by
  unfold appF
  split
  · exact sorted_ext hs
  · split
    · exact sorted_ren hs
    · split
      · exact sorted_take hs
      · exact hs
theorem ext_end {A : List Fl} {f : Fl} (h : ∀ x ∈ A, cmpN x.n f.n < 0) : extF A f.n f.d = A ++ [f] := by
  have h0 : hasF A f.n = false := get_none.1 (get_lt h)
  unfold extF
  rw [if_neg (by simp [h0])]
  have hp : posF A f.n = A.length := by
    unfold posF posN
    rw [List.countP_eq_length.2]
    · simp [namesF]
    · intro x hx
      obtain ⟨y, hy, rfl⟩ := List.mem_map.1 hx
      simpa using h y hy
  unfold putF
  dsimp only
  rw [hp, empty_app]; simp
theorem base_from : ∀ (fs A : List Fl), SortedF (A ++ fs) → fs.foldl (fun l f => extF l f.n f.d) A = A ++ fs
  | [], A, _ => by simp
  | f :: fs, A, h => by
    have h1 : ∀ x ∈ A, cmpN x.n f.n < 0 := by
      unfold SortedF SortedN namesF at h
      rw [List.map_append, List.pairwise_append] at h
      exact fun x hx => h.2.2 x.n (List.mem_map_of_mem hx) f.n (by simp)
    rw [List.foldl_cons, ext_end h1, base_from fs (A ++ [f]) (by simpa using h)]
    simp
theorem base_sorted {fs : List Fl} (h : SortedF fs) : baseF fs = fs := base_from fs [] (by simpa using h)
theorem sorted_look : ∀ (ws : List Wr) {l : List Fl}, SortedF l → SortedF (ws.foldl appF l)
  | [], _, h => h
  | w :: ws, _, h => sorted_look ws (sorted_app h)
end Go.Proofs.Ytmddiiidofmklaa
namespace Go.Proofs.Ytmddiiidofmklaa
open Go Go.RowKit

def rightN (n : ByteArray) : Bool := decide (1 ≤ n.size) && decide (n.size ≤ 32)
def noB (s : ByteArray) : Bool := decide (s.size = 0)
def rightW (w : Wr) : Bool := rightN w.n && (if w.k = 1 then noB w.t else if w.k = 2 then rightN w.t && noB w.d else if w.k = 3 then noB w.t && noB w.d else false)
def ascN : List ByteArray → Bool
  | [] => true
  | x :: r => (match r with | [] => true | y :: _ => decide (cmpN x y < 0)) && ascN r
def rightFs (fs : List Fl) : Bool := decide (fs.length ≤ 256) && (fs.all (fun f => rightN f.n) && ascN (namesF fs))
def okW : List Fl → List Wr → Bool
  | _, [] => true
  | l, w :: ws => rightW w && (decide ((appF l w).length ≤ 256) && okW (appF l w) ws)
def rightWs (fs : List Fl) (ws : List Wr) : Bool := decide (ws.length ≤ 4096) && okW (baseF fs) ws
/-- a disk -/
structure Dk where
  files : List Fl
  waits : List Wr
  room : Int
  down : Bool
  fuse : Int
def Dk.zero : Dk := ⟨[], [], 0, false, 0⟩
def goodD (d : Dk) : Bool := decide (0 ≤ d.room) && (rightFs d.files && rightWs d.files d.waits)
def chkD (d : Dk) : Int := if goodD d then 0 else 8
def seen (d : Dk) : List Fl := lookF d.files d.waits
def lessN (n : Int) : Int := if 0 < n then n - 1 else n
def writeD (d : Dk) (l : List Fl) (w : Wr) : Dk × List Fl × Int :=
  if d.down then (d, l, 7) else if rightW w = false then (d, l, 4) else if w.k ≠ 1 ∧ hasF l w.n = false then (d, l, 5) else
  if 4096 ≤ d.waits.length ∨ 256 < (appF l w).length ∨ d.room < (szF (appF l w) : Int) then (d, appF l w, 9) else
  if d.fuse = 0 then (⟨d.files, if w.k = 1 then d.waits ++ [w] else d.waits, d.room, true, d.fuse⟩, appF l w, 7)
  else (⟨d.files, d.waits ++ [w], d.room, d.down, lessN d.fuse⟩, appF l w, 0)
def doS (d : Dk) (l : List Fl) : List Wr → Dk × Int
  | [] => (d, 0)
  | w :: ws => if (writeD d l w).2.2 = 0 then doS (writeD d l w).1 (writeD d l w).2.1 ws else ((writeD d l w).1, (writeD d l w).2.2)
def doD (d : Dk) (ws : List Wr) : Dk × Int := if goodD d then doS d (seen d) ws else (.zero, 8)
def seeD (d : Dk) : List Fl × Int := if goodD d then (if d.down then ([], 7) else (seen d, 0)) else ([], 8)
def readF (l : List Fl) (n : ByteArray) : ByteArray × Int := match getF l n with | some x => (x, 0) | none => (⟨#[]⟩, 5)
def readD (d : Dk) (n : ByteArray) : ByteArray × Int := if goodD d then (if d.down then (⟨#[]⟩, 7) else readF (seen d) n) else (⟨#[]⟩, 8)
def syncD (d : Dk) : Dk × Int :=
  if goodD d then (if d.down then (d, 7) else if d.fuse = 0 then (⟨d.files, d.waits, d.room, true, d.fuse⟩, 7) else (⟨seen d, [], d.room, d.down, lessN d.fuse⟩, 0)) else (.zero, 8)
def keepN (keep : Int) (n : Nat) : Nat := min keep.toNat n
def tornF (l : List Fl) (w : Option Wr) (tear : Int) : List Fl := match w with | some w => if w.k = 1 ∧ 1 ≤ tear then extF l w.n (w.d.extract 0 (min tear.toNat w.d.size)) else l | none => l
def leftD (d : Dk) (keep tear : Int) : List Fl := tornF (lookF d.files (d.waits.take (keepN keep d.waits.length))) d.waits[keepN keep d.waits.length]? tear
def crashD (d : Dk) (keep tear : Int) : Dk × Int := if goodD d then (⟨leftD d keep tear, [], d.room, false, -1⟩, 0) else (.zero, 8)

theorem asc_sorted : ∀ {ns : List ByteArray}, ascN ns = true ↔ SortedN ns
  | [] => by simp [ascN, SortedN]
  | [x] => by simp [ascN, SortedN]
  | x :: y :: r => by
    have ih := asc_sorted (ns := y :: r)
    unfold ascN
    rw [Bool.and_eq_true, ih, decide_eq_true_eq]
    unfold SortedN
    rw [List.pairwise_cons (a := x)]
    constructor
    · rintro ⟨h1, h2⟩
      refine ⟨fun z hz => ?_, h2⟩
      rcases List.mem_cons.1 hz with rfl | hz
      · exact h1
      · exact cmpN_lt h1 ((List.pairwise_cons.1 h2).1 z hz)
    · rintro ⟨h1, h2⟩
      exact ⟨h1 y (by simp), h2⟩
theorem rightFs_iff {fs : List Fl} : rightFs fs = true ↔ fs.length ≤ 256 ∧ (∀ f ∈ fs, rightN f.n = true) ∧ SortedF fs := by
  unfold rightFs SortedF
  rw [Bool.and_eq_true, Bool.and_eq_true, asc_sorted]
  simp
theorem good_iff {d : Dk} : goodD d = true ↔ 0 ≤ d.room ∧ (d.files.length ≤ 256 ∧ (∀ f ∈ d.files, rightN f.n = true) ∧ SortedF d.files) ∧ d.waits.length ≤ 4096 ∧ okW d.files d.waits = true := by
  unfold goodD rightWs
  rw [Bool.and_eq_true, Bool.and_eq_true, Bool.and_eq_true, rightFs_iff]
  constructor
  · rintro ⟨h1, ⟨h2, h3, h4⟩, h5, h6⟩
    rw [base_sorted h4] at h6
    exact ⟨by simpa using h1, ⟨h2, h3, h4⟩, by simpa using h5, h6⟩
  · rintro ⟨h1, ⟨h2, h3, h4⟩, h5, h6⟩
    rw [base_sorted h4]
    exact ⟨by simpa using h1, ⟨h2, h3, h4⟩, by simpa using h5, h6⟩
theorem seen_good {d : Dk} (h : goodD d = true) : seen d = d.waits.foldl appF d.files := by
  unfold seen lookF; rw [base_sorted (good_iff.1 h).2.1.2.2]
theorem seen_sorted {d : Dk} (h : goodD d = true) : SortedF (seen d) := by rw [seen_good h]; exact sorted_look _ (good_iff.1 h).2.1.2.2
theorem okW_app : ∀ {l : List Fl} {a b : List Wr}, okW l (a ++ b) = (okW l a && okW (a.foldl appF l) b)
  | l, [], b => by simp [okW]
  | l, w :: a, b => by
    have e : ∀ (l : List Fl) (w : Wr) (ws : List Wr), okW l (w :: ws) = (rightW w && (decide ((appF l w).length ≤ 256) && okW (appF l w) ws)) := fun _ _ _ => rfl
    rw [List.cons_append, e, okW_app, e, List.foldl_cons]
    simp only [Bool.and_assoc]
theorem okW_more {l : List Fl} {ws : List Wr} {w : Wr} (h : okW l ws = true) (hw : rightW w = true) (hn : (appF (ws.foldl appF l) w).length ≤ 256) : okW l (ws ++ [w]) = true := by
  rw [okW_app, h]
  simp [okW, hw, hn]
theorem okW_cons {l : List Fl} {w : Wr} {ws : List Wr} (h : okW l (w :: ws) = true) : rightW w = true ∧ (appF l w).length ≤ 256 ∧ okW (appF l w) ws = true := by
  unfold okW at h
  rw [Bool.and_eq_true, Bool.and_eq_true] at h
  exact ⟨h.1, by simpa using h.2.1, h.2.2⟩
theorem okW_len : ∀ (ws : List Wr) {l : List Fl}, l.length ≤ 256 → okW l ws = true → (ws.foldl appF l).length ≤ 256
  | [], _, h, _ => h
  | w :: ws, l, _, h => okW_len ws (okW_cons h).2.1 (okW_cons h).2.2
def Named (l : List Fl) : Prop := ∀ f ∈ l, rightN f.n = true
theorem named_of {l : List Fl} : Named l ↔ ∀ n ∈ namesF l, rightN n = true := by unfold Named namesF; simp
theorem named_put {l : List Fl} {f : Fl} (h : Named l) (hf : rightN f.n = true) : Named (putF l f) := by
  intro x hx
  unfold putF at hx
  rcases List.mem_append.1 hx with hx | hx
  · exact h x (List.mem_of_mem_take hx)
  · rcases List.mem_cons.1 hx with rfl | hx
    · exact hf
    · exact h x (List.mem_of_mem_drop hx)
theorem named_take {l : List Fl} {n : ByteArray} (h : Named l) : Named (takeF l n) := by
  intro x hx
  unfold takeF at hx
  split at hx
  · rcases List.mem_append.1 hx with hx | hx
    · exact h x (List.mem_of_mem_take hx)
    · exact h x (List.mem_of_mem_drop hx)
  · exact h x hx
theorem named_ext {l : List Fl} {n d : ByteArray} (hn : rightN n = true) (h : Named l) : Named (extF l n d) := by
  unfold extF
  split
  · intro x hx
    rcases List.mem_or_eq_of_mem_set hx with hx | rfl
    · exact h x hx
    · exact hn
  · exact named_put h hn
theorem named_app {l : List Fl} {w : Wr} (hw : rightW w = true) (h : Named l) : Named (appF l w) := by
  unfold rightW at hw
  rw [Bool.and_eq_true] at hw
  unfold appF
  split
  · exact named_ext hw.1 h
  · rename_i h1
    split
    · rename_i h2
      have h3 : rightN w.t = true := by
        have := hw.2
        rw [if_neg h1, if_pos h2, Bool.and_eq_true] at this
        exact this.1
      unfold renF
      split
      · exact named_put (named_take (named_take h)) h3
      · exact h
    · split
      · exact named_take h
      · exact h
theorem named_look : ∀ (ws : List Wr) {l : List Fl}, Named l → okW l ws = true → Named (ws.foldl appF l)
  | [], _, h, _ => h
  | _ :: ws, _, h, k => named_look ws (named_app (okW_cons k).1 h) (okW_cons k).2.2
/-- what a write leaves -/
theorem write_good {d : Dk} {l : List Fl} {w : Wr} (h : goodD d = true) (hl : l = seen d) :
    goodD (writeD d l w).1 = true ∧ ((writeD d l w).2.2 = 0 → (writeD d l w).2.1 = seen (writeD d l w).1 ∧ (writeD d l w).1.down = false ∧ d.down = false) := by
  have hg := good_iff.1 h
  have hs := seen_good h
  have key : ∀ (r : Bool) (x : Int), rightW w = true → d.waits.length < 4096 → (appF l w).length ≤ 256 → goodD ⟨d.files, d.waits ++ [w], d.room, r, x⟩ = true := by
    intro r x h1 h2 h3
    rw [good_iff]
    refine ⟨hg.1, hg.2.1, by simp; omega, okW_more hg.2.2.2 h1 ?_⟩
    rw [← hs, ← hl]; exact h3
  have hseen : ∀ (r : Bool) (x : Int), appF l w = seen ⟨d.files, d.waits ++ [w], d.room, r, x⟩ := by
    intro r x
    unfold seen lookF
    dsimp only
    rw [List.foldl_append, hl]; rfl
  have hsame : ∀ (r : Bool) (x : Int), goodD ⟨d.files, d.waits, d.room, r, x⟩ = true := fun r x => good_iff.2 hg
  unfold writeD
  by_cases h1 : d.down = true
  · rw [if_pos h1]; exact ⟨h, fun h => by simp at h⟩
  rw [if_neg h1]
  by_cases h2 : rightW w = false
  · rw [if_pos h2]; exact ⟨h, fun h => by simp at h⟩
  rw [if_neg h2]
  by_cases h3 : w.k ≠ 1 ∧ hasF l w.n = false
  · rw [if_pos h3]; exact ⟨h, fun h => by simp at h⟩
  rw [if_neg h3]
  by_cases h4 : 4096 ≤ d.waits.length ∨ 256 < (appF l w).length ∨ d.room < (szF (appF l w) : Int)
  · rw [if_pos h4]; exact ⟨h, fun h => by simp at h⟩
  rw [if_neg h4]
  have h2' : rightW w = true := by simpa using h2
  by_cases h5 : d.fuse = 0
  · rw [if_pos h5]
    refine ⟨?_, fun h => by simp at h⟩
    by_cases h6 : w.k = 1
    · rw [if_pos h6]; exact key _ _ h2' (by omega) (by omega)
    · rw [if_neg h6]; exact hsame _ _
  · rw [if_neg h5]
    exact ⟨key _ _ h2' (by omega) (by omega), fun _ => ⟨hseen _ _, by simpa using h1, by simpa using h1⟩⟩
theorem do_good : ∀ (ws : List Wr) {d : Dk} {l : List Fl}, goodD d = true → l = seen d →
    goodD (doS d l ws).1 = true ∧ ∀ more, doS d l (ws ++ more) = if (doS d l ws).2 = 0 then doS (doS d l ws).1 (seen (doS d l ws).1) more else doS d l ws
  | [], d, l, h, hl => ⟨h, fun more => by simp [doS, hl]⟩
  | w :: ws, d, l, h, hl => by
    obtain ⟨h1, h2⟩ := write_good (w := w) h hl
    simp only [doS, List.cons_append]
    by_cases hz : (writeD d l w).2.2 = 0
    · simp only [if_pos hz]
      exact do_good ws h1 (h2 hz).1
    · simp only [if_neg hz]
      exact ⟨h1, fun more => by simp⟩
/-- writes done together are done as one by one -/
theorem do_parts (d : Dk) (a b : List Wr) : doD d (a ++ b) = if (doD d a).2 = 0 then doD (doD d a).1 b else doD d a := by
  unfold doD
  by_cases h : goodD d = true
  · simp only [if_pos h]
    obtain ⟨h1, h2⟩ := do_good a h rfl
    rw [h2 b]
    split
    · rename_i hz; simp only [h1, if_true]
    · rfl
  · simp only [if_neg h]
    rfl
/-- a file called otherwise -/
theorem swap_read {d : Dk} {a b : ByteArray} (hw : (doD d [⟨2, a, b, ⟨#[]⟩⟩]).2 = 0) :
    (readD d a).2 = 0 ∧ readD (doD d [⟨2, a, b, ⟨#[]⟩⟩]).1 b = readD d a ∧ ((readD (doD d [⟨2, a, b, ⟨#[]⟩⟩]).1 a).2 = 5 ↔ a ≠ b) := by
  unfold doD at hw ⊢
  by_cases h : goodD d = true
  · simp only [if_pos h] at hw ⊢
    simp only [doS] at hw ⊢
    obtain ⟨h1, h2⟩ := write_good (w := ⟨2, a, b, ⟨#[]⟩⟩) h rfl
    by_cases hz : (writeD d (seen d) ⟨2, a, b, ⟨#[]⟩⟩).2.2 = 0
    · obtain ⟨e1, e2, e0⟩ := h2 hz
      simp only [if_pos hz]
      have hne : hasF (seen d) a = true := by
        cases hx : hasF (seen d) a
        · exfalso
          unfold writeD at hz
          split at hz
          · simp at hz
          · split at hz
            · simp at hz
            · rw [if_pos ⟨by simp, hx⟩] at hz; simp at hz
        · rfl
      have e3 : seen (writeD d (seen d) ⟨2, a, b, ⟨#[]⟩⟩).1 = renF (seen d) a b := by
        rw [← e1]
        unfold writeD at hz ⊢
        split at hz
        · simp at hz
        · rename_i q1
          rw [if_neg q1]
          split at hz
          · simp at hz
          · rename_i q2
            rw [if_neg q2]
            split at hz
            · simp at hz
            · rename_i q3
              rw [if_neg q3]
              split
              · rfl
              · split <;> rfl
      have hs := seen_sorted h
      have g1 := get_ren (t := b) hs hne
      unfold readD
      rw [if_pos h1, if_pos h1, if_pos h]
      simp only [e2, Bool.false_eq_true, if_false, e3, e0, readF, g1]
      rw [get_old hs hne]
      refine ⟨rfl, by simp, ?_⟩
      by_cases hab : a = b
      · subst hab; simp
      · simp [hab]
    · simp only [if_neg hz] at hw
      exact absurd hw hz
  · simp only [if_neg h] at hw
    simp at hw
end Go.Proofs.Ytmddiiidofmklaa
