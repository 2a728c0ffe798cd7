/- A row copied; an update with rows of its own. -/
import Derived.Test.YtpfjeibhklacbaaDPre
import Derived.Test.YtpfjeibhklacbaaAppendVl
import Derived.Lib.SlBuf
import Derived.Laws.CopyOwn
import Derived.OwnWalk
namespace Go.Proofs.Ytpfjeibhklacbaa
open Go Go.RowKit

theorem own_made {w : World} {base g n s : Nat} {e : TypeId} {xs : List Value} (h : w.ownsRow base e s (.slice (some ⟨g, 0, none⟩) n n) n xs) : Own w g e xs := by
  rcases h.2 with ⟨h0, _⟩ | ⟨g', cap, cur, hv, hb, hg, h1, h2, h3, h4⟩
  · cases h0
  · simp only [Value.slice.injEq, Option.some.injEq, Addr.mk.injEq, and_true] at hv
    obtain ⟨rfl, _, rfl⟩ := hv
    rw [List.take_of_length_le (by rw [Array.length_toList, h3]; exact Nat.le_refl _)] at h4
    subst h4
    unfold Own
    rw [hg]
/-- 'copy' of as many elements of some cells each as there are -/
theorem run_copy_all {P : Program} (w : World) (dT sT ty elem : TypeId) (g n c c' k : Nat) (a : Addr) (cur cs : List Value) (t : TypeId) (hu : P.underlying dT = some (.slice elem)) (hs : (P.info? elem).map (·.size) = some k)
    (hg : Own w g t cur) (hcl : cs.length = n * k) (hsrc : ∀ j v, cs[j]? = some v → w.cell? (a.add j) = some v) (hfit : cs.length = cur.length) (h1 : ∀ v ∈ cs, v.oneCell' = true) :
    (Builtin.copy_ #[dT, sT] ty #[.slice (some ⟨g, 0, none⟩) n c, .slice (some a) n c']).run P w = .ok (goInt n) (w.setRow g cs.toArray) := by
  have hl := run_loadCells_list (P := P) w a cs hsrc
  have hst := run_storeCells_at P g 0 t cs 0 cur.toArray w hg (by simp; omega) h1
  have hcur : (cur.toArray.toList.take 0 ++ cs ++ cur.toArray.toList.drop (0 + cs.length)).toArray = cs.toArray := by
    rw [Nat.zero_add, hfit]; simp
  cases hq : P.info? elem with
  | none => simp [hq] at hs
  | some i =>
    have hi : i.size = k := by simpa [hq] using hs
    have hm : Nat.min n n = n := Nat.min_self n
    simp only [Nat.add_zero, Nat.zero_add] at hst
    have hz : (List.take 0 cur ++ cs ++ List.drop cs.length cur) = cs := by rw [hfit]; simp
    rw [hz] at hst
    simp [Builtin.copy_, run_underlying hu, Builtin.lenOf, Builtin.firstCells, sizeOf, typeInfo, hq, hi, hm, ← hcl, hl, hst]
theorem own_setRow {w : World} {g : Nat} {t : TypeId} {cur cs : List Value} (h : Own w g t cur) : Own (w.setRow g cs.toArray) g t cs := by
  unfold Own at *
  simp [World.setRow, Array.getElem?_modify, h]
set_option maxRecDepth 100000 in
set_option maxHeartbeats 3200000 in
theorem listV_any (A : Option Addr) (c : Nat) (l : List Vl) (w : World) (hl : Vals w w.heap.size A l) (hn : l.length * 32 ≤ 281474976710656) :
    Calls Try.prog 49 #[.slice A l.length c] w fun x w' => ∃ A' c', x = .returned (.slice A' l.length c') ∧ Vals w' w'.heap.size A' l ∧ (∀ b o, A' = some ⟨b, o, none⟩ → w.heap.size ≤ b ∧ b < w'.heap.size) ∧ Below w.heap.size w w' := by
  obtain ⟨i0, hi, hz0, hz1, hz2⟩ := info_parts infoVl
  have hU := Try.underlying32
  have hsz1 : (Try.prog.info? 86).map (·.size) = some 3 := by rw [hi]; simp [hz1]
  cases l with
  | nil =>
    clear hl hn hi hz0 hz1 hz2 hU hsz1
    go_enter Try.func49, Try.ntmps49
    go_wp2_with fail
    go_ret
    exact ⟨_, _, rfl, fun h => absurd h (by simp), fun _ _ h => (by cases h), Below.refl _ _⟩
  | cons t l =>
    obtain ⟨b, o, rfl, hB, hc⟩ := hl (by simp)
    obtain ⟨m, hm⟩ : ∃ m, m = t :: l := ⟨_, rfl⟩
    have hpos : 0 < m.length := by rw [hm]; simp
    rw [← hm] at hc hn ⊢
    have t1 : ((m.length : Int) == 0) = false := beq_eq_false_iff_ne.2 (by omega)
    have HC := Lib.hid hc
    clear hc hm hl
    go_enter Try.func49, Try.ntmps49
    go_wp2_with (refine wpList_make_full _ rfl (.tmp 8) (.tmp 8) 32 rfl w.heap.size 86 i0 _ 3 hU hi hz0 hz1 .i64 .i64 _ _ m.length rfl rfl rfl rfl ?c1 ?c2 ?c3 ?_)
    case c1 => rw [hz2]; omega
    case c2 => unfold maxLen; omega
    case c3 => exact Nat.le_refl _
    intro w1 ho1 hg1
    obtain ⟨cur, ho1⟩ : ∃ cur, w1.ownsRow w.heap.size 86 3 (.slice (some ⟨w.heap.size, 0, none⟩) m.length m.length) m.length cur := ⟨_, ho1⟩
    have hm1 := own_made ho1
    have hb1 : Below w.heap.size w w1 := (Below.refl _ _).grown hg1 (Nat.le_refl _) (fun k h => by cases h)
    have hlen1 : cur.length = m.length * 3 := ho1.1
    have hcl : (m.flatMap Vl.cells).length = m.length * 3 := flat_size (size := 3) (cells := Vl.cells) (fun _ => rfl) m
    have hsrc : ∀ j v, (m.flatMap Vl.cells)[j]? = some v → w1.cell? ((⟨b, o, none⟩ : Addr).add j) = some v := fun j v hv => by
      obtain ⟨i, r, x, rfl, hx, hr⟩ := flat_back (size := 3) (cells := Vl.cells) (by decide) (fun _ => rfl) m j v hv
      have ea : (⟨b, o, none⟩ : Addr).add (i * 3 + r) = ⟨b, o + i * 3 + r, none⟩ := by unfold Addr.add; split <;> simp_all <;> omega
      rw [ea, hb1.cell (p := ⟨b, o + i * 3 + r, none⟩) hB]
      obtain ⟨a0, a1, a2⟩ := HC.out i x hx
      match r, hr with
      | 0, hr => rw [← hr]; exact a0
      | 1, hr => rw [← hr]; exact a1
      | 2, hr => rw [← hr]; exact a2
    have hrun := fun ty => run_copy_all (P := Try.prog) w1 32 32 ty 86 w.heap.size m.length m.length c 3 ⟨b, o, none⟩ cur (m.flatMap Vl.cells) 86 hU hsz1 hm1 hcl hsrc (by rw [hcl, hlen1]) (fun v hv => by
      obtain ⟨x, _, hx⟩ := List.mem_flatMap.1 hv
      exact vl_one x v hx)
    have ho2 : Own (w1.setRow w.heap.size (m.flatMap Vl.cells).toArray) w.heap.size 86 (m.flatMap Vl.cells) := own_setRow hm1
    have hb2 : Below w.heap.size w (w1.setRow w.heap.size (m.flatMap Vl.cells).toArray) := below_setRow hb1 (Nat.le_refl _) _
    have HR := Lib.hid hrun
    obtain ⟨w2, hw2⟩ : ∃ w2, w2 = w1.setRow w.heap.size (m.flatMap Vl.cells).toArray := ⟨_, rfl⟩
    rw [← hw2] at HR ho2 hb2
    have H2 := Lib.hid (And.intro ho2 hb2)
    clear hw2 hrun ho2 hb2 hsrc hcl hm1 hb1 hlen1 ho1 hg1 hU hsz1 hi hz0 hz1 hz2
    go_wp2_with (refine Lib.wpList_copy_run _ rfl _ _ 32 32 rfl _ _ rfl rfl (HR.out _) ?_)
    go_wp2_with fail
    go_ret
    refine ⟨_, _, rfl, fun _ => ⟨w.heap.size, 0, rfl, H2.out.1.inside, fun i x hx => ?_⟩, fun b' o' e => ?_, H2.out.2⟩
    · have := fun r v hr => flat_of (cells := Vl.cells) (size := 3) (fun _ => rfl) m i r x v hx hr
      refine ⟨?_, ?_, ?_⟩
      · rw [H2.out.1.at_]; exact (by simpa using this 0 _ rfl)
      · rw [H2.out.1.at_]; exact (by simpa using this 1 _ rfl)
      · rw [H2.out.1.at_]; exact (by simpa using this 2 _ rfl)
    · simp only [Option.some.injEq, Addr.mk.injEq, and_true] at e
      have := H2.out.1.inside
      omega
end Go.Proofs.Ytpfjeibhklacbaa
namespace Go.Proofs.Ytpfjeibhklacbaa
open Go Go.RowKit

theorem ret_box (w : World) (u : Up) : ∃ V, V = (w.alloc (.cells #[.slice u.kA u.key.length u.kc, .slice u.rA u.row.length u.rc, .int .u64 (u.t.e : Int), .int .u64 (u.t.a : Int), .int .u64 (u.t.b : Int), .int .i64 u.d] 38)).alloc (.cells #[.slice none 0 0, .slice none 0 0, .int .u64 0, .int .u64 0, .int .u64 0, .int .i64 0] 38) ∧ Below w.heap.size w V ∧ Own V w.heap.size 38 u.cells ∧ Own V (w.heap.size + 1) 38 [.slice none 0 0, .slice none 0 0, .int .u64 0, .int .u64 0, .int .u64 0, .int .i64 0] := by
  refine ⟨_, rfl, ((Below.refl _ _).alloc (Nat.le_refl _) _).alloc (by simp) _, (Own.made w 38 u.cells).more _, ?_⟩
  have := Own.made (w.alloc (.cells #[.slice u.kA u.key.length u.kc, .slice u.rA u.row.length u.rc, .int .u64 (u.t.e : Int), .int .u64 (u.t.a : Int), .int .u64 (u.t.b : Int), .int .i64 u.d] 38)) 38 [.slice none 0 0, .slice none 0 0, .int .u64 0, .int .u64 0, .int .u64 0, .int .i64 0]
  rw [show (w.alloc (.cells #[.slice u.kA u.key.length u.kc, .slice u.rA u.row.length u.rc, .int .u64 (u.t.e : Int), .int .u64 (u.t.a : Int), .int .u64 (u.t.b : Int), .int .i64 u.d] 38)).heap.size = w.heap.size + 1 by simp] at this
  exact this
theorem own_six {w : World} {P : Nat} {t : TypeId} {z0 z1 z2 z3 z4 z5 : Value} (h : Own w P t [z0, z1, z2, z3, z4, z5]) (a b c d e f : Value) :
    ∃ X, X = ((((((w.setCell ⟨P, 0, none⟩ a).setCell ⟨P, 1, none⟩ b).setCell ⟨P, 2, none⟩ c).setCell ⟨P, 3, none⟩ d).setCell ⟨P, 4, none⟩ e).setCell ⟨P, 5, none⟩ f) ∧ Own X P t [a, b, c, d, e, f] ∧ (∀ B u, Below B u w → B ≤ P → Below B u X) ∧ X.heap.size = w.heap.size ∧ (∀ b, b ≠ P → X.heap[b]? = w.heap[b]?) :=
  ⟨_, rfl, (((((h.set_ 0 a).set_ 1 b).set_ 2 c).set_ 3 d).set_ 4 e).set_ 5 f, fun B u hb hB => (((((hb.setCell (p := ⟨P, 0, none⟩) hB _).setCell (p := ⟨P, 1, none⟩) hB _).setCell (p := ⟨P, 2, none⟩) hB _).setCell (p := ⟨P, 3, none⟩) hB _).setCell (p := ⟨P, 4, none⟩) hB _).setCell (p := ⟨P, 5, none⟩) hB _, by simp [World.setCell], fun b hb => by
    have k := fun (W : World) (i : Nat) (v : Value) => Below.heap_setCell W ⟨P, i, none⟩ v b hb
    rw [k, k, k, k, k, k]⟩
theorem vals_other {w X : World} {P : Nat} {A : Option Addr} {l : List Vl} (h : Vals w w.heap.size A l) (hA : ∀ b o, A = some ⟨b, o, none⟩ → P < b) (hs : X.heap.size = w.heap.size) (hX : ∀ b, b ≠ P → X.heap[b]? = w.heap[b]?) : Vals X X.heap.size A l := fun hp => by
  obtain ⟨b, o, e, hb, hc⟩ := h hp
  have hne : b ≠ P := by have := hA b o e; omega
  have hk : ∀ j, X.cell? ⟨b, j, none⟩ = w.cell? ⟨b, j, none⟩ := fun j => by unfold World.cell?; rw [hX b hne]
  refine ⟨b, o, e, by omega, fun i v hi => ?_⟩
  obtain ⟨a0, a1, a2⟩ := hc i v hi
  exact ⟨(hk _).trans a0, (hk _).trans a1, (hk _).trans a2⟩
theorem own_frozen6 {w : World} {P : Nat} {t : TypeId} {z0 z1 z2 z3 z4 z5 : Value} (h : Own w P t [z0, z1, z2, z3, z4, z5]) :
    w.frozen? ⟨P, 0, none⟩ = false ∧ w.frozen? ⟨P, 1, none⟩ = false ∧ w.frozen? ⟨P, 2, none⟩ = false ∧ w.frozen? ⟨P, 3, none⟩ = false ∧ w.frozen? ⟨P, 4, none⟩ = false ∧ w.frozen? ⟨P, 5, none⟩ = false :=
  ⟨h.open_ 0, h.open_ 1, h.open_ 2, h.open_ 3, h.open_ 4, h.open_ 5⟩
/-- nothing below block B has turned since V -/
def Bm (B : Nat) (V w : World) : Prop := Below B V w
theorem Bm.of {B : Nat} {V w : World} (h : Bl V w) (hB : B ≤ V.heap.size) : Bm B V w := h.below.mono hB
theorem Bm.set {B P : Nat} {V w : World} (h : Bm B V w) (hP : B ≤ P) (i : Nat) (v : Value) : Bm B V (w.setCell ⟨P, i, none⟩ v) := Below.setCell (p := ⟨P, i, none⟩) h hP v
theorem Bm.more {B : Nat} {V w : World} (h : Bm B V w) (hB : B ≤ V.heap.size) (o : Obj) : Bm B V (w.alloc o) := Below.alloc h (Nat.le_trans hB h.size) o
theorem Bm.drew {B : Nat} {V w : World} (h : Bm B V w) : Bm B V w.drew := Below.drew h
/-- what comes of an update that is kept: with rows of its own, and another number -/
def Kept (u : Up) (n : Int) (w : World) (x : Ending) (w' : World) : Prop :=
  ∃ u' : Up, x = .returned u'.val ∧ u'.key = u.key ∧ u'.row = u.row ∧ u'.t = u.t ∧ u'.d = n ∧ UIn w' w'.heap.size u' ∧ (∀ b o, (u'.kA = some ⟨b, o, none⟩ ∨ u'.rA = some ⟨b, o, none⟩) → w.heap.size ≤ b ∧ b < w'.heap.size) ∧ Below w.heap.size w w'
set_option maxRecDepth 100000 in
set_option maxHeartbeats 6400000 in
theorem retain_any (u : Up) (n : Int) (w : World) (hu : UIn w w.heap.size u) (ok : u.key.length * 32 ≤ 281474976710656 ∧ u.row.length * 32 ≤ 281474976710656) :
    Calls Try.prog 26 #[u.val, .int .i64 n] w (Kept u n w) := by
  obtain ⟨V, hV, hvb, hvo, hvz⟩ := ret_box w u
  have hin := hu.keep hvb
  have y1 := fun W (h : Bl V W) => Lib.hid (listV_any u.kA u.kc u.key W (hin.keep h).key ok.1)
  have y2 := fun W (h : Bl V W) => Lib.hid (listV_any u.rA u.rc u.row W (hin.keep h).row ok.2)
  have hB := hvz.inside
  have HS := Lib.hid (fun W (h : Bm (w.heap.size + 1) V W) => let k := own6 (hvo.past h (Nat.lt_succ_self _)); (⟨k.1, k.2.1, k.2.2.1, k.2.2.2.1, k.2.2.2.2.1⟩ : W.cell? ⟨w.heap.size, 0, none⟩ = some (.slice u.kA u.key.length u.kc) ∧ W.cell? ⟨w.heap.size, 1, none⟩ = some (.slice u.rA u.row.length u.rc) ∧ W.cell? ⟨w.heap.size, 2, none⟩ = some (.int .u64 (u.t.e : Int)) ∧ W.cell? ⟨w.heap.size, 3, none⟩ = some (.int .u64 (u.t.a : Int)) ∧ W.cell? ⟨w.heap.size, 4, none⟩ = some (.int .u64 (u.t.b : Int))))
  have HZ := Lib.hid (fun W (h : Bl V W) => hvz.past h hvz.inside)
  have HB := Lib.hid hvb
  have hself := Bl.refl V
  obtain ⟨d0, d1, d2, d3, d4, d5⟩ := own6 hvo
  have huv : u.val = .agg #[.slice u.kA u.key.length u.kc, .slice u.rA u.row.length u.rc, .int .u64 (u.t.e : Int), .int .u64 (u.t.a : Int), .int .u64 (u.t.b : Int), .int .i64 u.d] := rfl
  rw [huv]
  have hbs : w.heap.size + 1 ≤ V.heap.size := Nat.le_of_lt hB
  clear huv hu ok hvb hvo hvz hin
  go_enter Try.func26, Try.ntmps26
  go_upto_region 1 with fail
  rw [← hV]
  clear hV
  go_region_held3 (fun w' => Bm (w.heap.size + 1) V w' ∧ (w'.cell? ⟨w.heap.size, 0, none⟩ = some (.slice u.kA u.key.length u.kc) ∧ w'.cell? ⟨w.heap.size, 1, none⟩ = some (.slice u.rA u.row.length u.rc) ∧ w'.cell? ⟨w.heap.size, 2, none⟩ = some (.int .u64 (u.t.e : Int)) ∧ w'.cell? ⟨w.heap.size, 3, none⟩ = some (.int .u64 (u.t.a : Int)) ∧ w'.cell? ⟨w.heap.size, 4, none⟩ = some (.int .u64 (u.t.b : Int))))
    ((refine (fun h => And.intro h (HS.out _ h)) ?_; repeat (first | with_reducible exact Bm.of hb2 hbs | with_reducible exact Bm.of hb1 hbs | with_reducible exact Bm.of hself hbs | with_reducible refine Bm.set ?_ (Nat.le_refl _) _ _ | with_reducible refine Bm.more ?_ hbs _ | with_reducible refine Bm.drew ?_)))
    (first | (go_at_call 49; have hq := hb1; refine (y2 _ hb1).out.mono ?_; rintro _ w2 ⟨A2, k2, rfl, v2, n2, b2⟩; have hb2 : Bl V w2 := Bl.call hb1 b2; have v1 := vals_keep v1 b2; obtain ⟨f0, f1, f2, f3, f4, f5⟩ := own_frozen6 (HZ.out _ hb2); obtain ⟨e0, e1, e2, e3, e4, e5⟩ := own6 (HZ.out _ hb2)) | (go_at_call 49; refine (y1 _ hself.drew).out.mono ?_; rintro _ w1 ⟨A1, k1, rfl, v1, n1, b1⟩; have hb1 : Bl V w1 := Bl.call hself.drew b1))
  all_goals
    obtain ⟨X, hX, hXo, hXb, hXs, hXh⟩ := own_six (HZ.out _ hb2) (.slice A1 u.key.length k1) (.slice A2 u.row.length k2) (.int .u64 (u.t.e : Int)) (.int .u64 (u.t.a : Int)) (.int .u64 (u.t.b : Int)) (.int .i64 n)
    have v1' := vals_other v1 (fun b o e => by have := (n1 b o e).1; simp at this; omega) hXs hXh
    have v2' := vals_other v2 (fun b o e => by have := (n2 b o e).1; have := hb1.size; omega) hXs hXh
    have hfar : ∀ b o, (A1 = some (⟨b, o, none⟩ : Addr) ∨ A2 = some (⟨b, o, none⟩ : Addr)) → w.heap.size ≤ b ∧ b < X.heap.size := fun b o h => by
      rcases h with h | h
      · have h1 := n1 b o h
        have h2 := b2.size
        have h3 := h1.1
        have h4 := h1.2
        simp at h3
        omega
      · have h1 := n2 b o h
        have h2 := hb1.size
        have h3 := h1.1
        have h4 := h1.2
        omega
    have hbX := hXb w.heap.size w (HB.out.trans (hb2.below.mono HB.out.size)) (Nat.le_succ _)
    rw [← hX]
    obtain ⟨x0, x1, x2, x3, x4, x5⟩ := own6 hXo
    clear hX hXo hXb hXs hXh f0 f1 f2 f3 f4 f5 e0 e1 e2 e3 e4 e5
    go_wp2_with fail
    exact bodyPost_ret (v := .agg #[.slice A1 u.key.length k1, .slice A2 u.row.length k2, .int .u64 (u.t.e : Int), .int .u64 (u.t.a : Int), .int .u64 (u.t.b : Int), .int .i64 n]) (by simp [results, Try.results26, go_sem, x0, x1, x2, x3, x4, x5]) rfl ⟨⟨A1, k1, u.key, A2, k2, u.row, u.t, n⟩, rfl, rfl, rfl, rfl, rfl, ⟨v1', v2'⟩, hfar, hbX⟩
end Go.Proofs.Ytpfjeibhklacbaa
