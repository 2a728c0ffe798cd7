/- An argument that is a time, or a slice of times, opened. -/
import Derived.Test.YtpfjeibhklacbaaTimes
import Derived.WalkKit
import Derived.ProofKit
import Derived.OpenShut
import Derived.JoinedCond
import Derived.Carry
import Derived.ChangeArms
import Derived.Deep.Slices
import Derived.SizedLaws
namespace Go.Proofs.Ytpfjeibhklacbaa
open Go Go.RowKit Go.ChangeShapes Go.WideShapes Go.ChangeAt Go.Deep

set_option maxRecDepth 100000
section
variable {H : Type} {enc : TypeId × Value → H} {w : World} {base : Nat} {spare : Nat → Bool} {held : Bool}
theorem wf_nat {n : Int} (h : (Lit.int .u64 n).wf = true) : ∃ m : Nat, n = (m : Int) := by
  have h2 : 0 ≤ n := by
    have : 0 ≤ n ∧ n ≤ 18446744073709551615 := by simpa [Lit.wf, IntKind.min, IntKind.max, IntKind.signed, IntKind.bits] using h
    exact this.1
  exact ⟨n.toNat, (Int.toNat_of_nonneg h2).symm⟩
theorem trod_time {fuel : Nat} {cs : List Value} {x : DataW H × List MemPlace} (h : DataW.trod enc Try.prog w base spare held fuel 36 cs = some x) : ∃ t : Tm, cs = t.cells := by
  obtain ⟨xs, n, _, _, hlen, hxs, hf⟩ := DataW.trod_struct Try.underlying36 h
  have hc : Try.prog.cellsOf 36 = 3 := by kernel_rfl
  have hc1 : Try.prog.cellsOf 33 = 1 := by kernel_rfl
  have hc2 : Try.prog.cellsOf 34 = 2 := by kernel_rfl
  rw [hc] at hlen
  match cs, hlen with
  | [c0, c1, c2], _ =>
    have h0 := hf 0 _ rfl
    have h1 := hf 1 _ rfl
    match xs, hxs with
    | [y0, y1], _ =>
      simp only [hc1, hc2, List.drop_zero, List.take_succ_cons, List.take_zero, List.drop_succ_cons, List.getElem?_cons_zero, List.getElem?_cons_succ] at h0 h1
      obtain ⟨n0, e0, _, w0⟩ := DataW.trod_int Try.underlying33 h0
      obtain ⟨zs, m, _, _, _, hzs, hg⟩ := DataW.trod_array Try.underlying34 h1
      match zs, hzs with
      | [z0, z1], _ =>
        have k0 := hg 0 (by omega)
        have k1 := hg 1 (by omega)
        simp only [hc1, Nat.zero_mul, Nat.one_mul, List.drop_zero, List.take_succ_cons, List.take_zero, List.drop_succ_cons, List.getElem?_cons_zero, List.getElem?_cons_succ] at k0 k1
        obtain ⟨n1, e1, _, w1⟩ := DataW.trod_int Try.underlying33 k0
        obtain ⟨n2, e2, _, w2⟩ := DataW.trod_int Try.underlying33 k1
        obtain ⟨m0, rfl⟩ := wf_nat w0
        obtain ⟨m1, rfl⟩ := wf_nat w1
        obtain ⟨m2, rfl⟩ := wf_nat w2
        obtain rfl := (List.cons.inj e0).1
        obtain rfl := (List.cons.inj e1).1
        obtain rfl := (List.cons.inj e2).1
        exact ⟨⟨m0, m1, m2⟩, rfl⟩
theorem open_time {r : Reach} {b0 : Nat} {v : Value} {d : DataW H} {p : List MemPlace} (hv : Value.okWide Try.prog w r b0 36 v) (h : DataW.Trod enc Try.prog w base spare held 36 v d p) : ∃ t : Tm, v = t.val := by
  obtain ⟨cs, rfl, hsz⟩ := okWide_struct Try.underlying36 hv
  obtain ⟨fuel, hf⟩ := h
  obtain ⟨t, ht⟩ := trod_time hf
  refine ⟨t, ?_⟩
  obtain ⟨l⟩ := cs
  simp only [Value.cells] at ht
  unfold Tm.val
  rw [show l = t.cells from by simpa using ht]
  rfl
/-- the slice, its list; and what its reading tells of its length -/
theorem open_times {v : Value} {d : DataW H} {p : List MemPlace} {r : Reach} {b0 : Nat} (hv : Value.okWide Try.prog w r b0 89 v) (h : DataW.Trod enc Try.prog w base spare held 89 v d p) :
    ∃ (A : Option Addr) (c : Nat) (l : List Tm), v = .slice A l.length c ∧ l.length ≤ c ∧ c ≤ maxLen ∧ Times w w.heap.size A l ∧ (d = .nil ∧ l = [] ∧ c = 0 ∨ ∃ es sp, d = .slice es sp ∧ es.length = l.length) := by
  obtain ⟨a0, n0, c0, rfl⟩ := okWide_slice Try.underlying89 hv
  obtain ⟨fuel, hf⟩ := h
  simp only [Value.cells] at hf
  rcases open_slice Try.underlying89 hf with ⟨e, hx⟩ | ⟨a, len, cap, m, n, D, Pl, e, hb, hl, hm, hmm, hx, hi⟩
  · simp only [List.cons.injEq, and_true, Value.slice.injEq] at e
    obtain ⟨rfl, rfl, rfl⟩ := e
    obtain ⟨rfl, _⟩ := Prod.mk.inj hx
    exact ⟨none, 0, [], rfl, by simp, by unfold maxLen; omega, Times.nil_, .inl ⟨rfl, rfl, rfl⟩⟩
  · simp only [List.cons.injEq, and_true, Value.slice.injEq] at e
    obtain ⟨rfl, rfl, rfl⟩ := e
    obtain ⟨rfl, rfl⟩ := Prod.mk.inj hx
    have hlm : n0 ≤ m := by rw [hmm]; split <;> omega
    have hc3 : Try.prog.cellsOf 36 = 3 := by kernel_rfl
    rw [hc3] at hi
    have hT : ∀ i, ∃ t : Tm, i < n0 → (w.cell? ((a.add (i * 3)).add 0) = some (.int .u64 (t.e : Int)) ∧ w.cell? ((a.add (i * 3)).add 1) = some (.int .u64 (t.a : Int)) ∧ w.cell? ((a.add (i * 3)).add 2) = some (.int .u64 (t.b : Int))) := by
      intro i
      by_cases hil : i < n0
      · obtain ⟨cs', hcs, htr⟩ := hi i (by omega)
        obtain ⟨t, rfl⟩ := trod_time htr
        obtain ⟨_, _, hat⟩ := World.cells?_some hcs
        exact ⟨t, fun _ => ⟨hat 0 (by omega), hat 1 (by omega), hat 2 (by omega)⟩⟩
      · exact ⟨default, fun h => absurd h hil⟩
    obtain ⟨f, hf'⟩ : ∃ f : Nat → Tm, ∀ i, i < n0 → (w.cell? ((a.add (i * 3)).add 0) = some (.int .u64 ((f i).e : Int)) ∧ w.cell? ((a.add (i * 3)).add 1) = some (.int .u64 ((f i).a : Int)) ∧ w.cell? ((a.add (i * 3)).add 2) = some (.int .u64 ((f i).b : Int))) :=
      ⟨fun i => Classical.choose (hT i), fun i => Classical.choose_spec (hT i)⟩
    clear hT
    have hlen : ((List.range n0).map f).length = n0 := by simp
    refine ⟨some a, c0, (List.range n0).map f, by rw [hlen], by rw [hlen]; exact hl, hm, fun hpos => ?_, .inr ⟨_, _, rfl, by simp⟩⟩
    rw [hlen] at hpos
    have haa : ∀ k, (a.add k).add 0 = a.add k := fun k => by unfold Addr.add; simp
    have hspot : a.spot = none := by
      have hz : ((a.add (0 * 3)).add 0) = a := by rw [haa]; unfold Addr.add; simp
      obtain ⟨v0, h0⟩ : ∃ v0, w.cell? a = some v0 := ⟨_, by have := (hf' 0 hpos).1; rwa [hz] at this⟩
      cases hs : a.spot with
      | none => rfl
      | some s =>
        unfold World.cell? at h0
        rw [hs] at h0
        split at h0 <;> simp at h0
    obtain ⟨b, o, sp⟩ := a
    simp only at hspot
    subst hspot
    have hblk : b < w.heap.size := by
      have hz : (((⟨b, o, none⟩ : Addr).add (0 * 3)).add 0).block = b := by unfold Addr.add; simp
      have := World.block_lt_of_cell? w _ (hf' 0 hpos).1
      rwa [hz] at this
    have hadd : ∀ k j, ((⟨b, o, none⟩ : Addr).add k).add j = ⟨b, o + k + j, none⟩ := fun k j => by unfold Addr.add; split <;> split <;> simp_all
    refine ⟨b, o, rfl, hblk, fun i t hit => ?_⟩
    have hil : i < n0 := by have := (List.getElem?_eq_some_iff.1 hit).1; omega
    have hti : f i = t := by simpa [hil] using hit
    obtain ⟨q0, q1, q2⟩ := hf' i hil
    rw [hadd] at q0 q1 q2
    rw [← hti]
    exact ⟨q0, q1, q2⟩
end
end Go.Proofs.Ytpfjeibhklacbaa
