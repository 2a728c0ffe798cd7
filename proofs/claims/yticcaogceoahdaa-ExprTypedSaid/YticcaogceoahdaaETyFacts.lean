/- An expression that has a type comes to a value of that type, or to a number that does not fit. -/
import Derived.Test.YticcaogceoahdaaESplit
import Derived.Test.YticcaogceoahdaaEInfE
namespace Go.Proofs.Yticcaogceoahdaa
open Go Go.RowKit

theorem sameU_zero {u : Int} {l : List Int} : sameU u l = 0 ↔ u = 0 ∧ l.all (· == l.headD 0) = true := by
  unfold sameU
  split
  · rename_i h; exact ⟨fun hu => ⟨hu, h⟩, fun hu => hu.1⟩
  · rename_i h; rw [fl_is0]; exact ⟨fun hh => absurd hh.2 (by decide), fun hh => absurd hh.2 h⟩
theorem infK_zero {f : Lx → Int → Int × Int} (hf : ∀ k u, (f k u).2 = 0 → u = 0) (ks : List Lx) (u : Int) (h : (infK f ks u).2 = 0) : u = 0 := by
  unfold infK at h
  suffices ∀ (ks : List Lx) (p : List Int × Int), (ks.foldl (fun p k => (p.1 ++ [(f k p.2).1], (f k p.2).2)) p).2 = 0 → p.2 = 0 from this ks ([], u) h
  intro ks
  induction ks with
  | nil => intro p h; exact h
  | cons k ks ih => intro p h; rw [List.foldl_cons] at h; exact hf k _ (ih _ h)
theorem inf_zero (sch : List Int) : ∀ n e u, (inf sch n e u).2 = 0 → u = 0
  | 0, _, _, h => h
  | n + 1, e, u, h => by
    have ih := inf_zero sch n
    unfold inf at h
    split at h
    · split at h
      · exact h
      · exact ((fl_is0 _ _).1 h).1
    · split at h
      · exact h
      · split at h
        · exact infK_zero ih _ _ (sameU_zero.1 h).1
        · split at h
          · exact infK_zero ih _ _ (sameU_zero.1 (sameU_zero.1 h).1).1
          · exact infK_zero ih _ _ (sameU_zero.1 h).1
/-- a failure that is none, or a number that does not fit -/
def Fine (x : Int) : Prop := x = 0 ∨ x = 10
theorem fine_fl {x y : Int} (hx : Fine x) (hy : Fine y) : Fine (fl x y) := by
  unfold Fine fl at *
  split <;> omega
theorem fine_fitE (S : Int) : Fine (fitE S) := by unfold Fine fitE; split <;> simp
/-- of a type, or a number that does not fit -/
def Of (p : Vl × Int) (t : Int) : Prop := p.2 = 10 ∨ (p.2 = 0 ∧ p.1.t = (t == 2))
section
variable {f : Lx → Int → Vl × Int}
theorem nm_fine {k : Lx} (h : Of (f k 0) 1) : Fine (nm f k 0).2 := by
  unfold nm Fine
  dsimp only
  rcases h with h | ⟨h, ht⟩
  · rw [h]; unfold fl; split <;> simp
  · rw [show ((1 : Int) == 2) = false from rfl] at ht
    rw [h, ht]; simp
theorem cp_fine (hf : Splits f) {e : Lx} {t : Int} (h0 : Of (f (kid e 0) 0) t) (h1 : Of (f (kid e 1) 0) t) : Fine (cp f e 0).2 := by
  rw [cp_eq hf e 0, zero_fl]
  dsimp only
  rcases h0 with h0 | ⟨h0, k0⟩
  · rw [h0]
    have e1 : fl 10 (f (kid e 1) 0).2 = 10 := by unfold fl; simp
    have e2 : fl 10 11 = 10 := by decide
    rw [e1, e2]
    split <;> exact .inr rfl
  · rcases h1 with h1 | ⟨h1, k1⟩
    · rw [h0, h1, zero_fl]
      have e2 : fl 10 11 = 10 := by decide
      rw [e2]
      split <;> exact .inr rfl
    · rw [h0, h1, zero_fl, k0, k1]
      simp [Fine]
end
theorem of_num {m x : Int} (h : Fine x) : Of (Vl.num m, x) 1 := by
  rcases h with h | h
  · exact .inr ⟨h, rfl⟩
  · exact .inl h
theorem lx_eta (e : Lx) : ∃ o col c A cap ks, e = .mk o col c A cap ks := by cases e; exact ⟨_, _, _, _, _, _, rfl⟩
set_option maxHeartbeats 1600000 in
theorem typed_ev (row : List Vl) : ∀ (n : Nat) (e : Lx), good n e = true → (inf (row.map tyV) n e 0).2 = 0 → Of (ev row n e 0) (inf (row.map tyV) n e 0).1
  | 0, _, h, _ => by cases h
  | n + 1, e, hg, hz => by
    have ih := typed_ev row n
    have hsp := ev_split row n
    simp only [good, nodeOk, Bool.and_eq_true, List.all_eq_true, beq_iff_eq] at hg
    obtain ⟨⟨hlen, -, -⟩, hkids⟩ := hg
    have hmem : ∀ i, i < e.kids.length → kid e i ∈ e.kids := fun i hi => by unfold kid; rw [List.getD_eq_getElem?_getD, List.getElem?_eq_getElem hi]; exact List.getElem_mem hi
    have hgk : ∀ i, i < e.kids.length → good n (kid e i) = true := fun i hi => hkids _ (hmem i hi)
    by_cases h1 : e.op = 1
    · have q : inf (row.map tyV) (n + 1) e 0 = (if 0 ≤ e.col ∧ e.col < (row.map tyV).length then ((row.map tyV).getD e.col.toNat 0, 0) else (0, fl 0 1)) := by unfold inf; rw [if_pos h1]
      have q2 : ev row (n + 1) e 0 = (if 0 ≤ e.col ∧ e.col < row.length then (row.getD e.col.toNat default, 0) else (Vl.zero, fl 0 1)) := by unfold ev; rw [if_pos h1]
      rw [q] at hz ⊢
      rw [q2]
      rw [List.length_map] at hz ⊢
      by_cases hc : 0 ≤ e.col ∧ e.col < row.length
      · rw [if_pos hc, if_pos hc]
        have hlt : e.col.toNat < row.length := by omega
        refine .inr ⟨rfl, ?_⟩
        dsimp only
        rw [List.getD_eq_getElem?_getD, List.getD_eq_getElem?_getD, List.getElem?_map, List.getElem?_eq_getElem hlt]
        simp only [Option.map_some, Option.getD_some]
        unfold tyV
        cases row[e.col.toNat].t <;> rfl
      · rw [if_neg hc] at hz
        exact absurd hz (by decide)
    by_cases h2 : e.op = 2
    · have q : inf (row.map tyV) (n + 1) e 0 = (tyV e.c, 0) := by unfold inf; rw [if_neg h1, if_pos h2]
      have q2 : ev row (n + 1) e 0 = (e.c, 0) := by unfold ev; rw [if_neg h1, if_pos h2]
      rw [q, q2]
      refine .inr ⟨rfl, ?_⟩
      dsimp only
      unfold tyV
      cases e.c.t <;> rfl
    -- the failures of those in it
    by_cases h12 : e.op = 12
    · have hl3 : e.kids.length = 3 := by rw [h12] at hlen; unfold kidsOf at hlen; simp at hlen; omega
      obtain ⟨k0, k1, k2, hk⟩ : ∃ k0 k1 k2, e.kids = [k0, k1, k2] := by
        match hks : e.kids, hl3 with
        | [x, y, z], _ => exact ⟨x, y, z, rfl⟩
      have e0 : kid e 0 = k0 := by unfold kid; rw [hk]; rfl
      have e1 : kid e 1 = k1 := by unfold kid; rw [hk]; rfl
      have e2 : kid e 2 = k2 := by unfold kid; rw [hk]; rfl
      have g0 := hgk 0 (by omega)
      have g1 := hgk 1 (by omega)
      have g2 := hgk 2 (by omega)
      rw [e0] at g0
      rw [e1] at g1
      rw [e2] at g2
      have q : inf (row.map tyV) (n + 1) e 0 = ((infK (inf (row.map tyV) n) e.kids 0).1.getD 1 0, sameU (sameU (infK (inf (row.map tyV) n) e.kids 0).2 [1, (infK (inf (row.map tyV) n) e.kids 0).1.getD 0 0]) ((infK (inf (row.map tyV) n) e.kids 0).1.drop 1)) := by
        conv => lhs; unfold inf
        rw [if_neg h1, if_neg h2, if_neg (by omega), if_pos h12]
      rw [q, hk] at hz
      rw [q, hk]
      obtain ⟨z1, za⟩ := sameU_zero.1 hz
      obtain ⟨z2, zb⟩ := sameU_zero.1 z1
      have s2 : (infK (inf (row.map tyV) n) [k0, k1, k2] 0).2 = (inf (row.map tyV) n k2 (inf (row.map tyV) n k1 (inf (row.map tyV) n k0 0).2).2).2 := rfl
      rw [s2] at z2
      have z3 := inf_zero _ n k2 _ z2
      have z4 := inf_zero _ n k1 _ z3
      rw [z4] at z3
      rw [z4, z3] at z2
      have l : (infK (inf (row.map tyV) n) [k0, k1, k2] 0).1 = [(inf (row.map tyV) n k0 0).1, (inf (row.map tyV) n k1 (inf (row.map tyV) n k0 0).2).1, (inf (row.map tyV) n k2 (inf (row.map tyV) n k1 (inf (row.map tyV) n k0 0).2).2).1] := rfl
      rw [z4, z3] at l
      rw [l] at za zb ⊢
      have o0 := ih k0 g0 z4
      have o1 := ih k1 g1 z3
      have o2 := ih k2 g2 z2
      simp at za zb
      have t0 : (inf (row.map tyV) n k0 0).1 = 1 := zb
      have t2 : (inf (row.map tyV) n k2 0).1 = (inf (row.map tyV) n k1 0).1 := za
      rw [t0] at o0
      rw [t2] at o2
      have q2 : ev row (n + 1) e 0 = (if (nm (ev row n) k0 0).1 = 0 then ev row n k2 (nm (ev row n) k0 0).2 else ev row n k1 (nm (ev row n) k0 0).2) := by
        conv => lhs; unfold ev
        rw [if_neg h1, if_neg h2, if_pos h12, e0, e1, e2]
      rw [q2]
      have hfin : ∀ k, Of (ev row n k 0) (inf (row.map tyV) n k1 0).1 → Of (ev row n k (nm (ev row n) k0 0).2) (inf (row.map tyV) n k1 0).1 := fun k ho => by
        rw [hsp k (nm (ev row n) k0 0).2]
        rcases nm_fine o0 with h | h
        · rw [h, zero_fl]; exact ho
        · rw [h]; exact .inl (by unfold fl; simp)
      show Of _ (inf (row.map tyV) n k1 0).1
      split
      · exact hfin k2 o2
      · exact hfin k1 o1
    have ev7 : 7 ≤ e.op → ev row (n + 1) e 0 = (Vl.num (if (hd (ev row n) e 0).1 then 1 else 0), (hd (ev row n) e 0).2) := fun h7 => by
      conv => lhs; unfold ev
      rw [if_neg h1, if_neg h2, if_neg h12, if_pos h7]
    have ev3 : ¬ 7 ≤ e.op → ev row (n + 1) e 0 = (Vl.num (fitN (rk (ev row n) e 0).1), fl (rk (ev row n) e 0).2 (fitE (rk (ev row n) e 0).1)) := fun h7 => by
      conv => lhs; unfold ev
      rw [if_neg h1, if_neg h2, if_neg h12, if_neg h7]
    -- two that it holds
    have two : e.kids.length = 2 → ∀ l, (infK (inf (row.map tyV) n) e.kids 0).2 = 0 → (infK (inf (row.map tyV) n) e.kids 0).1 = l → ∃ t0 t1, l = [t0, t1] ∧ Of (ev row n (kid e 0) 0) t0 ∧ Of (ev row n (kid e 1) 0) t1 := fun hl2 l hz2 hl => by
      obtain ⟨k0, k1, hk⟩ : ∃ k0 k1, e.kids = [k0, k1] := by
        match hks : e.kids, hl2 with
        | [x, y], _ => exact ⟨x, y, rfl⟩
      have e0 : kid e 0 = k0 := by unfold kid; rw [hk]; rfl
      have e1 : kid e 1 = k1 := by unfold kid; rw [hk]; rfl
      have g0 := hgk 0 (by omega)
      have g1 := hgk 1 (by omega)
      rw [e0] at g0
      rw [e1] at g1
      rw [hk] at hz2 hl
      have s2 : (infK (inf (row.map tyV) n) [k0, k1] 0).2 = (inf (row.map tyV) n k1 (inf (row.map tyV) n k0 0).2).2 := rfl
      rw [s2] at hz2
      have z4 := inf_zero _ n k1 _ hz2
      rw [z4] at hz2
      have ll : (infK (inf (row.map tyV) n) [k0, k1] 0).1 = [(inf (row.map tyV) n k0 0).1, (inf (row.map tyV) n k1 (inf (row.map tyV) n k0 0).2).1] := rfl
      rw [z4] at ll
      rw [ll] at hl
      subst hl
      rw [e0, e1]
      exact ⟨_, _, rfl, ih k0 g0 z4, ih k1 g1 hz2⟩
    have one : e.kids.length = 1 → ∀ l, (infK (inf (row.map tyV) n) e.kids 0).2 = 0 → (infK (inf (row.map tyV) n) e.kids 0).1 = l → ∃ t0, l = [t0] ∧ Of (ev row n (kid e 0) 0) t0 := fun hl1 l hz2 hl => by
      obtain ⟨k0, hk⟩ : ∃ k0, e.kids = [k0] := by
        match hks : e.kids, hl1 with
        | [x], _ => exact ⟨x, rfl⟩
      have e0 : kid e 0 = k0 := by unfold kid; rw [hk]; rfl
      have g0 := hgk 0 (by omega)
      rw [e0] at g0
      rw [hk] at hz2 hl
      have s2 : (infK (inf (row.map tyV) n) [k0] 0).2 = (inf (row.map tyV) n k0 0).2 := rfl
      rw [s2] at hz2
      have ll : (infK (inf (row.map tyV) n) [k0] 0).1 = [(inf (row.map tyV) n k0 0).1] := rfl
      rw [ll] at hl
      subst hl
      rw [e0]
      exact ⟨_, rfl, ih k0 g0 hz2⟩
    by_cases h78 : e.op = 7 ∨ e.op = 8
    · have hl2 : e.kids.length = 2 := by
        rcases h78 with h | h <;> (rw [h] at hlen; unfold kidsOf at hlen; simp at hlen; omega)
      have q : inf (row.map tyV) (n + 1) e 0 = (1, sameU (infK (inf (row.map tyV) n) e.kids 0).2 (infK (inf (row.map tyV) n) e.kids 0).1) := by
        conv => lhs; unfold inf
        rw [if_neg h1, if_neg h2, if_pos h78]
      rw [q] at hz ⊢
      obtain ⟨z1, za⟩ := sameU_zero.1 hz
      obtain ⟨t0, t1, hl, o0, o1⟩ := two hl2 _ z1 rfl
      rw [hl] at za
      simp at za
      subst za
      rw [ev7 (by omega)]
      refine of_num ?_
      unfold hd
      rcases h78 with h | h
      · rw [if_pos h]; exact cp_fine hsp o0 o1
      · rw [if_neg (by omega), if_pos h]; exact cp_fine hsp o0 o1
    · have q : inf (row.map tyV) (n + 1) e 0 = (1, sameU (infK (inf (row.map tyV) n) e.kids 0).2 ((infK (inf (row.map tyV) n) e.kids 0).1 ++ [1])) := by
        conv => lhs; unfold inf
        rw [if_neg h1, if_neg h2, if_neg h78, if_neg h12]
      rw [q] at hz ⊢
      obtain ⟨z1, za⟩ := sameU_zero.1 hz
      have hcase : (e.kids.length = 1 ∧ (e.op = 6 ∨ e.op = 11)) ∨ (e.kids.length = 2 ∧ (e.op = 3 ∨ e.op = 4 ∨ e.op = 5 ∨ e.op = 9 ∨ e.op = 10)) := by
        unfold kidsOf at hlen
        rw [if_neg (by omega)] at hlen
        by_cases ha : e.op = 6 ∨ e.op = 11
        · rw [if_pos ha] at hlen; exact .inl ⟨by omega, ha⟩
        · rw [if_neg ha] at hlen
          by_cases hb : e.op = 3 ∨ e.op = 4 ∨ e.op = 5 ∨ e.op = 7 ∨ e.op = 8 ∨ e.op = 9 ∨ e.op = 10
          · rw [if_pos hb] at hlen; exact .inr ⟨by omega, by omega⟩
          · rw [if_neg hb, if_neg h12] at hlen; omega
      rcases hcase with ⟨hl1, ho⟩ | ⟨hl2, ho⟩
      · obtain ⟨t0, hl, o0⟩ := one hl1 _ z1 rfl
        rw [hl] at za
        simp at za
        subst za
        have f0 := nm_fine o0
        rcases ho with h | h
        · rw [ev3 (by omega)]
          refine of_num (fine_fl ?_ (fine_fitE _))
          unfold rk
          dsimp only
          rw [if_pos h]
          exact f0
        · rw [ev7 (by omega)]
          refine of_num ?_
          unfold hd
          rw [if_neg (by omega), if_neg (by omega), if_neg (by omega), if_neg (by omega)]
          exact f0
      · obtain ⟨t0, t1, hl, o0, o1⟩ := two hl2 _ z1 rfl
        rw [hl] at za
        simp at za
        obtain ⟨za, zb⟩ := za
        subst zb
        subst za
        have f0 := nm_fine o0
        have f1 := nm_fine o1
        have f2 : Fine (nm (ev row n) (kid e 1) (nm (ev row n) (kid e 0) 0).2).2 := by rw [nm2 hsp e 0, zero_fl]; exact fine_fl f0 f1
        by_cases h7 : 7 ≤ e.op
        · rw [ev7 h7]
          refine of_num ?_
          unfold hd
          rw [if_neg (by omega), if_neg (by omega)]
          split
          · split
            · exact f0
            · exact f2
          · rw [if_pos (by omega)]
            split
            · exact f2
            · exact f0
        · rw [ev3 h7]
          refine of_num (fine_fl ?_ (fine_fitE _))
          unfold rk
          dsimp only
          rw [if_neg (by omega)]
          exact f2
end Go.Proofs.Yticcaogceoahdaa
