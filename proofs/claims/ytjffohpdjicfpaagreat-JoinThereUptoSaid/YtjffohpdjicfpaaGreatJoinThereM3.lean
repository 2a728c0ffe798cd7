/- Part 3 of the texts on which JoinThere rests: facts and contracts. -/
import Derived.Test.YtjffohpdjicfpaaGreatJoinThereM2
import Derived.Lib.Bytealg
import Derived.Laws.CopyRow
import Derived.Laws.CopyOwn
import Derived.OwnWalk
import Derived.Lib.AppendZerosOnto
import Derived.Lib.Overlaps
import Derived.Laws.Externs
import Derived.Deep.CutBlock
namespace Go.Proofs.YtjffohpdjicfpaaGreat
open Go Go.RowKit
structure Fl where
  n : ByteArray
  d : ByteArray
instance : Inhabited Fl := ⟨⟨⟨#[]⟩, ⟨#[]⟩⟩⟩
def cmpN (a b : ByteArray) : Int := Lib.compareBytes a.data.toList b.data.toList
def SortedN (ns : List ByteArray) : Prop := ns.Pairwise (fun a b => cmpN a b < 0)
def posN (ns : List ByteArray) (n : ByteArray) : Nat := ns.countP (fun x => decide (cmpN x n < 0))
def hasN (ns : List ByteArray) (n : ByteArray) : Bool := ns.any (fun x => decide (x = n))
def namesF (l : List Fl) : List ByteArray := l.map Fl.n
def SortedF (l : List Fl) : Prop := SortedN (namesF l)
def posF (l : List Fl) (n : ByteArray) : Nat := posN (namesF l) n
def hasF (l : List Fl) (n : ByteArray) : Bool := hasN (namesF l) n
def putF (l : List Fl) (f : Fl) : List Fl := l.take (posF l f.n) ++ f :: l.drop (posF l f.n)
def takeF (l : List Fl) (n : ByteArray) : List Fl := if hasF l n then l.take (posF l n) ++ l.drop (posF l n + 1) else l
def oldF (l : List Fl) (n : ByteArray) : Fl := (l[posF l n]?).getD ⟨n, ⟨#[]⟩⟩
def extF (l : List Fl) (n d : ByteArray) : List Fl := if hasF l n then l.set (posF l n) ⟨n, (oldF l n).d ++ d⟩ else putF l ⟨n, ⟨#[]⟩ ++ d⟩
def renF (l : List Fl) (n t : ByteArray) : List Fl := if hasF l n then putF (takeF (takeF l n) t) ⟨t, (oldF l n).d⟩ else l
def getF (l : List Fl) (n : ByteArray) : Option ByteArray := (l.find? (fun f => decide (f.n = n))).map Fl.d
def szF (l : List Fl) : Nat := (l.map (fun f => f.d.size)).sum
structure Wr where
  k : Int
  n : ByteArray
  t : ByteArray
  d : ByteArray
instance : Inhabited Wr := ⟨⟨0, ⟨#[]⟩, ⟨#[]⟩, ⟨#[]⟩⟩⟩
def appF (l : List Fl) (w : Wr) : List Fl := if w.k = 1 then extF l w.n w.d else if w.k = 2 then renF l w.n w.t else if w.k = 3 then takeF l w.n else l
def baseF (fs : List Fl) : List Fl := fs.foldl (fun l f => extF l f.n f.d) []
def lookF (fs : List Fl) (ws : List Wr) : List Fl := ws.foldl appF (baseF fs)
def splice (l : List Value) (o : Nat) (vs : List Value) : List Value := l.take o ++ vs ++ l.drop (o + vs.length)
theorem splice_len {l : List Value} {o : Nat} {vs : List Value} (h : o + vs.length ≤ l.length) : (splice l o vs).length = l.length := by
  unfold splice; simp; omega
theorem own_rowK {w : World} {g : Nat} {t : TypeId} {cur cs : List Value} (h : Own w g t cur) : Own (w.setRow g cs.toArray) g t cs := by
  unfold Own at *
  simp [World.setRow, Array.getElem?_modify, h]
theorem row_other {w : World} {g k : Nat} {cs : Array Value} (h : k ≠ g) : (w.setRow g cs).heap[k]? = w.heap[k]? := setRow_other w g k cs h
structure KeptK (w w' : World) (S : Nat → Prop) : Prop where
  os : w'.os = w.os
  tape : w'.tape = w.tape
  output : w'.output = w.output
  size : w.heap.size ≤ w'.heap.size
  block : ∀ k, k < w.heap.size → ¬ S k → w'.heap[k]? = w.heap[k]?
section
variable {w w' w'' : World} {S T : Nat → Prop}
theorem KeptK.refl (w : World) (S : Nat → Prop) : KeptK w w S := ⟨rfl, rfl, rfl, Nat.le_refl _, fun _ _ _ => rfl⟩
theorem KeptK.trans (h : KeptK w w' S) (k : KeptK w' w'' T) (hs : ∀ b, b < w.heap.size → T b → S b) : KeptK w w'' S :=
  ⟨k.os.trans h.os, k.tape.trans h.tape, k.output.trans h.output, Nat.le_trans h.size k.size,
    fun b hb hn => (k.block b (Nat.lt_of_lt_of_le hb h.size) (fun ht => hn (hs b hb ht))).trans (h.block b hb hn)⟩
theorem KeptK.more (h : KeptK w w' S) (hs : ∀ b, S b → T b) : KeptK w w' T := ⟨h.os, h.tape, h.output, h.size, fun b hb hn => h.block b hb (fun x => hn (hs b x))⟩
theorem KeptK.of_below {B : Nat} (h : Below B w w') (hB : w.heap.size ≤ B) (S : Nat → Prop) : KeptK w w' S := ⟨h.os, h.tape, h.output, h.size, fun b hb _ => h.block b (by omega)⟩
theorem KeptK.of_grown {o : Option Nat} (h : w.grownBy w' o) (hs : ∀ b, o = some b → S b) : KeptK w w' S :=
  ⟨h.os, h.tape, h.output, h.size, fun b hb hn => h.block b hb (fun e => hn (hs b e.symm))⟩
theorem KeptK.below {B : Nat} (h : KeptK w w' S) (hB : ∀ b, S b → B ≤ b) (hs : B ≤ w.heap.size) : Below B w w' := ⟨h.os, h.tape, h.output, h.size, fun b hb => h.block b (by omega) (fun x => by have := hB b x; omega)⟩
theorem KeptK.row {base : Nat} {e : TypeId} {size : Nat} {v : Value} {n : Nat} {xs : List Value} (h : KeptK w w' S) (ho : w.ownsRow base e size v n xs) (hn : ∀ k, v.ownBlock = some k → ¬ S k) : w'.ownsRow base e size v n xs := by
  refine ⟨ho.1, ?_⟩
  rcases ho.2 with h0 | ⟨g, cap, cur, rfl, hb, hg, rest⟩
  · exact .inl h0
  · refine .inr ⟨g, cap, cur, rfl, hb, ?_, rest⟩
    rw [h.block g (Array.getElem?_eq_some_iff.1 hg).1 (hn g rfl)]
    exact hg
theorem KeptK.own {g : Nat} {t : TypeId} {l : List Value} (h : KeptK w w' S) (ho : Own w g t l) (hn : ¬ S g) : Own w' g t l := (h.block g ho.inside hn).trans ho
theorem KeptK.set_ (h : KeptK w w' S) {g o : Nat} (hg : S g ∨ w.heap.size ≤ g) (u : Value) : KeptK w (w'.setCell ⟨g, o, none⟩ u) S :=
  ⟨h.os, h.tape, h.output, by simpa using h.size, fun b hb hn => (Below.heap_setCell w' ⟨g, o, none⟩ u b (by intro e; dsimp only at e; subst e; rcases hg with h1 | h1; exact hn h1; omega)).trans (h.block b hb hn)⟩
theorem KeptK.alloc (h : KeptK w w' S) (o : Obj) : KeptK w (w'.alloc o) S := ⟨h.os, h.tape, h.output, Nat.le_trans h.size (by simp), fun b hb hn => (Below.heap_alloc w' o b (Nat.lt_of_lt_of_le hb h.size)).trans (h.block b hb hn)⟩
theorem KeptK.drew (h : KeptK w w' S) : KeptK w w'.drew S := ⟨h.os, h.tape, h.output, h.size, h.block⟩
end
theorem row_ownK {w : World} {base c n size : Nat} {e : TypeId} {A : Option Addr} {xs : List Value} (h : w.ownsRow base e size (.slice A n c) n xs) :
    (A = none ∧ n = 0 ∧ c = 0 ∧ xs = []) ∨ ∃ g cur, A = some ⟨g, 0, none⟩ ∧ base ≤ g ∧ Own w g e cur ∧ n ≤ c ∧ c ≤ maxLen ∧ cur.length = c * size ∧ cur.take (n * size) = xs := by
  rcases h.2 with ⟨h0, h1⟩ | ⟨g, cap, cur, hv, hb, hg, h1, h2, h3, h4⟩
  · simp only [Value.slice.injEq] at h0
    refine .inl ⟨h0.1, h1, h0.2.2, ?_⟩
    have := h.1
    rw [h1] at this
    exact List.length_eq_zero_iff.1 (by omega)
  · simp only [Value.slice.injEq] at hv
    obtain ⟨rfl, _, rfl⟩ := hv
    exact .inr ⟨g, cur.toList, rfl, hb, by unfold Own; simpa using hg, h1, h2, by simpa using h3, h4⟩
theorem own_to_row {w : World} {base g c n size : Nat} {e : TypeId} {cur : List Value} (h : Own w g e cur) (hb : base ≤ g) (hn : n ≤ c) (hm : c ≤ maxLen) (hl : cur.length = c * size) :
    w.ownsRow base e size (.slice (some ⟨g, 0, none⟩) n c) n (cur.take (n * size)) :=
  ⟨by rw [List.length_take, hl]; exact Nat.min_eq_left (Nat.mul_le_mul_right _ hn), .inr ⟨g, c, cur.toArray, rfl, hb, h, hn, hm, by simpa using hl, by simp⟩⟩
theorem run_copy_into {P : Program} (w : World) (dT sT ty elem : TypeId) (g o dLen dCap : Nat) (a : Addr) (sLen sCap k : Nat) (cur cs : List Value) (t : TypeId) (hu : P.underlying dT = some (.slice elem)) (hs : (P.info? elem).map (·.size) = some k)
    (hg : Own w g t cur) (hn : cs.length = Nat.min sLen dLen * k) (hsrc : ∀ j v, cs[j]? = some v → w.cell? (a.add j) = some v) (hfit : o + cs.length ≤ cur.length) (h1 : ∀ v ∈ cs, v.oneCell' = true) :
    (Builtin.copy_ #[dT, sT] ty #[.slice (some ⟨g, o, none⟩) dLen dCap, .slice (some a) sLen sCap]).run P w = .ok (goInt (Nat.min sLen dLen)) (w.setRow g (splice cur o cs).toArray) := by
  have hl := run_loadCells_list (P := P) w a cs hsrc
  have hst := run_storeCells_at P g o t cs 0 cur.toArray w hg (by simpa using hfit) h1
  simp only [Nat.add_zero] at hst
  cases hq : P.info? elem with
  | none => simp [hq] at hs
  | some i =>
    have hi : i.size = k := by simpa [hq] using hs
    simp [Builtin.copy_, run_underlying hu, Builtin.lenOf, Builtin.firstCells, sizeOf, typeInfo, hq, hi, ← hn, hl, hst, splice]
theorem run_clear_one {P : Program} (w : World) (t e ty tt : TypeId) (z : Value) (ht : P.underlying t = some (.slice e)) (hv : ∀ w, (zeroValue e).run P w = .ok z w) (h1 : ∀ u ∈ z.cells.toList, u.oneCell' = true) (g o c : Nat) (cur : List Value) (hg : Own w g tt cur)
    (hfit : o + z.cells.size ≤ cur.length) :
    (Builtin.clear_ #[t] ty #[.slice (some ⟨g, o, none⟩) 1 c]).run P w = .ok (.tuple #[]) (w.setRow g (splice cur o z.cells.toList).toArray) := by
  have hz : (Builtin.zeroCells z.cells 1).toList = z.cells.toList := by
    unfold Builtin.zeroCells
    apply List.ext_getElem
    · simp
    · intro i h1 h2
      simp at h1 h2 ⊢
      rw [getElem!_pos z.cells (i % z.cells.size) (by rw [Nat.mod_eq_of_lt h1]; exact h1)]
      simp [Nat.mod_eq_of_lt h1]
  have hst := run_storeCells_at P g o tt z.cells.toList 0 cur.toArray w hg (by simpa using hfit) h1
  simp only [Nat.add_zero] at hst
  simp [Builtin.clear_, run_underlying ht, hv, hz, hst, splice]
theorem step_append_known {P : Program} {ops : Array Oper} {o : Oper} {a : Act} {w : World} {K : Act → World → Prop} {Q : Exit → Act → World → Prop} {E : Prop}
    (hg : o.guard = none) (d x : Operand) (dT sT : TypeId) (hop : o.op = Op.call { callee := Callee.builtin Builtin.append, args := #[d, x], argTypes := #[dT, sT] })
    (v u : Value) (hd : a.eval d = v) (hx : a.eval x = u) {v' : Value} {w' : World} (hr : (Builtin.append_ #[dT, sT] o.type #[v, u]).run P w = .ok v' w') (hK : K (a.put o.dst v') w') :
    if Region.wanted o (yielded ops a.tmps) = true then Oper.wp P o a w K Q else E := by
  have hw : Region.wanted o (yielded ops a.tmps) = true := by simp [Region.wanted, hg]
  rw [if_pos hw]
  unfold Oper.wp
  simp [execOp, hop, resolve, invoke, builtin, hd, hx, hr, Result.andThen]
  exact hK
theorem step_copy_known {P : Program} {ops : Array Oper} {o : Oper} {a : Act} {w : World} {K : Act → World → Prop} {Q : Exit → Act → World → Prop} {E : Prop}
    (hg : o.guard = none) (d x : Operand) (dT sT : TypeId) (hop : o.op = Op.call { callee := Callee.builtin Builtin.copy, args := #[d, x], argTypes := #[dT, sT] })
    (v u : Value) (hd : a.eval d = v) (hx : a.eval x = u) {v' : Value} {w' : World} (hr : (Builtin.copy_ #[dT, sT] o.type #[v, u]).run P w = .ok v' w') (hK : K (a.put o.dst v') w') :
    if Region.wanted o (yielded ops a.tmps) = true then Oper.wp P o a w K Q else E := by
  have hw : Region.wanted o (yielded ops a.tmps) = true := by simp [Region.wanted, hg]
  rw [if_pos hw]
  unfold Oper.wp
  simp [execOp, hop, resolve, invoke, builtin, hd, hx, hr, Result.andThen]
  exact hK
theorem list_append_known {P : Program} (w : World) {ops : Array Oper} {rest : List Oper} {o : Oper} {a : Act} {Q : Exit → Act → World → Prop} (hgd : o.guard = none) (d s : Operand) (t t' : TypeId)
    (ho : o.op = .call { callee := .builtin .append, args := #[d, s], argTypes := #[t, t'] }) (v u : Value) (hd : a.eval d = v) (hs : a.eval s = u) {v' : Value} {w' : World}
    (hr : (Builtin.append_ #[t, t'] o.type #[v, u]).run P w = .ok v' w') (h : wpList P ops Q rest (a.put o.dst v') w') : wpList P ops Q (o :: rest) a w := by
  refine wpList_plain hgd fun K hK => ?_
  unfold Oper.wp execOp
  simp only [ho, resolve, invoke, builtin, Sem.run_bind, Sem.run_pure, Result.andThen_ok, List.map_toArray, List.map_cons, List.map_nil, hd, hs, hr]
  exact hK _ _ h
theorem list_copy_known {P : Program} (w : World) {ops : Array Oper} {rest : List Oper} {o : Oper} {a : Act} {Q : Exit → Act → World → Prop} (hgd : o.guard = none) (d s : Operand) (t t' : TypeId)
    (ho : o.op = .call { callee := .builtin .copy, args := #[d, s], argTypes := #[t, t'] }) (v u : Value) (hd : a.eval d = v) (hs : a.eval s = u) {v' : Value} {w' : World}
    (hr : (Builtin.copy_ #[t, t'] o.type #[v, u]).run P w = .ok v' w') (h : wpList P ops Q rest (a.put o.dst v') w') : wpList P ops Q (o :: rest) a w := by
  refine wpList_plain hgd fun K hK => ?_
  unfold Oper.wp execOp
  simp only [ho, resolve, invoke, builtin, Sem.run_bind, Sem.run_pure, Result.andThen_ok, List.map_toArray, List.map_cons, List.map_nil, hd, hs, hr]
  exact hK _ _ h
theorem tm_box (w : World) (t : Tm) : ∃ V, V = w.alloc (.cells #[.int .u64 (t.e : Int), .int .u64 (t.a : Int), .int .u64 (t.b : Int)] 26) ∧ Below w.heap.size w V ∧ V.heap.size = w.heap.size + 1 ∧ Own V w.heap.size 26 t.cells :=
  ⟨_, rfl, (Below.refl _ _).alloc (Nat.le_refl _) _, by simp, Own.made w 26 t.cells⟩
theorem own3 {w : World} {P : Nat} {t : TypeId} {a0 a1 a2 : Value} (h : Own w P t [a0, a1, a2]) : w.cell? ⟨P, 0, none⟩ = some a0 ∧ w.cell? ⟨P, 1, none⟩ = some a1 ∧ w.cell? ⟨P, 2, none⟩ = some a2 := ⟨h.at_ 0, h.at_ 1, h.at_ 2⟩
theorem infoUp : (Tryz.prog.info? 49).map (fun i => (i.zero, i.size, i.bytes)) = some (some (.agg #[.slice none 0 0, .slice none 0 0, .int .u64 0, .int .u64 0, .int .u64 0, .int .i64 0]), 6, 80) := by kernel_rfl
theorem vals_grown {w w' : World} {A : Option Addr} {l : List Vl} {g : Option Nat} (h : Vals w w.heap.size A l) (hg : w.grownBy w' g) (hA : ∀ b o, A = some ⟨b, o, none⟩ → g ≠ some b) : Vals w' w'.heap.size A l := fun hp => by
  obtain ⟨b, o, e, hb, hc⟩ := h hp
  have hk : ∀ j, w'.cell? ⟨b, j, none⟩ = w.cell? ⟨b, j, none⟩ := fun j => by unfold World.cell?; rw [hg.block b hb (fun h => hA b o e h.symm)]
  refine ⟨b, o, e, Nat.lt_of_lt_of_le hb hg.size, fun i v hi => ?_⟩
  obtain ⟨a0, a1, a2⟩ := hc i v hi
  exact ⟨(hk _).trans a0, (hk _).trans a1, (hk _).trans a2⟩
def Far (B : Nat) (v : Value) (w : World) (u : Up) : Prop := ∀ b o, (u.kA = some ⟨b, o, none⟩ ∨ u.rA = some ⟨b, o, none⟩) → b < w.heap.size ∧ v.ownBlock ≠ some b ∧ B ≤ b
theorem Far.next {B : Nat} {v : Value} {w w' : World} {u : Up} (h : Far B v w u) (hs : w.heap.size ≤ w'.heap.size) : Far B v w' u := fun b o hb => ⟨Nat.lt_of_lt_of_le (h b o hb).1 hs, (h b o hb).2⟩
theorem uin_grown {B : Nat} {v : Value} {w w' : World} {u : Up} (h : UIn w w.heap.size u) (hf : Far B v w u) (hg : w.grownBy w' v.ownBlock) : UIn w' w'.heap.size u :=
  ⟨vals_grown h.key hg fun b o e => (hf b o (.inl e)).2.1, vals_grown h.row hg fun b o e => (hf b o (.inr e)).2.1⟩
def Lo (B : Nat) (A : Option Addr) (l : List Up) : Prop := (∀ b o, A = some ⟨b, o, none⟩ → B ≤ b) ∧ ∀ u ∈ l, ∀ b o, (u.kA = some ⟨b, o, none⟩ ∨ u.rA = some ⟨b, o, none⟩) → B ≤ b
theorem lo_nil (B : Nat) : Lo B none [] := ⟨fun b o e => (by cases e), fun u hu => (by cases hu)⟩
def TotSays (l : List (Uk × Int)) (base : Nat) (w : World) (x : Ending) (w' : World) : Prop :=
  ∃ A c, ∃ outL : List Up, x = .returned (.tuple #[.slice A outL.length c, .int .i64 (resE Uk.cmp l)]) ∧ outL.map Up.p = resL Uk.cmp l ∧ Ups w' w'.heap.size A outL ∧ (∀ u ∈ outL, UOk u) ∧ Below base w w' ∧ Lo base A outL
theorem fn_box (w : World) (v : Value) (t : TypeId) : ∃ W, W = w.alloc (.cells #[v] t) ∧ Below w.heap.size w W ∧ W.heap.size = w.heap.size + 1 ∧ W.cell? ⟨w.heap.size, 0, none⟩ = some v :=
  ⟨_, rfl, (Below.refl _ _).alloc (Nat.le_refl _) _, by simp, (Own.made w t [v]).at_ 0⟩
theorem ln_box (w : World) (x : Ln Up) : ∃ V, V = w.alloc (.cells #[.int .u64 (hiW x.S), .int .u64 (loW x.S), .slice x.u.kA x.u.key.length x.u.kc, .slice x.u.rA x.u.row.length x.u.rc, .int .u64 (x.u.t.e : Int), .int .u64 (x.u.t.a : Int), .int .u64 (x.u.t.b : Int), .int .i64 x.u.d] 86) ∧ Below w.heap.size w V ∧ V.heap.size = w.heap.size + 1 ∧ Own V w.heap.size 86 (Ln.cells Up.cells x) :=
  ⟨_, rfl, (Below.refl _ _).alloc (Nat.le_refl _) _, by simp, Own.made w 86 (Ln.cells Up.cells x)⟩
theorem own8a {w : World} {P : Nat} {t : TypeId} {a0 a1 a2 a3 a4 a5 a6 a7 : Value} (h : Own w P t [a0, a1, a2, a3, a4, a5, a6, a7]) : w.cell? ⟨P, 0, none⟩ = some a0 ∧ w.cell? ⟨P, 1, none⟩ = some a1 := ⟨h.at_ 0, h.at_ 1⟩
theorem ln_eight {w : World} {g o : Nat} {x : Ln Up} (h : ∀ (j : Nat) (u : Value), (Ln.cells Up.cells x)[j]? = some u → w.cell? ⟨g, o + j, none⟩ = some u) :
    w.cell? ⟨g, o, none⟩ = some (.int .u64 (hiW x.S)) ∧ w.cell? ⟨g, o + 1, none⟩ = some (.int .u64 (loW x.S)) ∧ w.cell? ⟨g, o + 2, none⟩ = some (.slice x.u.kA x.u.key.length x.u.kc) ∧ w.cell? ⟨g, o + 3, none⟩ = some (.slice x.u.rA x.u.row.length x.u.rc) ∧
      w.cell? ⟨g, o + 4, none⟩ = some (.int .u64 (x.u.t.e : Int)) ∧ w.cell? ⟨g, o + 5, none⟩ = some (.int .u64 (x.u.t.a : Int)) ∧ w.cell? ⟨g, o + 6, none⟩ = some (.int .u64 (x.u.t.b : Int)) ∧ w.cell? ⟨g, o + 7, none⟩ = some (.int .i64 x.u.d) :=
  ⟨h 0 _ rfl, h 1 _ rfl, h 2 _ rfl, h 3 _ rfl, h 4 _ rfl, h 5 _ rfl, h 6 _ rfl, h 7 _ rfl⟩
set_option maxRecDepth 100000 in
set_option maxHeartbeats 16000000 in
theorem totalU_any (v : Value) (n base : Nat) (l : List (Ln Up)) (w : World) (hnl : n = l.length) (h : w.ownsRow base 86 8 v n (l.flatMap (Ln.cells Up.cells))) (hbase : base ≤ w.heap.size) (hin : ∀ x ∈ l, UIn w base x.u) (hok : ∀ x ∈ l, UOk x.u) (hR : ∀ x ∈ l, UkR x.u.k)
    (hS : ∀ x ∈ l, -9223372036854775808 ≤ x.S ∧ x.S ≤ 9223372036854775807) (hn : n ≤ 1099511627776) :
    Calls Tryz.prog 33 #[v, .func (.func 34) #[] #[], .func (.func 35) #[] #[]] w (TotSays (l.map (pL Up.k)) base w) := by
  obtain ⟨i0, hi, hz0, hz1, hz2⟩ := info_parts infoUp
  have HI := Lib.hid (And.intro Tryz.underlying22 (And.intro hi (And.intro hz0 (And.intro hz1 hz2))))
  obtain ⟨W, hW, hwb, hws, hwc⟩ := fn_box w (.func (.func 34) #[] #[]) 88
  obtain ⟨A, c, rfl, hsort⟩ := sortU_all v n w.heap.size base l W hnl (own_below h hwb) hwc (fun x hx => (hin x hx).past hwb hbase) hok (by omega)
  have Hsort := Lib.hid hsort
  have HB := Lib.hid (And.intro (hwb.mono hbase) hbase)
  have HL := Lib.hid (And.intro hin (And.intro hok (And.intro hR (And.intro hS hnl))))
  clear hi hz0 hz1 hz2 hsort hwb hws hwc hin hok hR hS h hnl hbase
  go_enter Tryz.func33, Tryz.ntmps33
  go_upto_region 1 with fail
  rw [← hW]
  clear hW
  go_wp2_with fail
  refine Hsort.out.mono ?_
  rintro _ w1 ⟨rfl, s, hp, hpw, hlies, hb1, hbx⟩
  have hsn : s.length = n := by rw [hp.length_eq]; exact HL.out.2.2.2.2.symm
  have HS := Lib.hid (And.intro hp (And.intro hpw (And.intro hlies (And.intro (HB.out.1.trans hb1) (And.intro hbx hsn)))))
  have HX := Lib.hid (And.intro (fun x (hx : x ∈ s) => (HL.out.1 x (hp.mem_iff.1 hx)).past (HB.out.1.trans hb1) (Nat.le_refl _)) (And.intro (fun x (hx : x ∈ s) => HL.out.2.1 x (hp.mem_iff.1 hx)) (fun x (hx : x ∈ s) => HL.out.2.2.2.1 x (hp.mem_iff.1 hx))))
  have hbs : base ≤ w1.heap.size := Nat.le_trans HB.out.2 (HB.out.1.trans hb1).size
  have Hbs := Lib.hid hbs
  clear hp hpw hlies hb1 hbx hsn Hsort hbs
  go_wp2_with fail
  go_loopw [8, 9] (fun v8 v9 wr => ∃ (k : Nat) (outL : List Up), v9 = .int .i64 (k : Int) ∧ k ≤ n ∧ wr.ownsRow w1.heap.size 49 6 v8 outL.length (outL.flatMap Up.cells) ∧ (∀ u ∈ outL, UIn wr wr.heap.size u ∧ UOk u ∧ Far base v8 wr u) ∧ outL.map Up.p = nz Uk.cmp ((s.take k).map (pL Up.k)) ∧ Below w1.heap.size w1 wr ∧ Bound Uk.cmp Up.k s k ∧ (asm Uk.cmp ((s.take k).map (pL Up.k))).all (fun x => fits x.2) = true ∧ outL.length ≤ k)
    (fun _ v9 _ => n - (intOf v9).toNat)
  case atStart => exact ⟨0, [], rfl, by omega, World.ownsRow_nil _ _ _ _, fun u hu => (by cases hu), rfl, Below.refl _ _, fun a ha => (by cases ha), rfl, Nat.le_refl _⟩
  case round =>
    obtain ⟨k, outL, rfl, hk, hown, hout, hmap, hbw, hbound, hfit, hlen⟩ := hrel
    obtain ⟨wo, hwo⟩ : ∃ wo, wo = wr := ⟨_, rfl⟩
    subst hwo
    by_cases hlt : k < n
    · have hx : s[k]? = some (s[k]'(by rw [HS.out.2.2.2.2.2]; exact hlt)) := List.getElem?_eq_getElem _
      obtain ⟨g, o, rfl, hB, hxs⟩ := HS.out.2.2.1 (by rw [HS.out.2.2.2.2.2]; omega)
      have hmem := List.mem_of_getElem? hx
      generalize (s[k]'(by rw [HS.out.2.2.2.2.2]; exact hlt)) = x at *
      have hline := Lib.hid (fun (W : World) (hW : Below w1.heap.size w1 W) (i : Nat) (y : Ln Up) (hy : s[i]? = some y) => ln_eight (w := W) (g := g) (o := o + i * 8) (x := y) fun j u hj => (hW.cell (p := ⟨g, o + i * 8 + j, none⟩) hB).trans (hxs i y hy j u hj))
      have hrows := Lib.hid (fun (W : World) (hW : Below w1.heap.size w1 W) (y : Ln Up) (hy : y ∈ s) => ((HX.out.1 y hy).past hW Hbs.out).wide (Nat.le_trans Hbs.out hW.size))
      have hfn := Lib.hid (fun (W : World) (hW : Below w1.heap.size w1 W) => (hW.cell (p := ⟨w.heap.size, 0, none⟩) (World.block_lt_of_cell? w1 _ HS.out.2.2.2.2.1)).trans HS.out.2.2.2.2.1)
      obtain ⟨e0, e1, e2, e3, e4, e5, e6, e7⟩ := hline.out wo hbw k x hx
      obtain ⟨V, hV, hvb, hvs, hvo⟩ := ln_box wo x
      have HO := Lib.hid (And.intro hown (And.intro hout (And.intro hmap (And.intro hbw (And.intro hbound (And.intro hfit hlen))))))
      have HV := Lib.hid (And.intro hvb (And.intro hvo (And.intro hx hmem)))
      have hgs := gsum_one hx
      have q0 : (0 : Int) ≤ (k : Int) := by omega
      have q1 : (k : Int) < (n : Int) := by omega
      clear hx hmem hxs hown hout hmap hbw hbound hfit hvb hvo hlen hvs
      have HG := Lib.hid hgs
      clear hgs
      go_upto_region 6 with fail
      rw [← hV]
      clear hV e0 e1 e2 e3 e4 e5 e6 e7
      go_upto_block 2 with fail
      go_cut [9] (fun v9 wi => ∃ j : Nat, v9 = .int .i64 (j : Int) ∧ k + 1 ≤ j ∧ j ≤ n ∧ (∀ m y, k ≤ m → m < j → s[m]? = some y → x.u.k.cmp y.u.k = 0) ∧ (∀ y, s[j]? = some y → x.u.k.cmp y.u.k ≠ 0) ∧ Own wi wo.heap.size 86 (.int .u64 (hiW (gsum s k j)) :: .int .u64 (loW (gsum s k j)) :: x.u.cells) ∧ Below wo.heap.size wo wi)
      case first =>
        go_wp2_with fail
        go_loopw [9] (fun v9 wi => ∃ j : Nat, v9 = .int .i64 (j : Int) ∧ k + 1 ≤ j ∧ j ≤ n ∧ (∀ m y, k ≤ m → m < j → s[m]? = some y → x.u.k.cmp y.u.k = 0) ∧ Own wi wo.heap.size 86 (.int .u64 (hiW (gsum s k j)) :: .int .u64 (loW (gsum s k j)) :: x.u.cells) ∧ Below wo.heap.size wo wi)
          (fun v9 _ => n - (intOf v9).toNat)
        case atStart =>
          refine ⟨k + 1, by go_num, Nat.le_refl _, by omega, fun m y h1 h2 h3 => ?_, by rw [HG.out]; exact HV.out.2.1, HV.out.1⟩
          obtain rfl : m = k := by omega
          rw [HV.out.2.2.1] at h3
          obtain rfl := Option.some.inj h3
          exact uk_lin.self _
        case round =>
          obtain ⟨j, rfl, hj1, hj2, heq, howi, hbi⟩ := hrel
          obtain ⟨wi, hwi⟩ : ∃ wi, wi = wr := ⟨_, rfl⟩
          subst hwi
          have hbj : Below w1.heap.size w1 wi := HO.out.2.2.2.1.trans (hbi.mono HO.out.2.2.2.1.size)
          have HJ := Lib.hid (And.intro heq (And.intro howi (And.intro hbi hbj)))
          clear heq howi hbi hbj
          by_cases hjn : j < n
          · have hy : s[j]? = some (s[j]'(by rw [HS.out.2.2.2.2.2]; exact hjn)) := List.getElem?_eq_getElem _
            have hymem := List.mem_of_getElem? hy
            generalize (s[j]'(by rw [HS.out.2.2.2.2.2]; exact hjn)) = y at *
            have q2 : (0 : Int) ≤ (j : Int) := by omega
            have q3 : (j : Int) < (n : Int) := by omega
            have q4 : decide ((j : Int) < (n : Int)) = true := decide_eq_true q3
            have HY := Lib.hid (And.intro hy hymem)
            have u1 : ∀ p : Past wi, Calls Tryz.prog 34 #[.agg #[.slice x.u.kA x.u.key.length x.u.kc, .slice x.u.rA x.u.row.length x.u.rc, .int .u64 (x.u.t.e : Int), .int .u64 (x.u.t.a : Int), .int .u64 (x.u.t.b : Int), .int .i64 x.u.d], .agg #[.slice y.u.kA y.u.key.length y.u.kc, .slice y.u.rA y.u.row.length y.u.rc, .int .u64 (y.u.t.e : Int), .int .u64 (y.u.t.a : Int), .int .u64 (y.u.t.b : Int), .int .i64 y.u.d]] p.w fun e w'' => e = .returned (.int .i64 (x.u.k.cmp y.u.k)) ∧ ∃ q : Past wi, w'' = q.w := fun p =>
              calls_past ((dcompare_gr x.u y.u p.w (hrows.out p.w (HJ.out.2.2.2.trans (p.h.mono HJ.out.2.2.2.size)) x HV.out.2.2.2) (hrows.out p.w (HJ.out.2.2.2.trans (p.h.mono HJ.out.2.2.2.size)) y HY.out.2) (HX.out.2.1 x HV.out.2.2.2) (HX.out.2.1 y HY.out.2)).mono fun e w' h => ⟨h.1, h.2.below⟩)
            have u2 := fun p : Past wi => hfn.out p.w (HJ.out.2.2.2.trans (p.h.mono HJ.out.2.2.2.size))
            have u3 := fun p : Past wi => own8l (HJ.out.2.1.past p.h HJ.out.2.1.inside)
            have u4 := fun p : Past wi => (hline.out p.w (HJ.out.2.2.2.trans (p.h.mono HJ.out.2.2.2.size)) j y HY.out.1).2.2
            obtain ⟨r, hr⟩ : ∃ r, x.u.k.cmp y.u.k = r := ⟨_, rfl⟩
            rw [hr] at u1
            have HR := Lib.hid hr
            clear hr hy hymem
            by_cases hr0 : r = 0
            · have t1 : (r == 0) = true := beq_iff_eq.2 hr0
              have HR0 := Lib.hid hr0
              clear hr0
              go_upto_region 7 with fail
              refine wp_region_past wi (by kernel_rfl) (by kernel_rfl) (Below.refl _ _) ?_
              repeat (first | go_big_quiet_step ((go_at_call 34; exact u1 _)) | quiet_step ((go_at_call 34; exact u1 _)))
              refine wpQuiet_nil ?_
              intro wz hw'
              obtain ⟨⟨wy, hbz⟩, hw''⟩ := hw'
              dsimp only at hw''
              subst hw''
              have hz1 := HJ.out.2.2.2.trans (hbz.mono HJ.out.2.2.2.size)
              obtain ⟨e0, e1, _⟩ := hline.out wz hz1 j y HY.out.1
              have hadd := Lib.hid (add_line (gsum s k j) y.S wo.heap.size 86 x.u.cells wz (HJ.out.2.1.past hbz HJ.out.2.1.inside))
              have HZ := Lib.hid (HJ.out.2.2.1.trans (hbz.mono HJ.out.2.2.1.size))
              clear u1 u2 u3 u4 hbz hz1 t1
              go_wp2_with fail
              refine hadd.out.mono ?_
              rintro _ w5 ⟨rfl, ho5, hb5⟩
              have H5 := Lib.hid (And.intro ho5 (HZ.out.trans (hb5 _ (Nat.le_refl _))))
              clear ho5 hb5 e0 e1 hadd
              go_wp2_with fail
              go_roundw
              case rel =>
                refine ⟨j + 1, by go_num, by omega, by omega, fun m z h1 h2 h3 => ?_, by rw [gsum_next (by omega) HY.out.1]; exact H5.out.1, H5.out.2⟩
                by_cases hmj : m = j
                · subst hmj
                  rw [HY.out.1] at h3
                  obtain rfl := Option.some.inj h3
                  rw [HR.out, HR0.out]
                · exact HJ.out.1 m z h1 (by omega) h3
              case measure => simp [intOf]; omega
            · have t1 : (r == 0) = false := beq_eq_false_iff_ne.2 hr0
              have HR0 := Lib.hid hr0
              clear hr0
              go_upto_region 7 with fail
              refine wp_region_past wi (by kernel_rfl) (by kernel_rfl) (Below.refl _ _) ?_
              repeat (first | go_big_quiet_step ((go_at_call 34; exact u1 _)) | quiet_step ((go_at_call 34; exact u1 _)))
              refine wpQuiet_nil ?_
              intro wz hw'
              obtain ⟨⟨wy, hbz⟩, hw''⟩ := hw'
              dsimp only at hw''
              subst hw''
              have HZ := Lib.hid (And.intro (HJ.out.2.1.past hbz HJ.out.2.1.inside) (HJ.out.2.2.1.trans (hbz.mono HJ.out.2.2.1.size)))
              clear u1 u2 u3 u4 hbz t1
              go_wp2_with fail
              go_meet
              exact ⟨j, rfl, by omega, by omega, HJ.out.1, fun z hz => by
                rw [HY.out.1] at hz
                obtain rfl := Option.some.inj hz
                rw [HR.out]
                exact HR0.out, HZ.out.1, HZ.out.2⟩
          · have q4 : decide ((j : Int) < (n : Int)) = false := decide_eq_false (by omega)
            go_upto_region 7 with fail
            go_quiet (fail)
            go_wp2_with fail
            go_meet
            exact ⟨j, rfl, by omega, by omega, HJ.out.1, fun z hz => by
              have := (List.getElem?_eq_some_iff.1 hz).1
              rw [HS.out.2.2.2.2.2] at this
              omega, HJ.out.2.1.draws _, below_draws HJ.out.2.2.1 _⟩
      case rest =>
        obtain ⟨j, rfl, hj1, hj2, heq, hmax, hown, hbi⟩ := hcut
        obtain ⟨hB2, hasm⟩ := group_step (f := Up.k) uk_lin HS.out.2.1 (by omega) (by rw [HS.out.2.2.2.2.2]; exact hj2) HV.out.2.2.1 heq hmax HO.out.2.2.2.2.1
        have hnz := nz_step hasm
        have hfi := fit_step hasm
        have hgb := gsum_bound HX.out.2.2 (by rw [HS.out.2.2.2.2.2]; exact hn) k j
        rw [HO.out.2.2.2.2.2.1, Bool.true_and] at hfi
        have hcall := fun W => Lib.hid (number_any (gsum s k j) W hgb.1 hgb.2)
        have hbx1 := HO.out.2.2.2.1.trans (hbi.mono HO.out.2.2.2.1.size)
        obtain ⟨c0, c1⟩ := own8a hown
        obtain ⟨S, hSe⟩ : ∃ S, gsum s k j = S := ⟨_, rfl⟩
        rw [hSe] at hasm hnz hfi hcall c0 c1 hown
        have HC := Lib.hid (And.intro hB2 (And.intro hnz (And.intro hfi (And.intro hbx1 (And.intro hbi hown)))))
        clear hB2 hasm hnz hfi hgb heq hmax hown hbi hbx1 hSe
        go_wp2_with fail
        refine (hcall _).out.mono ?_
        rintro _ w2 ⟨rfl, b2⟩
        have H2 := Lib.hid (And.intro (HC.out.2.2.2.1.trans (b2.mono HC.out.2.2.2.1.size)) (And.intro (HC.out.2.2.2.2.2.past b2 HC.out.2.2.2.2.2.inside) (HC.out.2.2.2.2.1.trans (b2.mono HC.out.2.2.2.2.1.size))))
        clear b2 c0 c1 hcall
        cases hf : fits S
        case false =>
          have e1 : fitE S = 10 := by unfold fitE; rw [hf]; rfl
          have hres : resE Uk.cmp (l.map (pL Up.k)) = 10 ∧ resL Uk.cmp (l.map (pL Up.k)) = [] := by
            obtain ⟨p1, p2⟩ := res_perm (f := Up.k) uk_lin HS.out.1 HL.out.2.2.1
            have hbad := bad_step HC.out.1 (by rw [HC.out.2.2.1]; exact hf)
            rw [← p1, ← p2]
            unfold resE resL
            rw [hbad]
            exact ⟨rfl, rfl⟩
          have HR := Lib.hid hres
          have HE := Lib.hid e1
          rw [e1]
          clear hres hf e1
          go_wp2_with fail
          go_ret2
          exact ⟨none, 0, [], by rw [HR.out.1]; rfl, HR.out.2.symm, ⟨Lies.nil_, fun u hu => (by cases hu)⟩, fun u hu => (by cases hu), HS.out.2.2.2.1.trans (H2.out.1.mono Hbs.out), lo_nil _⟩
        case true =>
          have e1 : fitE S = 0 := by unfold fitE; rw [hf]; rfl
          have e2 : fitN S = S := by unfold fitN; rw [hf]; rfl
          have hfb := (fits_iff S).1 hf
          rw [e1, e2]
          have HF := Lib.hid (And.intro hf hfb)
          clear hf hfb e1 e2
          by_cases hS0 : S = 0
          · have t1 : (S != 0) = false := by simp [hS0]
            have HS0 := Lib.hid hS0
            have hkeep := own_below HO.out.1 H2.out.2.2
            have HK := Lib.hid hkeep
            clear hS0 hkeep
            go_wp2_with fail
            go_roundw
            case rel =>
              refine ⟨j, outL, rfl, hj2, HK.out, fun u hu => ⟨(HO.out.2.1 u hu).1.keep H2.out.2.2, (HO.out.2.1 u hu).2.1, (HO.out.2.1 u hu).2.2.next H2.out.2.2.size⟩, ?_, H2.out.1, HC.out.1, by rw [HC.out.2.2.1]; exact HF.out.1, by have := HO.out.2.2.2.2.2.2; omega⟩
              rw [HC.out.2.1, HS0.out, if_pos rfl, List.append_nil]
              exact HO.out.2.2.1
            case measure => simp [intOf]; omega
          · have t1 : (S != 0) = true := bne_iff_ne.2 hS0
            have HS0 := Lib.hid hS0
            obtain ⟨c2, c3, c4, c5, c6, c7⟩ := own8l H2.out.2.1
            have hxk := HX.out.2.1 x HV.out.2.2.2
            have hxr := chkK_zero (HL.out.2.2.1 x (HS.out.1.mem_iff.1 HV.out.2.2.2))
            have hx8 := (chkRow_zero hxr.1).2
            have hx9 := (chkRow_zero hxr.2.1).2
            have hret := Lib.hid (retain_any x.u S w2 (hrows.out w2 H2.out.1 x HV.out.2.2.2) ⟨by change x.u.key.length ≤ 8 at hx8; omega, by change x.u.row.length ≤ 8 at hx9; omega⟩)
            have HXK := Lib.hid hxk
            rw [show x.u.val = .agg #[.slice x.u.kA x.u.key.length x.u.kc, .slice x.u.rA x.u.row.length x.u.rc, .int .u64 (x.u.t.e : Int), .int .u64 (x.u.t.a : Int), .int .u64 (x.u.t.b : Int), .int .i64 x.u.d] from rfl] at hret
            clear hS0 hxk hxr hx8 hx9
            go_wp2_with fail
            refine hret.out.mono ?_
            rintro _ w3 ⟨u', rfl, k1, k2, k3, k4, hin3, hfar, b3⟩
            have hlen := HO.out.2.2.2.2.2.2
            have H3 := Lib.hid (And.intro (H2.out.1.trans (b3.mono H2.out.1.size)) (And.intro (H2.out.2.2.trans (b3.mono H2.out.2.2.size)) (And.intro hin3 (own_below HO.out.1 (H2.out.2.2.trans (b3.mono H2.out.2.2.size))))))
            have hfar' : Far base u8 w3 u' := fun b o hb => ⟨(hfar b o hb).2, fun e => by
              have h1 := (HO.out.1.lt b e).2
              have h2 := (hfar b o hb).1
              have h3 := H2.out.2.2.size
              omega, by
              have h2 := (hfar b o hb).1
              have h3 := H2.out.1.size
              have h4 := Hbs.out
              omega⟩
            have HU := Lib.hid (And.intro k1 (And.intro k2 (And.intro k3 (And.intro k4 hfar'))))
            rw [show u'.val = .agg #[.slice u'.kA u'.key.length u'.kc, .slice u'.rA u'.row.length u'.rc, .int .u64 (u'.t.e : Int), .int .u64 (u'.t.a : Int), .int .u64 (u'.t.b : Int), .int .i64 u'.d] from rfl]
            have hs3 := H3.out.1.size
            clear k1 k2 k3 k4 hin3 b3 hret hfar hfar' c2 c3 c4 c5 c6 c7
            go_wp2_with (at_builtin; refine wpList_push _ rfl _ _ 22 rfl w1.heap.size 49 i0 _ 6 80 HI.out.1 HI.out.2.1 HI.out.2.2.1 HI.out.2.2.2.1 HI.out.2.2.2.2 rfl (by decide) _ _ _ rfl H3.out.2.2.2 #[.slice u'.kA u'.key.length u'.kc, .slice u'.rA u'.row.length u'.rc, .int .u64 (u'.t.e : Int), .int .u64 (u'.t.a : Int), .int .u64 (u'.t.b : Int), .int .i64 u'.d] rfl rfl ?p1 ?p2 ?p3 ?p4 ?_)
            case p1 => exact ⟨rfl, rfl, rfl, rfl, rfl, rfl⟩
            case p2 => unfold maxLen; omega
            case p3 => omega
            case p4 => exact hs3
            intro v' w' ho' hb' hob hgw
            have hbw' := H3.out.1.trans hb'
            have hfarn : ∀ u, Far base u8 w3 u → Far base v' w' u := fun u hu b o hb => by
              obtain ⟨h1, h2, h3⟩ := hu b o hb
              refine ⟨Nat.lt_of_lt_of_le h1 hgw.size, fun e => ?_, h3⟩
              rcases hob with h | h
              · rw [h] at e; exact h2 e
              · rw [h] at e
                injection e with e
                omega
            have hall : ∀ u ∈ outL ++ [u'], UIn w' w'.heap.size u ∧ UOk u ∧ Far base v' w' u := fun u hu => by
              rcases List.mem_append.1 hu with hu | hu
              · have hf3 := (HO.out.2.1 u hu).2.2.next H3.out.2.1.size
                exact ⟨uin_grown ((HO.out.2.1 u hu).1.keep H3.out.2.1) hf3 hgw, (HO.out.2.1 u hu).2.1, hfarn u hf3⟩
              · obtain rfl : u = u' := by simpa using hu
                refine ⟨uin_grown H3.out.2.2.1 HU.out.2.2.2.2 hgw, ⟨?_, ?_, ?_, ?_, ?_⟩, hfarn u HU.out.2.2.2.2⟩
                · rw [HU.out.1]; exact HXK.out.kn
                · rw [HU.out.2.1]; exact HXK.out.rn
                · rw [HU.out.1]; exact HXK.out.ks
                · rw [HU.out.2.1]; exact HXK.out.rs
                · rw [HU.out.2.2.2.1]; exact HF.out.2
            have hmap2 : (outL ++ [u']).map Up.p = nz Uk.cmp ((s.take j).map (pL Up.k)) := by
              rw [List.map_append, HC.out.2.1, if_neg HS0.out, HO.out.2.2.1]
              have hpu : u'.p = (x.u.k, S) := by
                unfold Up.p Up.k
                rw [HU.out.1, HU.out.2.1, HU.out.2.2.1, HU.out.2.2.2.1]
              rw [List.map_cons, List.map_nil, hpu]
            have hrow2 : w'.ownsRow w1.heap.size 49 6 v' (outL ++ [u']).length ((outL ++ [u']).flatMap Up.cells) := by
              rw [List.length_append, List.flatMap_append]
              exact ho'
            have H4 := Lib.hid (And.intro hrow2 (And.intro hall (And.intro hmap2 hbw')))
            clear ho' hb' hob hgw hbw' hfarn hall hmap2 hrow2
            go_wp2_with fail
            go_roundw
            case rel => exact ⟨j, outL ++ [u'], rfl, hj2, H4.out.1, H4.out.2.1, H4.out.2.2.1, H4.out.2.2.2, HC.out.1, by rw [HC.out.2.2.1]; exact HF.out.1, by rw [List.length_append, List.length_singleton]; omega⟩
            case measure => simp [intOf]; omega
    · have hkn : k = n := by omega
      have htk : s.take k = s := by rw [List.take_of_length_le]; rw [HS.out.2.2.2.2.2, hkn]; exact Nat.le_refl _
      rw [htk] at hmap hfit
      obtain ⟨p1, p2⟩ := res_perm (f := Up.k) uk_lin HS.out.1 HL.out.2.2.1
      have hE : resE Uk.cmp (l.map (pL Up.k)) = 0 := by rw [← p2]; unfold resE; rw [hfit]; rfl
      have hLL : outL.map Up.p = resL Uk.cmp (l.map (pL Up.k)) := by rw [← p1]; unfold resL; rw [hfit, hmap]; rfl
      obtain ⟨A', c', rfl, _, _, hl'⟩ := lies_of_own (by decide) ucells_len rfl hown
      have hlo : Lo base A' outL := ⟨fun b o e => by subst e; exact Nat.le_trans Hbs.out (hown.lt b rfl).1, fun u hu b o hb => ((hout u hu).2.2 b o hb).2.2⟩
      have HLo := Lib.hid hlo
      clear hlo
      have HE := Lib.hid (And.intro hE (And.intro hLL (And.intro (⟨hl', fun u hu => (hout u hu).1⟩ : Ups wo wo.heap.size A' outL) (And.intro (fun u hu => (hout u hu).2.1) hbw))))
      have q4 : decide ((k : Int) < (n : Int)) = false := decide_eq_false (by omega)
      clear hown hout hmap hfit hbound hbw htk p1 p2 hE hLL hl'
      go_wp2_with fail
      go_ret2
      exact ⟨A', c', outL, by rw [HE.out.1]; rfl, HE.out.2.1, HE.out.2.2.1, HE.out.2.2.2.1, HS.out.2.2.2.1.trans (HE.out.2.2.2.2.mono Hbs.out), HLo.out⟩
end Go.Proofs.YtjffohpdjicfpaaGreat
namespace Go.Proofs.YtjffohpdjicfpaaGreat
open Go Go.RowKit Go.Sort
structure Ct where
  rA : Option Addr
  rc : Nat
  row : List Vl
  n : Int
instance : Inhabited Ct := ⟨⟨none, 0, [], 0⟩⟩
namespace Ct
def cells (u : Ct) : List Value := [.slice u.rA u.row.length u.rc, .int .i64 u.n]
def val (u : Ct) : Value := .agg #[.slice u.rA u.row.length u.rc, .int .i64 u.n]
def k (u : Ct) : List Vl := u.row
def p (u : Ct) : List Vl × Int := (u.row, u.n)
end Ct
theorem ccells_len (u : Ct) : u.cells.length = 2 := rfl
theorem ccells_one (u : Ct) : ∀ v ∈ u.cells, v.oneCell' = true := by
  intro v hv
  simp only [Ct.cells, List.mem_cons, List.not_mem_nil, or_false] at hv
  rcases hv with rfl | rfl <;> rfl
def RowR (r : List Vl) : Prop := chkRow r = 0
theorem row_lin : Lin cmpRows RowR where
  swap a b := cmpRows_swap a b
  le a b c h k := cmpRows_le a b c h k
  eq a b ha hb := cmpRows_right (chkRow_zero ha).1 (chkRow_zero hb).1
structure CIn (w : World) (B : Nat) (u : Ct) : Prop where
  row : Vals w B u.rA u.row
theorem CIn.past {w w' : World} {B B' : Nat} {u : Ct} (h : CIn w B u) (hb : RowKit.Below B' w w') (hB : B ≤ B') : CIn w' B u := ⟨h.row.past hb hB⟩
theorem CIn.wide {w : World} {B B' : Nat} {u : Ct} (h : CIn w B u) (hB : B ≤ B') : CIn w B' u := ⟨h.row.wide hB⟩
theorem CIn.keep {w w' : World} {u : Ct} (h : CIn w w.heap.size u) (hb : RowKit.Below w.heap.size w w') : CIn w' w'.heap.size u := (h.past hb (Nat.le_refl _)).wide hb.size
structure COk (u : Ct) : Prop where
  rn : u.row.length ≤ 140737488351232
  rs : ∀ v ∈ u.row, VOk v
  dn : -9223372036854775808 ≤ u.n ∧ u.n ≤ 9223372036854775807
structure Cts (w : World) (B : Nat) (A : Option Addr) (l : List Ct) : Prop where
  head : Lies 2 Ct.cells w B A l
  each_ : ∀ u ∈ l, CIn w B u
theorem Cts.past {w w' : World} {B B' : Nat} {A : Option Addr} {l : List Ct} (h : Cts w B A l) (hb : RowKit.Below B' w w') (hB : B ≤ B') : Cts w' B A l := ⟨h.head.past hb hB, fun u hu => (h.each_ u hu).past hb hB⟩
theorem Cts.wide {w : World} {B B' : Nat} {A : Option Addr} {l : List Ct} (h : Cts w B A l) (hB : B ≤ B') : Cts w B' A l := ⟨h.head.wide hB, fun u hu => (h.each_ u hu).wide hB⟩
theorem Cts.keep {w w' : World} {A : Option Addr} {l : List Ct} (h : Cts w w.heap.size A l) (hb : RowKit.Below w.heap.size w w') : Cts w' w'.heap.size A l := (h.past hb (Nat.le_refl _)).wide hb.size
def CAt (w : World) (b o : Nat) (u : Ct) : Prop := ∀ (j : Nat) (v : Value), u.cells[j]? = some v → w.cell? ⟨b, o + j, none⟩ = some v
theorem CAt.two {w : World} {b o : Nat} {u : Ct} (h : CAt w b o u) : w.cell? ⟨b, o, none⟩ = some (.slice u.rA u.row.length u.rc) ∧ w.cell? ⟨b, o + 1, none⟩ = some (.int .i64 u.n) := ⟨h 0 _ rfl, h 1 _ rfl⟩
theorem CAt.past_ {w w' : World} {B b o : Nat} {u : Ct} (h : CAt w b o u) (hb : RowKit.Below B w w') (hB : b < B) : CAt w' b o u := fun j v hj => (hb.cell (p := ⟨b, o + j, none⟩) hB).trans (h j v hj)
theorem lies_ct {w : World} {B : Nat} {A : Option Addr} {l : List Ct} (h : Lies 2 Ct.cells w B A l) (hp : 0 < l.length) :
    ∃ b o, A = some ⟨b, o, none⟩ ∧ b < B ∧ ∀ (i : Nat) (x : Ct), l[i]? = some x → CAt w b (o + i * 2) x := by
  obtain ⟨b, o, e, hb, hc⟩ := h hp
  exact ⟨b, o, e, hb, fun i x hi j u hj => hc i x hi j u hj⟩
theorem own2 {w : World} {P : Nat} {t : TypeId} {a0 a1 : Value} (h : Own w P t [a0, a1]) : w.cell? ⟨P, 0, none⟩ = some a0 ∧ w.cell? ⟨P, 1, none⟩ = some a1 := ⟨h.at_ 0, h.at_ 1⟩
theorem ctbox (w : World) (u : Ct) : ∃ W, W = w.alloc (.cells #[.slice u.rA u.row.length u.rc, .int .i64 u.n] 58) ∧ RowKit.Below w.heap.size w W ∧ W.heap.size = w.heap.size + 1 ∧ Own W w.heap.size 58 u.cells :=
  ⟨_, rfl, (RowKit.Below.refl _ _).alloc (Nat.le_refl _) _, by simp, Own.made w 58 u.cells⟩
theorem two_ct (w : World) (a b : Ct) : ∃ W, W = (w.alloc (.cells #[.slice a.rA a.row.length a.rc, .int .i64 a.n] 58)).alloc (.cells #[.slice b.rA b.row.length b.rc, .int .i64 b.n] 58) ∧ Gr w W ∧ Own W w.heap.size 58 a.cells ∧ Own W (w.heap.size + 1) 58 b.cells := by
  refine ⟨_, rfl, Gr.two w _ _, (Own.made w 58 a.cells).more _, ?_⟩
  have := Own.made (w.alloc (.cells #[.slice a.rA a.row.length a.rc, .int .i64 a.n] 58)) 58 b.cells
  rw [show (w.alloc (.cells #[.slice a.rA a.row.length a.rc, .int .i64 a.n] 58)).heap.size = w.heap.size + 1 by simp] at this
  exact this
set_option maxRecDepth 100000 in
set_option maxHeartbeats 3200000 in
theorem ccompare_gr (a b : Ct) (w : World) (ha : CIn w w.heap.size a) (hb : CIn w w.heap.size b) (oa : COk a) (ob : COk b) :
    Calls Tryz.prog 83 #[a.val, b.val] w fun e w' => e = .returned (.int .i64 (cmpRows a.k b.k)) ∧ Gr w w' := by
  obtain ⟨W, hW, hg, o1, o2⟩ := two_ct w a b
  have y1 := Lib.hid (rows_gr a.rA b.rA a.rc b.rc a.row b.row W (ha.keep hg.below).row (hb.keep hg.below).row (maxn oa.rn) (maxn ob.rn))
  have HG := Lib.hid hg
  obtain ⟨a0, a1⟩ := own2 o1
  obtain ⟨b0, b1⟩ := own2 o2
  rw [show a.val = .agg #[.slice a.rA a.row.length a.rc, .int .i64 a.n] from rfl, show b.val = .agg #[.slice b.rA b.row.length b.rc, .int .i64 b.n] from rfl, show cmpRows a.k b.k = cmpRows a.row b.row from rfl]
  generalize cmpRows a.row b.row = r at *
  clear ha hb oa ob hg o1 o2
  go_enter Tryz.func83, Tryz.ntmps83
  go_upto_region 1 with fail
  rw [← hW]
  clear hW
  go_wp2_with fail
  refine y1.out.mono ?_
  rintro _ w1 ⟨rfl, g1⟩
  have H1 := Lib.hid (HG.out.trans g1)
  clear g1
  go_wp2_with fail
  go_ret
  exact ⟨rfl, H1.out⟩
theorem keep_box (w : World) (u : Ct) : ∃ V, V = (w.alloc (.cells #[.slice u.rA u.row.length u.rc, .int .i64 u.n] 58)).alloc (.cells #[.slice none 0 0, .int .i64 0] 58) ∧ RowKit.Below w.heap.size w V ∧ Own V w.heap.size 58 u.cells ∧ Own V (w.heap.size + 1) 58 [.slice none 0 0, .int .i64 0] := by
  refine ⟨_, rfl, ((RowKit.Below.refl _ _).alloc (Nat.le_refl _) _).alloc (by simp) _, (Own.made w 58 u.cells).more _, ?_⟩
  have := Own.made (w.alloc (.cells #[.slice u.rA u.row.length u.rc, .int .i64 u.n] 58)) 58 [.slice none 0 0, .int .i64 0]
  rw [show (w.alloc (.cells #[.slice u.rA u.row.length u.rc, .int .i64 u.n] 58)).heap.size = w.heap.size + 1 by simp] at this
  exact this
theorem own_two {w : World} {P : Nat} {t : TypeId} {z0 z1 : Value} (h : Own w P t [z0, z1]) (a b : Value) :
    ∃ X, X = ((w.setCell ⟨P, 0, none⟩ a).setCell ⟨P, 1, none⟩ b) ∧ Own X P t [a, b] ∧ (∀ B u, RowKit.Below B u w → B ≤ P → RowKit.Below B u X) ∧ X.heap.size = w.heap.size ∧ (∀ b, b ≠ P → X.heap[b]? = w.heap[b]?) :=
  ⟨_, rfl, (h.set_ 0 a).set_ 1 b, fun B u hb hB => (hb.setCell (p := ⟨P, 0, none⟩) hB _).setCell (p := ⟨P, 1, none⟩) hB _, by simp [World.setCell], fun b hb => by
    have k := fun (W : World) (i : Nat) (v : Value) => Below.heap_setCell W ⟨P, i, none⟩ v b hb
    rw [k, k]⟩
def KeptC (u : Ct) (n : Int) (w : World) (x : Ending) (w' : World) : Prop :=
  ∃ u' : Ct, x = .returned u'.val ∧ u'.row = u.row ∧ u'.n = n ∧ CIn w' w'.heap.size u' ∧ (∀ b o, u'.rA = some ⟨b, o, none⟩ → w.heap.size ≤ b ∧ b < w'.heap.size) ∧ RowKit.Below w.heap.size w w'
set_option maxRecDepth 100000 in
set_option maxHeartbeats 6400000 in
theorem keepC_any (u : Ct) (n : Int) (w : World) (hu : CIn w w.heap.size u) (ok : u.row.length * 32 ≤ 281474976710656) :
    Calls Tryz.prog 85 #[u.val, .int .i64 n] w (KeptC u n w) := by
  obtain ⟨V, hV, hvb, hvo, hvz⟩ := keep_box w u
  have hin := hu.keep hvb
  have y1 := Lib.hid (listV_any u.rA u.rc u.row V hin.row ok)
  have HZ := Lib.hid hvz
  have HB := Lib.hid hvb
  obtain ⟨d0, d1⟩ := own2 hvo
  rw [show u.val = .agg #[.slice u.rA u.row.length u.rc, .int .i64 u.n] from rfl]
  have hsz := hvz.inside
  clear hu ok hvb hvo hvz hin
  go_enter Tryz.func85, Tryz.ntmps85
  go_upto_region 1 with fail
  rw [← hV]
  clear hV
  go_wp2_with (go_at_call 75; refine y1.out.mono ?_; rintro _ w2 ⟨A2, k2, rfl, v2, n2, b2⟩; have f0 := (HZ.out.past b2 HZ.out.inside).open_ 0; have f1 := (HZ.out.past b2 HZ.out.inside).open_ 1; have e0 := (HZ.out.past b2 HZ.out.inside).at_ 0; have e1 := (HZ.out.past b2 HZ.out.inside).at_ 1; simp only [List.getElem?_cons_zero, List.getElem?_cons_succ] at e0 e1)
  obtain ⟨X, hX, hXo, hXb, hXs, hXh⟩ := own_two (HZ.out.past b2 HZ.out.inside) (.slice A2 u.row.length k2) (.int .i64 n)
  have v2' := vals_other v2 (fun b o e => by have := (n2 b o e).1; omega) hXs hXh
  have hbX := hXb w.heap.size w (HB.out.trans (b2.mono HB.out.size)) (Nat.le_succ _)
  have hfar : ∀ b o, A2 = some (⟨b, o, none⟩ : Addr) → w.heap.size ≤ b ∧ b < X.heap.size := fun b o h => by
    have h1 := n2 b o h
    have h3 := h1.1
    have h4 := h1.2
    omega
  rw [← hX]
  obtain ⟨x0, x1⟩ := own2 hXo
  exact bodyPost_ret (v := .agg #[.slice A2 u.row.length k2, .int .i64 n]) (by simp [results, Tryz.results85, go_sem, x0, x1]) rfl ⟨⟨A2, k2, u.row, n⟩, rfl, rfl, rfl, ⟨v2'⟩, hfar, hbX⟩
end Go.Proofs.YtjffohpdjicfpaaGreat
namespace Go.Proofs.YtjffohpdjicfpaaGreat
open Go Go.RowKit Go.Sort Go.Lib Go.Shelf
theorem lccells_one (x : Ln Ct) : ∀ v ∈ Ln.cells Ct.cells x, v.oneCell' = true := by
  intro v hv
  unfold Ln.cells at hv
  rcases List.mem_cons.1 hv with rfl | hv
  · rfl
  · rcases List.mem_cons.1 hv with rfl | hv
    · rfl
    · exact ccells_one x.u v hv
theorem lc_box (w : World) (x y : Ln Ct) : ∃ W, W = (w.alloc (.cells #[.int .u64 (hiW x.S), .int .u64 (loW x.S), .slice x.u.rA x.u.row.length x.u.rc, .int .i64 x.u.n] 98)).alloc (.cells #[.int .u64 (hiW y.S), .int .u64 (loW y.S), .slice y.u.rA y.u.row.length y.u.rc, .int .i64 y.u.n] 98) ∧ Gr w W ∧ Own W w.heap.size 98 (Ln.cells Ct.cells x) ∧ Own W (w.heap.size + 1) 98 (Ln.cells Ct.cells y) := by
  refine ⟨_, rfl, Gr.two w _ _, (Own.made w 98 (Ln.cells Ct.cells x)).more _, ?_⟩
  have := Own.made (w.alloc (.cells #[.int .u64 (hiW x.S), .int .u64 (loW x.S), .slice x.u.rA x.u.row.length x.u.rc, .int .i64 x.u.n] 98)) 98 (Ln.cells Ct.cells y)
  rw [show (w.alloc (.cells #[.int .u64 (hiW x.S), .int .u64 (loW x.S), .slice x.u.rA x.u.row.length x.u.rc, .int .i64 x.u.n] 98)).heap.size = w.heap.size + 1 by simp] at this
  exact this
theorem own4l {w : World} {P : Nat} {t : TypeId} {a0 a1 a2 a3 : Value} (h : Own w P t [a0, a1, a2, a3]) : w.cell? ⟨P, 2, none⟩ = some a2 ∧ w.cell? ⟨P, 3, none⟩ = some a3 := ⟨h.at_ 2, h.at_ 3⟩
set_option maxRecDepth 100000 in
set_option maxHeartbeats 3200000 in
theorem closC_gr (x y : Ln Ct) (bx : Nat) (w : World) (hbx : w.cell? ⟨bx, 0, none⟩ = some (.func (.func 83) #[] #[])) (hx : CIn w w.heap.size x.u) (hy : CIn w w.heap.size y.u) (ox : COk x.u) (oy : COk y.u) :
    Calls Tryz.prog 127 #[.agg #[.int .u64 (hiW x.S), .int .u64 (loW x.S), .slice x.u.rA x.u.row.length x.u.rc, .int .i64 x.u.n], .agg #[.int .u64 (hiW y.S), .int .u64 (loW y.S), .slice y.u.rA y.u.row.length y.u.rc, .int .i64 y.u.n], .pointer (some ⟨bx, 0, none⟩)] w fun e w' => e = .returned (.int .i64 (cmpRows x.u.k y.u.k)) ∧ Gr w w' := by
  obtain ⟨W, hW, hg, o1, o2⟩ := lc_box w x y
  have hb := hg.below
  have hbW : W.cell? ⟨bx, 0, none⟩ = some (.func (.func 83) #[] #[]) := (hb.cell (p := ⟨bx, 0, none⟩) (World.block_lt_of_cell? w _ hbx)).trans hbx
  have hcall := Lib.hid (ccompare_gr x.u y.u W (hx.keep hb) (hy.keep hb) ox oy)
  obtain ⟨a0, a1⟩ := own4l o1
  obtain ⟨b0, b1⟩ := own4l o2
  have HG := Lib.hid hg
  rw [show x.u.val = .agg #[.slice x.u.rA x.u.row.length x.u.rc, .int .i64 x.u.n] from rfl, show y.u.val = .agg #[.slice y.u.rA y.u.row.length y.u.rc, .int .i64 y.u.n] from rfl] at hcall
  generalize cmpRows x.u.k y.u.k = r at *
  clear hg hb hx hy ox oy o1 o2 hbx
  go_enter Tryz.func127, Tryz.ntmps127
  go_upto_region 1 with fail
  rw [← hW]
  clear hW
  go_wp2_with fail
  refine hcall.out.mono ?_
  rintro _ w1 ⟨rfl, g1⟩
  have H1 := Lib.hid (HG.out.trans g1)
  clear g1
  go_wp2_with fail
  go_ret
  exact ⟨rfl, H1.out⟩
set_option maxRecDepth 100000 in
set_option maxHeartbeats 3200000 in
theorem sortC_any (bx g cap : Nat) (l : List (Ln Ct)) (w : World) (hrow : RowOf (Ln.cells Ct.cells) 4 w g l) (hg : g < w.heap.size) (hbx : w.cell? ⟨bx, 0, none⟩ = some (.func (.func 83) #[] #[])) (hne : bx ≠ g) (hin : ∀ x ∈ l, CIn w g x.u) (hok : ∀ x ∈ l, COk x.u) (hpos : 0 < l.length) (hn : l.length < 4611686018427387904) :
    Calls Tryz.prog 126 #[.slice (some ⟨g, 0, none⟩) l.length cap, .func (.func 127) #[] #[.pointer (some ⟨bx, 0, none⟩)]] w fun e w' => e = .returned (.tuple #[]) ∧ ∃ l' : List (Ln Ct), l'.Perm l ∧ l'.Pairwise (fun x y => cmpRows x.u.k y.u.k ≤ 0) ∧ RowOf (Ln.cells Ct.cells) 4 w' g l' ∧ RowKit.Below g w w' ∧ ∀ b, b ≠ g → b < w.heap.size → w'.heap[b]? = w.heap[b]? := by
  obtain ⟨m, rfl⟩ := map_pick (p := fun x : Ln Ct => CIn w g x.u ∧ COk x.u) l fun x hx => ⟨hin x hx, hok x hx⟩
  have eg : ∀ args w, (callFunc 127 args).run Tryz.prog w = .ok (.enter 127 args) w := enters_of Tryz.func127 (by kernel_rfl) rfl
  have hlen : (m.map (·.1)).length = m.length := List.length_map ..
  letI : Inhabited {x : Ln Ct // CIn w g x.u ∧ COk x.u} := ⟨m[0]'(by rw [hlen] at hpos; exact hpos)⟩
  have hbl := World.block_lt_of_cell? w _ hbx
  have hcon := sort_gen (α := {x : Ln Ct // CIn w g x.u ∧ COk x.u}) Tryz.sortC 4 Tryz.isAgg98 Tryz.sizeOf98 (fun x => Ln.cells Ct.cells x.1) (fun _ => rfl) (by decide) (fun x => lccells_one x.1)
    (fun x y => cmpRows x.1.u.k y.1.u.k) (swo_lin row_lin fun x : {x : Ln Ct // CIn w g x.u ∧ COk x.u} => x.1.u.k) 127 #[.pointer (some ⟨bx, 0, none⟩)] g cap m w eg
    (fun mm os dk _ x y => by
      have hb := sortWorld_below (enc := fun x : {x : Ln Ct // CIn w g x.u ∧ COk x.u} => Ln.cells Ct.cells x.1) (k := 4) (off := 0) (m := mm) (dk := dk) (os := os) (Nat.le_refl g) hg
      have hs := hb.size
      exact closC_gr x.1 y.1 bx _ ((cell_heap (sortWorld_other hne hbl)).trans hbx) ((x.2.1.past hb (Nat.le_refl _)).wide (by omega)) ((y.2.1.past hb (Nat.le_refl _)).wide (by omega)) x.2.2 y.2.2)
    (fun i x hx j v hv => hrow i x.1 (by rw [List.getElem?_map, hx]; rfl) j v hv) hg (by rw [hlen] at hn; exact hn)
  change Calls Tryz.prog 126 _ _ _ at hcon
  rw [hlen]
  refine hcon.mono ?_
  rintro e w' ⟨rfl, l', hp, hs, hr, hb, ho⟩
  refine ⟨rfl, l'.map (·.1), hp.map _, ?_, fun i x hx j v hv => ?_, hb, ho⟩
  · rw [List.pairwise_map]
    exact hs.imp fun {a b} h => by
      have := row_lin.swap a.1.u.k b.1.u.k
      omega
  · rw [List.getElem?_map] at hx
    obtain ⟨y, hy, rfl⟩ := Option.map_eq_some_iff.1 hx
    exact hr i y hy j v hv
theorem sortC_all (v : Value) (n bx base : Nat) (l : List (Ln Ct)) (w : World) (hnl : n = l.length) (h : w.ownsRow base 98 4 v n (l.flatMap (Ln.cells Ct.cells))) (hbx : w.cell? ⟨bx, 0, none⟩ = some (.func (.func 83) #[] #[])) (hin : ∀ x ∈ l, CIn w base x.u) (hok : ∀ x ∈ l, COk x.u) (hn : l.length < 4611686018427387904) :
    ∃ A c, v = .slice A n c ∧ Calls Tryz.prog 126 #[.slice A n c, .func (.func 127) #[] #[.pointer (some ⟨bx, 0, none⟩)]] w fun e w' => e = .returned (.tuple #[]) ∧ ∃ l' : List (Ln Ct), l'.Perm l ∧ l'.Pairwise (fun x y => cmpRows x.u.k y.u.k ≤ 0) ∧ Lies 4 (Ln.cells Ct.cells) w' w'.heap.size A l' ∧ RowKit.Below base w w' ∧ w'.cell? ⟨bx, 0, none⟩ = some (.func (.func 83) #[] #[]) := by
  subst hnl
  by_cases h0 : l.length = 0
  · obtain rfl : l = [] := List.eq_nil_of_length_eq_zero h0
    have key : ∀ A c, Calls Tryz.prog 126 #[.slice A 0 c, .func (.func 127) #[] #[.pointer (some ⟨bx, 0, none⟩)]] w fun e w' => e = .returned (.tuple #[]) ∧ ∃ l' : List (Ln Ct), l'.Perm [] ∧ l'.Pairwise (fun x y => cmpRows x.u.k y.u.k ≤ 0) ∧ Lies 4 (Ln.cells Ct.cells) w' w'.heap.size A l' ∧ RowKit.Below base w w' ∧ w'.cell? ⟨bx, 0, none⟩ = some (.func (.func 83) #[] #[]) := fun A c =>
      (AnyF.slices_SortFunc_none Tryz.sortC A c _ w).mono fun e w' ⟨he, hw⟩ => ⟨he, [], List.Perm.refl _, List.Pairwise.nil, Lies.nil_, hw ▸ RowKit.Below.refl _ _, hw ▸ hbx⟩
    rcases h.2 with ⟨rfl, _⟩ | ⟨g, cap, cur, rfl, _⟩
    · exact ⟨_, _, rfl, key _ _⟩
    · exact ⟨_, _, rfl, key _ _⟩
  · rcases h.2 with ⟨_, hz⟩ | ⟨g, cap, cur, rfl, hb, hheap, _⟩
    · exact absurd hz h0
    · have hg : g < w.heap.size := (Array.getElem?_eq_some_iff.1 hheap).1
      have hrow : RowOf (Ln.cells Ct.cells) 4 w g l := fun i x hx j u hj => by
        have hf := flat_of (cells := Ln.cells Ct.cells) (size := 4) (fun _ => rfl) l i j x u hx hj
        have hlt : i * 4 + j < l.length * 4 := by have := (List.getElem?_eq_some_iff.1 hf).1; rwa [flat_size (cells := Ln.cells Ct.cells) (size := 4) (fun _ => rfl)] at this
        exact ⟨by rw [h.cellAt _ hlt]; exact hf, h.frozenAt _⟩
      have hne : bx ≠ g := fun e => by
        subst e
        have := (hrow 0 _ (List.getElem?_eq_getElem (show 0 < l.length by omega)) 0 _ rfl).1
        rw [show 0 * 4 + 0 = 0 by rfl, hbx] at this
        cases this
      refine ⟨_, _, rfl, (sortC_any bx g cap l w hrow hg hbx hne (fun x hx => (hin x hx).wide hb) hok (by omega) hn).mono ?_⟩
      rintro e w' ⟨he, l', hp, hs, hr, hbe, ho⟩
      refine ⟨he, l', hp, hs, fun _ => ⟨g, 0, rfl, Nat.lt_of_lt_of_le hg hbe.size, fun i x hx j u hj => ?_⟩, hbe.mono hb, (cell_heap (ho bx hne (World.block_lt_of_cell? w _ hbx))).trans hbx⟩
      rw [Nat.zero_add]
      exact (hr i x hx j u hj).1
end Go.Proofs.YtjffohpdjicfpaaGreat
namespace Go.Proofs.YtjffohpdjicfpaaGreat
open Go Go.RowKit
theorem infoCt : (Tryz.prog.info? 58).map (fun i => (i.zero, i.size, i.bytes)) = some (some (.agg #[.slice none 0 0, .int .i64 0]), 2, 32) := by kernel_rfl
def FarC (B : Nat) (v : Value) (w : World) (u : Ct) : Prop := ∀ b o, u.rA = some ⟨b, o, none⟩ → b < w.heap.size ∧ v.ownBlock ≠ some b ∧ B ≤ b
theorem FarC.next {B : Nat} {v : Value} {w w' : World} {u : Ct} (h : FarC B v w u) (hs : w.heap.size ≤ w'.heap.size) : FarC B v w' u := fun b o hb => ⟨Nat.lt_of_lt_of_le (h b o hb).1 hs, (h b o hb).2⟩
theorem cin_grown {B : Nat} {v : Value} {w w' : World} {u : Ct} (h : CIn w w.heap.size u) (hf : FarC B v w u) (hg : w.grownBy w' v.ownBlock) : CIn w' w'.heap.size u := ⟨vals_grown h.row hg fun b o e => (hf b o e).2.1⟩
def LoC (B : Nat) (A : Option Addr) (l : List Ct) : Prop := (∀ b o, A = some ⟨b, o, none⟩ → B ≤ b) ∧ ∀ u ∈ l, ∀ b o, u.rA = some ⟨b, o, none⟩ → B ≤ b
theorem loC_nil (B : Nat) : LoC B none [] := ⟨fun b o e => (by cases e), fun u hu => (by cases hu)⟩
def TotCs (l : List (List Vl × Int)) (base : Nat) (w : World) (x : Ending) (w' : World) : Prop :=
  ∃ A c, ∃ outL : List Ct, x = .returned (.tuple #[.slice A outL.length c, .int .i64 (resE cmpRows l)]) ∧ outL.map Ct.p = resL cmpRows l ∧ Cts w' w'.heap.size A outL ∧ (∀ u ∈ outL, COk u) ∧ Below base w w' ∧ LoC base A outL
theorem lnc_box (w : World) (x : Ln Ct) : ∃ V, V = w.alloc (.cells #[.int .u64 (hiW x.S), .int .u64 (loW x.S), .slice x.u.rA x.u.row.length x.u.rc, .int .i64 x.u.n] 98) ∧ Below w.heap.size w V ∧ V.heap.size = w.heap.size + 1 ∧ Own V w.heap.size 98 (Ln.cells Ct.cells x) :=
  ⟨_, rfl, (Below.refl _ _).alloc (Nat.le_refl _) _, by simp, Own.made w 98 (Ln.cells Ct.cells x)⟩
theorem own4a {w : World} {P : Nat} {t : TypeId} {a0 a1 a2 a3 : Value} (h : Own w P t [a0, a1, a2, a3]) : w.cell? ⟨P, 0, none⟩ = some a0 ∧ w.cell? ⟨P, 1, none⟩ = some a1 := ⟨h.at_ 0, h.at_ 1⟩
theorem ln_four {w : World} {g o : Nat} {x : Ln Ct} (h : ∀ (j : Nat) (u : Value), (Ln.cells Ct.cells x)[j]? = some u → w.cell? ⟨g, o + j, none⟩ = some u) :
    w.cell? ⟨g, o, none⟩ = some (.int .u64 (hiW x.S)) ∧ w.cell? ⟨g, o + 1, none⟩ = some (.int .u64 (loW x.S)) ∧ w.cell? ⟨g, o + 2, none⟩ = some (.slice x.u.rA x.u.row.length x.u.rc) ∧ w.cell? ⟨g, o + 3, none⟩ = some (.int .i64 x.u.n) := ⟨h 0 _ rfl, h 1 _ rfl, h 2 _ rfl, h 3 _ rfl⟩
set_option maxRecDepth 100000 in
set_option maxHeartbeats 16000000 in
theorem totalC_any (v : Value) (n base : Nat) (l : List (Ln Ct)) (w : World) (hnl : n = l.length) (h : w.ownsRow base 98 4 v n (l.flatMap (Ln.cells Ct.cells))) (hbase : base ≤ w.heap.size) (hin : ∀ x ∈ l, CIn w base x.u) (hok : ∀ x ∈ l, COk x.u) (hR : ∀ x ∈ l, RowR x.u.k)
    (hS : ∀ x ∈ l, -9223372036854775808 ≤ x.S ∧ x.S ≤ 9223372036854775807) (hn : n ≤ 1099511627776) :
    Calls Tryz.prog 84 #[v, .func (.func 83) #[] #[], .func (.func 85) #[] #[]] w (TotCs (l.map (pL Ct.k)) base w) := by
  obtain ⟨i0, hi, hz0, hz1, hz2⟩ := info_parts infoCt
  have HI := Lib.hid (And.intro Tryz.underlying54 (And.intro hi (And.intro hz0 (And.intro hz1 hz2))))
  obtain ⟨W, hW, hwb, hws, hwc⟩ := fn_box w (.func (.func 83) #[] #[]) 155
  obtain ⟨A, c, rfl, hsort⟩ := sortC_all v n w.heap.size base l W hnl (own_below h hwb) hwc (fun x hx => (hin x hx).past hwb hbase) hok (by omega)
  have Hsort := Lib.hid hsort
  have HB := Lib.hid (And.intro (hwb.mono hbase) hbase)
  have HL := Lib.hid (And.intro hin (And.intro hok (And.intro hR (And.intro hS hnl))))
  clear hi hz0 hz1 hz2 hsort hwb hws hwc hin hok hR hS h hnl hbase
  go_enter Tryz.func84, Tryz.ntmps84
  go_upto_region 1 with fail
  rw [← hW]
  clear hW
  go_wp2_with fail
  refine Hsort.out.mono ?_
  rintro _ w1 ⟨rfl, s, hp, hpw, hlies, hb1, hbx⟩
  have hsn : s.length = n := by rw [hp.length_eq]; exact HL.out.2.2.2.2.symm
  have HS := Lib.hid (And.intro hp (And.intro hpw (And.intro hlies (And.intro (HB.out.1.trans hb1) (And.intro hbx hsn)))))
  have HX := Lib.hid (And.intro (fun x (hx : x ∈ s) => (HL.out.1 x (hp.mem_iff.1 hx)).past (HB.out.1.trans hb1) (Nat.le_refl _)) (And.intro (fun x (hx : x ∈ s) => HL.out.2.1 x (hp.mem_iff.1 hx)) (fun x (hx : x ∈ s) => HL.out.2.2.2.1 x (hp.mem_iff.1 hx))))
  have hbs : base ≤ w1.heap.size := Nat.le_trans HB.out.2 (HB.out.1.trans hb1).size
  have Hbs := Lib.hid hbs
  clear hp hpw hlies hb1 hbx hsn Hsort hbs
  go_wp2_with fail
  go_loopw [8, 9] (fun v8 v9 wr => ∃ (k : Nat) (outL : List Ct), v9 = .int .i64 (k : Int) ∧ k ≤ n ∧ wr.ownsRow w1.heap.size 58 2 v8 outL.length (outL.flatMap Ct.cells) ∧ (∀ u ∈ outL, CIn wr wr.heap.size u ∧ COk u ∧ FarC base v8 wr u) ∧ outL.map Ct.p = nz cmpRows ((s.take k).map (pL Ct.k)) ∧ Below w1.heap.size w1 wr ∧ Bound cmpRows Ct.k s k ∧ (asm cmpRows ((s.take k).map (pL Ct.k))).all (fun x => fits x.2) = true ∧ outL.length ≤ k)
    (fun _ v9 _ => n - (intOf v9).toNat)
  case atStart => exact ⟨0, [], rfl, by omega, World.ownsRow_nil _ _ _ _, fun u hu => (by cases hu), rfl, Below.refl _ _, fun a ha => (by cases ha), rfl, Nat.le_refl _⟩
  case round =>
    obtain ⟨k, outL, rfl, hk, hown, hout, hmap, hbw, hbound, hfit, hlen⟩ := hrel
    obtain ⟨wo, hwo⟩ : ∃ wo, wo = wr := ⟨_, rfl⟩
    subst hwo
    by_cases hlt : k < n
    · have hx : s[k]? = some (s[k]'(by rw [HS.out.2.2.2.2.2]; exact hlt)) := List.getElem?_eq_getElem _
      obtain ⟨g, o, rfl, hB, hxs⟩ := HS.out.2.2.1 (by rw [HS.out.2.2.2.2.2]; omega)
      have hmem := List.mem_of_getElem? hx
      generalize (s[k]'(by rw [HS.out.2.2.2.2.2]; exact hlt)) = x at *
      have hline := Lib.hid (fun (W : World) (hW : Below w1.heap.size w1 W) (i : Nat) (y : Ln Ct) (hy : s[i]? = some y) => ln_four (w := W) (g := g) (o := o + i * 4) (x := y) fun j u hj => (hW.cell (p := ⟨g, o + i * 4 + j, none⟩) hB).trans (hxs i y hy j u hj))
      have hrows := Lib.hid (fun (W : World) (hW : Below w1.heap.size w1 W) (y : Ln Ct) (hy : y ∈ s) => ((HX.out.1 y hy).past hW Hbs.out).wide (Nat.le_trans Hbs.out hW.size))
      have hfn := Lib.hid (fun (W : World) (hW : Below w1.heap.size w1 W) => (hW.cell (p := ⟨w.heap.size, 0, none⟩) (World.block_lt_of_cell? w1 _ HS.out.2.2.2.2.1)).trans HS.out.2.2.2.2.1)
      obtain ⟨e0, e1, e2, e3⟩ := hline.out wo hbw k x hx
      obtain ⟨V, hV, hvb, hvs, hvo⟩ := lnc_box wo x
      have HO := Lib.hid (And.intro hown (And.intro hout (And.intro hmap (And.intro hbw (And.intro hbound (And.intro hfit hlen))))))
      have HV := Lib.hid (And.intro hvb (And.intro hvo (And.intro hx hmem)))
      have hgs := gsum_one hx
      have q0 : (0 : Int) ≤ (k : Int) := by omega
      have q1 : (k : Int) < (n : Int) := by omega
      clear hx hmem hxs hown hout hmap hbw hbound hfit hvb hvo hlen hvs
      have HG := Lib.hid hgs
      clear hgs
      go_upto_region 6 with fail
      rw [← hV]
      clear hV e0 e1 e2 e3
      go_upto_block 2 with fail
      go_cut [9] (fun v9 wi => ∃ j : Nat, v9 = .int .i64 (j : Int) ∧ k + 1 ≤ j ∧ j ≤ n ∧ (∀ m y, k ≤ m → m < j → s[m]? = some y → cmpRows x.u.k y.u.k = 0) ∧ (∀ y, s[j]? = some y → cmpRows x.u.k y.u.k ≠ 0) ∧ Own wi wo.heap.size 98 (.int .u64 (hiW (gsum s k j)) :: .int .u64 (loW (gsum s k j)) :: x.u.cells) ∧ Below wo.heap.size wo wi)
      case first =>
        go_wp2_with fail
        go_loopw [9] (fun v9 wi => ∃ j : Nat, v9 = .int .i64 (j : Int) ∧ k + 1 ≤ j ∧ j ≤ n ∧ (∀ m y, k ≤ m → m < j → s[m]? = some y → cmpRows x.u.k y.u.k = 0) ∧ Own wi wo.heap.size 98 (.int .u64 (hiW (gsum s k j)) :: .int .u64 (loW (gsum s k j)) :: x.u.cells) ∧ Below wo.heap.size wo wi)
          (fun v9 _ => n - (intOf v9).toNat)
        case atStart =>
          refine ⟨k + 1, by go_num, Nat.le_refl _, by omega, fun m y h1 h2 h3 => ?_, by rw [HG.out]; exact HV.out.2.1, HV.out.1⟩
          obtain rfl : m = k := by omega
          rw [HV.out.2.2.1] at h3
          obtain rfl := Option.some.inj h3
          exact row_lin.self _
        case round =>
          obtain ⟨j, rfl, hj1, hj2, heq, howi, hbi⟩ := hrel
          obtain ⟨wi, hwi⟩ : ∃ wi, wi = wr := ⟨_, rfl⟩
          subst hwi
          have hbj : Below w1.heap.size w1 wi := HO.out.2.2.2.1.trans (hbi.mono HO.out.2.2.2.1.size)
          have HJ := Lib.hid (And.intro heq (And.intro howi (And.intro hbi hbj)))
          clear heq howi hbi hbj
          by_cases hjn : j < n
          · have hy : s[j]? = some (s[j]'(by rw [HS.out.2.2.2.2.2]; exact hjn)) := List.getElem?_eq_getElem _
            have hymem := List.mem_of_getElem? hy
            generalize (s[j]'(by rw [HS.out.2.2.2.2.2]; exact hjn)) = y at *
            have q2 : (0 : Int) ≤ (j : Int) := by omega
            have q3 : (j : Int) < (n : Int) := by omega
            have q4 : decide ((j : Int) < (n : Int)) = true := decide_eq_true q3
            have HY := Lib.hid (And.intro hy hymem)
            have u1 : ∀ p : Past wi, Calls Tryz.prog 83 #[.agg #[.slice x.u.rA x.u.row.length x.u.rc, .int .i64 x.u.n], .agg #[.slice y.u.rA y.u.row.length y.u.rc, .int .i64 y.u.n]] p.w fun e w'' => e = .returned (.int .i64 (cmpRows x.u.k y.u.k)) ∧ ∃ q : Past wi, w'' = q.w := fun p =>
              calls_past ((ccompare_gr x.u y.u p.w (hrows.out p.w (HJ.out.2.2.2.trans (p.h.mono HJ.out.2.2.2.size)) x HV.out.2.2.2) (hrows.out p.w (HJ.out.2.2.2.trans (p.h.mono HJ.out.2.2.2.size)) y HY.out.2) (HX.out.2.1 x HV.out.2.2.2) (HX.out.2.1 y HY.out.2)).mono fun e w' h => ⟨h.1, h.2.below⟩)
            have u2 := fun p : Past wi => hfn.out p.w (HJ.out.2.2.2.trans (p.h.mono HJ.out.2.2.2.size))
            have u3 := fun p : Past wi => own4l (HJ.out.2.1.past p.h HJ.out.2.1.inside)
            have u4 := fun p : Past wi => (hline.out p.w (HJ.out.2.2.2.trans (p.h.mono HJ.out.2.2.2.size)) j y HY.out.1).2.2
            obtain ⟨r, hr⟩ : ∃ r, cmpRows x.u.k y.u.k = r := ⟨_, rfl⟩
            rw [hr] at u1
            have HR := Lib.hid hr
            clear hr hy hymem
            by_cases hr0 : r = 0
            · have t1 : (r == 0) = true := beq_iff_eq.2 hr0
              have HR0 := Lib.hid hr0
              clear hr0
              go_upto_region 7 with fail
              refine wp_region_past wi (by kernel_rfl) (by kernel_rfl) (Below.refl _ _) ?_
              repeat (first | go_big_quiet_step ((go_at_call 83; exact u1 _)) | quiet_step ((go_at_call 83; exact u1 _)))
              refine wpQuiet_nil ?_
              intro wz hw'
              obtain ⟨⟨wy, hbz⟩, hw''⟩ := hw'
              dsimp only at hw''
              subst hw''
              have hz1 := HJ.out.2.2.2.trans (hbz.mono HJ.out.2.2.2.size)
              obtain ⟨e0, e1, _⟩ := hline.out wz hz1 j y HY.out.1
              have hadd := Lib.hid (add_line (gsum s k j) y.S wo.heap.size 98 x.u.cells wz (HJ.out.2.1.past hbz HJ.out.2.1.inside))
              have HZ := Lib.hid (HJ.out.2.2.1.trans (hbz.mono HJ.out.2.2.1.size))
              clear u1 u2 u3 u4 hbz hz1 t1
              go_wp2_with fail
              refine hadd.out.mono ?_
              rintro _ w5 ⟨rfl, ho5, hb5⟩
              have H5 := Lib.hid (And.intro ho5 (HZ.out.trans (hb5 _ (Nat.le_refl _))))
              clear ho5 hb5 e0 e1 hadd
              go_wp2_with fail
              go_roundw
              case rel =>
                refine ⟨j + 1, by go_num, by omega, by omega, fun m z h1 h2 h3 => ?_, by rw [gsum_next (by omega) HY.out.1]; exact H5.out.1, H5.out.2⟩
                by_cases hmj : m = j
                · subst hmj
                  rw [HY.out.1] at h3
                  obtain rfl := Option.some.inj h3
                  rw [HR.out, HR0.out]
                · exact HJ.out.1 m z h1 (by omega) h3
              case measure => simp [intOf]; omega
            · have t1 : (r == 0) = false := beq_eq_false_iff_ne.2 hr0
              have HR0 := Lib.hid hr0
              clear hr0
              go_upto_region 7 with fail
              refine wp_region_past wi (by kernel_rfl) (by kernel_rfl) (Below.refl _ _) ?_
              repeat (first | go_big_quiet_step ((go_at_call 83; exact u1 _)) | quiet_step ((go_at_call 83; exact u1 _)))
              refine wpQuiet_nil ?_
              intro wz hw'
              obtain ⟨⟨wy, hbz⟩, hw''⟩ := hw'
              dsimp only at hw''
              subst hw''
              have HZ := Lib.hid (And.intro (HJ.out.2.1.past hbz HJ.out.2.1.inside) (HJ.out.2.2.1.trans (hbz.mono HJ.out.2.2.1.size)))
              clear u1 u2 u3 u4 hbz t1
              go_wp2_with fail
              go_meet
              exact ⟨j, rfl, by omega, by omega, HJ.out.1, fun z hz => by
                rw [HY.out.1] at hz
                obtain rfl := Option.some.inj hz
                rw [HR.out]
                exact HR0.out, HZ.out.1, HZ.out.2⟩
          · have q4 : decide ((j : Int) < (n : Int)) = false := decide_eq_false (by omega)
            go_upto_region 7 with fail
            go_quiet (fail)
            go_wp2_with fail
            go_meet
            exact ⟨j, rfl, by omega, by omega, HJ.out.1, fun z hz => by
              have := (List.getElem?_eq_some_iff.1 hz).1
              rw [HS.out.2.2.2.2.2] at this
              omega, HJ.out.2.1.draws _, below_draws HJ.out.2.2.1 _⟩
      case rest =>
        obtain ⟨j, rfl, hj1, hj2, heq, hmax, hown, hbi⟩ := hcut
        obtain ⟨hB2, hasm⟩ := group_step (f := Ct.k) row_lin HS.out.2.1 (by omega) (by rw [HS.out.2.2.2.2.2]; exact hj2) HV.out.2.2.1 heq hmax HO.out.2.2.2.2.1
        have hnz := nz_step hasm
        have hfi := fit_step hasm
        have hgb := gsum_bound HX.out.2.2 (by rw [HS.out.2.2.2.2.2]; exact hn) k j
        rw [HO.out.2.2.2.2.2.1, Bool.true_and] at hfi
        have hcall := fun W => Lib.hid (number_any (gsum s k j) W hgb.1 hgb.2)
        have hbx1 := HO.out.2.2.2.1.trans (hbi.mono HO.out.2.2.2.1.size)
        obtain ⟨c0, c1⟩ := own4a hown
        obtain ⟨S, hSe⟩ : ∃ S, gsum s k j = S := ⟨_, rfl⟩
        rw [hSe] at hasm hnz hfi hcall c0 c1 hown
        have HC := Lib.hid (And.intro hB2 (And.intro hnz (And.intro hfi (And.intro hbx1 (And.intro hbi hown)))))
        clear hB2 hasm hnz hfi hgb heq hmax hown hbi hbx1 hSe
        go_wp2_with fail
        refine (hcall _).out.mono ?_
        rintro _ w2 ⟨rfl, b2⟩
        have H2 := Lib.hid (And.intro (HC.out.2.2.2.1.trans (b2.mono HC.out.2.2.2.1.size)) (And.intro (HC.out.2.2.2.2.2.past b2 HC.out.2.2.2.2.2.inside) (HC.out.2.2.2.2.1.trans (b2.mono HC.out.2.2.2.2.1.size))))
        clear b2 c0 c1 hcall
        cases hf : fits S
        case false =>
          have e1 : fitE S = 10 := by unfold fitE; rw [hf]; rfl
          have hres : resE cmpRows (l.map (pL Ct.k)) = 10 ∧ resL cmpRows (l.map (pL Ct.k)) = [] := by
            obtain ⟨p1, p2⟩ := res_perm (f := Ct.k) row_lin HS.out.1 HL.out.2.2.1
            have hbad := bad_step HC.out.1 (by rw [HC.out.2.2.1]; exact hf)
            rw [← p1, ← p2]
            unfold resE resL
            rw [hbad]
            exact ⟨rfl, rfl⟩
          have HR := Lib.hid hres
          have HE := Lib.hid e1
          rw [e1]
          clear hres hf e1
          go_wp2_with fail
          go_ret2
          exact ⟨none, 0, [], by rw [HR.out.1]; rfl, HR.out.2.symm, ⟨Lies.nil_, fun u hu => (by cases hu)⟩, fun u hu => (by cases hu), HS.out.2.2.2.1.trans (H2.out.1.mono Hbs.out), loC_nil _⟩
        case true =>
          have e1 : fitE S = 0 := by unfold fitE; rw [hf]; rfl
          have e2 : fitN S = S := by unfold fitN; rw [hf]; rfl
          have hfb := (fits_iff S).1 hf
          rw [e1, e2]
          have HF := Lib.hid (And.intro hf hfb)
          clear hf hfb e1 e2
          by_cases hS0 : S = 0
          · have t1 : (S != 0) = false := by simp [hS0]
            have HS0 := Lib.hid hS0
            have hkeep := own_below HO.out.1 H2.out.2.2
            have HK := Lib.hid hkeep
            clear hS0 hkeep
            go_wp2_with fail
            go_roundw
            case rel =>
              refine ⟨j, outL, rfl, hj2, HK.out, fun u hu => ⟨(HO.out.2.1 u hu).1.keep H2.out.2.2, (HO.out.2.1 u hu).2.1, (HO.out.2.1 u hu).2.2.next H2.out.2.2.size⟩, ?_, H2.out.1, HC.out.1, by rw [HC.out.2.2.1]; exact HF.out.1, by have := HO.out.2.2.2.2.2.2; omega⟩
              rw [HC.out.2.1, HS0.out, if_pos rfl, List.append_nil]
              exact HO.out.2.2.1
            case measure => simp [intOf]; omega
          · have t1 : (S != 0) = true := bne_iff_ne.2 hS0
            have HS0 := Lib.hid hS0
            obtain ⟨c2, c3⟩ := own4l H2.out.2.1
            have hxk := HX.out.2.1 x HV.out.2.2.2
            have hx9 := (chkRow_zero (HL.out.2.2.1 x (HS.out.1.mem_iff.1 HV.out.2.2.2))).2
            have hret := Lib.hid (keepC_any x.u S w2 (hrows.out w2 H2.out.1 x HV.out.2.2.2) (by change x.u.row.length ≤ 8 at hx9; omega))
            have HXK := Lib.hid hxk
            rw [show x.u.val = .agg #[.slice x.u.rA x.u.row.length x.u.rc, .int .i64 x.u.n] from rfl] at hret
            clear hS0 hxk hx9
            go_wp2_with fail
            refine hret.out.mono ?_
            rintro _ w3 ⟨u', rfl, k1, k2, hin3, hfar, b3⟩
            have hlen := HO.out.2.2.2.2.2.2
            have H3 := Lib.hid (And.intro (H2.out.1.trans (b3.mono H2.out.1.size)) (And.intro (H2.out.2.2.trans (b3.mono H2.out.2.2.size)) (And.intro hin3 (own_below HO.out.1 (H2.out.2.2.trans (b3.mono H2.out.2.2.size))))))
            have hfar' : FarC base u8 w3 u' := fun b o hb => ⟨(hfar b o hb).2, fun e => by
              have h1 := (HO.out.1.lt b e).2
              have h2 := (hfar b o hb).1
              have h3 := H2.out.2.2.size
              omega, by
              have h2 := (hfar b o hb).1
              have h3 := H2.out.1.size
              have h4 := Hbs.out
              omega⟩
            have HU := Lib.hid (And.intro k1 (And.intro k2 hfar'))
            rw [show u'.val = .agg #[.slice u'.rA u'.row.length u'.rc, .int .i64 u'.n] from rfl]
            have hs3 := H3.out.1.size
            clear k1 k2 hin3 b3 hret hfar hfar' c2 c3
            go_wp2_with (at_builtin; refine wpList_push _ rfl _ _ 54 rfl w1.heap.size 58 i0 _ 2 32 HI.out.1 HI.out.2.1 HI.out.2.2.1 HI.out.2.2.2.1 HI.out.2.2.2.2 rfl (by decide) _ _ _ rfl H3.out.2.2.2 #[.slice u'.rA u'.row.length u'.rc, .int .i64 u'.n] rfl rfl ?p1 ?p2 ?p3 ?p4 ?_)
            case p1 => exact ⟨rfl, rfl⟩
            case p2 => unfold maxLen; omega
            case p3 => omega
            case p4 => exact hs3
            intro v' w' ho' hb' hob hgw
            have hbw' := H3.out.1.trans hb'
            have hfarn : ∀ u, FarC base u8 w3 u → FarC base v' w' u := fun u hu b o hb => by
              obtain ⟨h1, h2, h3⟩ := hu b o hb
              refine ⟨Nat.lt_of_lt_of_le h1 hgw.size, fun e => ?_, h3⟩
              rcases hob with h | h
              · rw [h] at e; exact h2 e
              · rw [h] at e
                injection e with e
                omega
            have hall : ∀ u ∈ outL ++ [u'], CIn w' w'.heap.size u ∧ COk u ∧ FarC base v' w' u := fun u hu => by
              rcases List.mem_append.1 hu with hu | hu
              · have hf3 := (HO.out.2.1 u hu).2.2.next H3.out.2.1.size
                exact ⟨cin_grown ((HO.out.2.1 u hu).1.keep H3.out.2.1) hf3 hgw, (HO.out.2.1 u hu).2.1, hfarn u hf3⟩
              · obtain rfl : u = u' := by simpa using hu
                refine ⟨cin_grown H3.out.2.2.1 HU.out.2.2 hgw, ⟨?_, ?_, ?_⟩, hfarn u HU.out.2.2⟩
                · rw [HU.out.1]; exact HXK.out.rn
                · rw [HU.out.1]; exact HXK.out.rs
                · rw [HU.out.2.1]; exact HF.out.2
            have hmap2 : (outL ++ [u']).map Ct.p = nz cmpRows ((s.take j).map (pL Ct.k)) := by
              rw [List.map_append, HC.out.2.1, if_neg HS0.out, HO.out.2.2.1]
              have hpu : u'.p = (x.u.k, S) := by
                unfold Ct.p Ct.k
                rw [HU.out.1, HU.out.2.1]
              rw [List.map_cons, List.map_nil, hpu]
            have hrow2 : w'.ownsRow w1.heap.size 58 2 v' (outL ++ [u']).length ((outL ++ [u']).flatMap Ct.cells) := by
              rw [List.length_append, List.flatMap_append]
              exact ho'
            have H4 := Lib.hid (And.intro hrow2 (And.intro hall (And.intro hmap2 hbw')))
            clear ho' hb' hob hgw hbw' hfarn hall hmap2 hrow2
            go_wp2_with fail
            go_roundw
            case rel => exact ⟨j, outL ++ [u'], rfl, hj2, H4.out.1, H4.out.2.1, H4.out.2.2.1, H4.out.2.2.2, HC.out.1, by rw [HC.out.2.2.1]; exact HF.out.1, by rw [List.length_append, List.length_singleton]; omega⟩
            case measure => simp [intOf]; omega
    · have hkn : k = n := by omega
      have htk : s.take k = s := by rw [List.take_of_length_le]; rw [HS.out.2.2.2.2.2, hkn]; exact Nat.le_refl _
      rw [htk] at hmap hfit
      obtain ⟨p1, p2⟩ := res_perm (f := Ct.k) row_lin HS.out.1 HL.out.2.2.1
      have hE : resE cmpRows (l.map (pL Ct.k)) = 0 := by rw [← p2]; unfold resE; rw [hfit]; rfl
      have hLL : outL.map Ct.p = resL cmpRows (l.map (pL Ct.k)) := by rw [← p1]; unfold resL; rw [hfit, hmap]; rfl
      obtain ⟨A', c', rfl, _, _, hl'⟩ := lies_of_own (by decide) ccells_len rfl hown
      have hlo : LoC base A' outL := ⟨fun b o e => by subst e; exact Nat.le_trans Hbs.out (hown.lt b rfl).1, fun u hu b o hb => ((hout u hu).2.2 b o hb).2.2⟩
      have HLo := Lib.hid hlo
      clear hlo
      have HE := Lib.hid (And.intro hE (And.intro hLL (And.intro (⟨hl', fun u hu => (hout u hu).1⟩ : Cts wo wo.heap.size A' outL) (And.intro (fun u hu => (hout u hu).2.1) hbw))))
      have q4 : decide ((k : Int) < (n : Int)) = false := decide_eq_false (by omega)
      clear hown hout hmap hfit hbound hbw htk p1 p2 hE hLL hl'
      go_wp2_with fail
      go_ret2
      exact ⟨A', c', outL, by rw [HE.out.1]; rfl, HE.out.2.1, HE.out.2.2.1, HE.out.2.2.2.1, HS.out.2.2.2.1.trans (HE.out.2.2.2.2.mono Hbs.out), HLo.out⟩
end Go.Proofs.YtjffohpdjicfpaaGreat
