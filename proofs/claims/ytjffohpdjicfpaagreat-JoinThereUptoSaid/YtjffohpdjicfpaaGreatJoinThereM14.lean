/- Part 14 of the texts on which JoinThere rests: facts and contracts. -/
import Derived.Test.YtjffohpdjicfpaaGreatJoinThereM13
import Derived.BigQuiet
import Derived.Deep.CutBlock
import Derived.WalkMore
namespace Go.Proofs.YtjffohpdjicfpaaGreat
open Go Go.RowKit
def okPairs (a b : List Up) : Bool := a.all fun x => (ofKey x.key b).all (goodP x)
theorem okPairs_next {a b : List Up} {k : Nat} {x : Up} (h : a[k]? = some x) : okPairs (a.take (k + 1)) b = (okPairs (a.take k) b && (ofKey x.key b).all (goodP x)) := by
  unfold okPairs
  rw [List.take_add_one, h, List.all_append]
  simp
theorem pairsP_next {a b : List Up} {k : Nat} {x : Up} (h : a[k]? = some x) : pairsP (a.take (k + 1)) b = pairsP (a.take k) b ++ (ofKey x.key b).map (joinP x) := by
  unfold pairsP
  rw [List.take_add_one, h, List.flatMap_append]
  simp
theorem okPairs_perm {a b b' : List Up} (h : b.Perm b') : okPairs a b = okPairs a b' := by
  unfold okPairs
  congr 1
  funext x
  have hp : (ofKey x.key b).Perm (ofKey x.key b') := h.filter _
  rw [Bool.eq_iff_iff, List.all_eq_true, List.all_eq_true]
  exact ⟨fun k y hy => k y (hp.mem_iff.2 hy), fun k y hy => k y (hp.mem_iff.1 hy)⟩
theorem pairsP_perm {b b' : List Up} (h : b.Perm b') : ∀ a : List Up, (pairsP a b).Perm (pairsP a b')
  | [] => List.Perm.refl _
  | x :: a => by
    have ih := pairsP_perm h a
    unfold pairsP at *
    rw [List.flatMap_cons, List.flatMap_cons]
    exact ((h.filter _).map _).append ih
theorem take_while {p : Up → Bool} : ∀ {l : List Up} {j : Nat}, (∀ q u, q < j → l[q]? = some u → p u = true) → (∀ u, l[j]? = some u → p u = false) → l.takeWhile p = l.take j
  | [], j, _, _ => by simp
  | x :: l, 0, _, h => by
    have := h x rfl
    rw [List.takeWhile_cons_of_neg (by simp [this]), List.take_zero]
  | x :: l, j + 1, h, k => by
    rw [List.takeWhile_cons_of_pos (h 0 x (by omega) rfl), List.take_succ_cons, take_while (l := l) (j := j) (fun q u hq hu => h (q + 1) u (by omega) (by simpa using hu)) fun u hu => k u (by simpa using hu)]
theorem group_here {S : List Up} {key : List Vl} {j : Nat} (hS : KeysUp S) (h : ∀ q u, q < j → (S.drop (seekB S key))[q]? = some u → cmpRows u.key key = 0) (k : ∀ u, (S.drop (seekB S key))[j]? = some u → cmpRows u.key key ≠ 0) : ofKey key S = (S.drop (seekB S key)).take j := by
  show S.filter _ = _
  rw [← group_filter hS]
  unfold groupB
  exact take_while (fun q u hq hu => by simpa using h q u hq hu) fun u hu => by simpa using k u hu
theorem pk_far {a b c : World} {PB : Nat} {v : Value} (h : PKeep a b PB (.slice none 0 0)) (k : PKeep b c PB v) (hv : ∀ j, v.ownBlock = some j → a.heap.size ≤ j) : PKeep a c PB (.slice none 0 0) :=
  ⟨k.os.trans h.os, k.tape.trans h.tape, k.output.trans h.output, Nat.le_trans h.size k.size, fun i hi h1 h2 => (k.block i (Nat.lt_of_lt_of_le hi h.size) h1 fun e => by have := hv i e; omega).trans (h.block i hi h1 h2)⟩
theorem far_grew {a b : World} {v v' : Value} (hv : ∀ j, v.ownBlock = some j → a.heap.size ≤ j) (hb : a.heap.size ≤ b.heap.size) (hg : Grew b v v') : ∀ j, v'.ownBlock = some j → a.heap.size ≤ j := fun j hj => by
  rcases hg with e | ⟨i, e, hi⟩
  · rw [e] at hj; exact hv j hj
  · rw [e] at hj; injection hj with hj; omega
structure JM (w2 wr : World) (PB : Nat) (a S : List Up) (k : Nat) (why : Int) (v : Value) (M : List Up) : Prop where
  prod : ∃ t, Prod wr PB t why v M
  keep : PKeep w2 wr PB (.slice none 0 0)
  far : ∀ j, v.ownBlock = some j → w2.heap.size ≤ j
  wy : why = 0 ∨ why = 10
  ok : why = 0 ↔ okPairs (a.take k) S = true
  made : why = 0 → M.map Up.p = pairsP (a.take k) S
  chk : ∀ u ∈ M, chkU u = 0
  len : M.length ≤ k * S.length
structure JI (w2 wq : World) (PB Q : Nat) (a S : List Up) (k j : Nat) (x : Up) (why : Int) (v : Value) (M : List Up) : Prop where
  prod : ∃ t, Prod wq PB t why v M
  keep : PKeep w2 wq PB (.slice none 0 0)
  far : ∀ b, v.ownBlock = some b → w2.heap.size ≤ b
  off : v.ownBlock ≠ some Q
  box : Own wq Q 49 x.cells
  wy : why = 0 ∨ why = 10
  ok : why = 0 ↔ okPairs (a.take k) S = true ∧ ((S.drop (seekB S x.key)).take j).all (goodP x) = true
  made : why = 0 → M.map Up.p = pairsP (a.take k) S ++ ((S.drop (seekB S x.key)).take j).map (joinP x)
  chk : ∀ u ∈ M, chkU u = 0
  len : M.length ≤ k * S.length + j
  keys : ∀ q u, q < j → (S.drop (seekB S x.key))[q]? = some u → cmpRows u.key x.key = 0
  jn : j ≤ S.length
section
variable {w2 wr wq : World} {PB Q : Nat} {a S : List Up} {k j : Nat} {x y : Up} {why : Int} {v : Value} {M : List Up}
theorem JI.past (h : JI w2 wr PB Q a S k j x why v M) (hb : Below wr.heap.size wr wq) : JI w2 wq PB Q a S k j x why v M :=
  ⟨h.prod.imp fun _ p => p.quiet hb, h.keep.quiet hb, h.far, h.off, h.box.past hb h.box.inside, h.wy, h.ok, h.made, h.chk, h.len, h.keys, h.jn⟩
theorem JM.enter (h : JM w2 wr PB a S k why v M) (hb : Below wr.heap.size wr wq) (hQ : wr.heap.size ≤ Q) (hq : Own wq Q 49 x.cells) : JI w2 wq PB Q a S k 0 x why v M :=
  ⟨h.prod.imp fun _ p => p.quiet hb, h.keep.quiet hb, h.far, fun e => by obtain ⟨t, p⟩ := h.prod; have := (p.later Q e).2; omega, hq, h.wy, by rw [h.ok, List.take_zero, List.all_nil]; simp, fun e => by rw [h.made e]; simp, h.chk, h.len, (fun q u hq => by omega), Nat.zero_le _⟩
theorem JI.leave (h : JI w2 wq PB Q a S k j x why v M) (hS : KeysUp S) (hx : a[k]? = some x) (hj : ∀ u, (S.drop (seekB S x.key))[j]? = some u → cmpRows u.key x.key ≠ 0) : JM w2 wq PB a S (k + 1) why v M := by
  have hg := group_here hS h.keys hj
  refine ⟨h.prod, h.keep, h.far, h.wy, ?_, fun e => ?_, h.chk, ?_⟩
  · rw [okPairs_next hx, hg, Bool.and_eq_true]
    exact h.ok
  · rw [pairsP_next hx, hg]
    exact h.made e
  · have h1 := h.len
    have h2 := h.jn
    rw [Nat.succ_mul]
    omega
theorem JI.next (h : JI w2 wr PB Q a S k j x why v M) (hy : (S.drop (seekB S x.key))[j]? = some y) (hk : cmpRows y.key x.key = 0) {u : Up} {t' : Tm} {v' : Value} (hu : goodP x y = true → u.p = joinP x y ∧ chkU u = 0)
    (hp : Prod wq PB t' (if goodP x y = true then why else 10) v' (if goodP x y = true then M ++ [u] else M)) (hpk : PKeep wr wq PB v) (hg : Grew wr v v') (hP : PB ≠ Q) :
    ∃ why' M', JI w2 wq PB Q a S k (j + 1) x why' v' M' := by
  have htk : (S.drop (seekB S x.key)).take (j + 1) = (S.drop (seekB S x.key)).take j ++ [y] := by rw [List.take_add_one, hy]; rfl
  refine ⟨_, _, ⟨t', hp⟩, pk_far h.keep hpk h.far, far_grew h.far h.keep.size hg, ?_, ?_, ?_, ?_, ?_, ?_, ?_, ?_, by have h1 := (List.getElem?_eq_some_iff.1 hy).1; rw [List.length_drop] at h1; omega⟩
  · rcases hg with e | ⟨i, e, hi⟩
    · rw [e]; exact h.off
    · rw [e]; intro e2; injection e2 with e2; have := h.box.inside; omega
  · exact (hpk.block Q h.box.inside (fun e => hP e.symm) h.off).trans h.box
  · split
    · exact h.wy
    · exact .inr rfl
  · rw [htk, List.all_append]
    by_cases hgd : goodP x y = true
    · rw [if_pos hgd, h.ok]; simp [hgd]
    · rw [if_neg hgd]; simp [hgd]
  · intro e
    by_cases hgd : goodP x y = true
    · rw [if_pos hgd] at e ⊢
      rw [htk, List.map_append, List.map_append, h.made e, List.append_assoc]
      simp [(hu hgd).1]
    · rw [if_neg hgd] at e; omega
  · intro z hz
    by_cases hgd : goodP x y = true
    · rw [if_pos hgd] at hz
      rcases List.mem_append.1 hz with hz | hz
      · exact h.chk z hz
      · obtain rfl : z = u := by simpa using hz
        exact (hu hgd).2
    · rw [if_neg hgd] at hz
      exact h.chk z hz
  · have := h.len
    split
    · rw [List.length_append]; simp; omega
    · omega
  · intro q z hq hz
    by_cases hqj : q = j
    · subst hqj
      rw [hy] at hz
      injection hz with hz
      rw [← hz]; exact hk
    · exact h.keys q z (by omega) hz
end
def AlikeSays (l : List Up) (x0 : Up) (w : World) (e : Ending) (w' : World) : Prop :=
  ∃ n : Nat, e = .returned (.int .i64 (n : Int)) ∧ 1 ≤ n ∧ n ≤ l.length ∧ (∀ m y, m < n → l[m]? = some y → x0.k.cmp y.k = 0) ∧ (∀ y, l[n]? = some y → x0.k.cmp y.k ≠ 0) ∧ Below w.heap.size w w'
set_option maxRecDepth 100000 in
set_option maxHeartbeats 6400000 in
theorem alike_any (A : Option Addr) (c : Nat) (l : List Up) (x0 : Up) (w : World) (hl : Ups w w.heap.size A l) (hok : ∀ u ∈ l, UOk u) (hn : l.length ≤ 1099511627776) (h0 : l[0]? = some x0) :
    Calls Tryz.prog 52 #[.slice A l.length c] w (AlikeSays l x0 w) := by
  have hpos : 0 < l.length := (List.getElem?_eq_some_iff.1 h0).1
  obtain ⟨b, o, rfl, hB, hys⟩ := lies_up hl.head hpos
  have HL := Lib.hid (And.intro hl (And.intro hok h0))
  have HY := Lib.hid (fun (W : World) (hW : Below w.heap.size w W) (i : Nat) (x : Up) (hx : l[i]? = some x) => ((hys i x hx).past_ hW hB).six)
  have H0 := Lib.hid (fun (W : World) (hW : Below w.heap.size w W) => ((hys 0 x0 h0).past_ hW hB).six)
  have hm0 := List.mem_of_getElem? h0
  have HM := Lib.hid hm0
  have HB := Lib.hid hB
  clear hl hok h0 hys hm0 hB
  go_enter Tryz.func52, Tryz.ntmps52
  go_wp2_with fail
  go_loopw [3] (fun v3 wr => ∃ j : Nat, v3 = .int .i64 (j : Int) ∧ 1 ≤ j ∧ j ≤ l.length ∧ (∀ m y, m < j → l[m]? = some y → x0.k.cmp y.k = 0) ∧ Below w.heap.size w wr) (fun v3 _ => l.length - (intOf v3).toNat)
  case atStart =>
    refine ⟨1, rfl, Nat.le_refl _, hpos, fun m y h1 h2 => ?_, Below.refl _ _⟩
    obtain rfl : m = 0 := by omega
    rw [HL.out.2.2] at h2
    obtain rfl := Option.some.inj h2
    exact uk_lin.self _
  case round =>
    obtain ⟨j, rfl, hj1, hj2, heq, hb⟩ := hrel
    obtain ⟨wi, hwi⟩ : ∃ wi, wi = wr := ⟨_, rfl⟩
    subst hwi
    have HJ := Lib.hid (And.intro heq hb)
    clear heq hb
    by_cases hjn : j < l.length
    · have hy : l[j]? = some l[j] := List.getElem?_eq_getElem hjn
      have hym := List.mem_of_getElem? hy
      generalize l[j] = y at *
      have q2 : (0 : Int) ≤ (j : Int) := by omega
      have q3 : (j : Int) < (l.length : Int) := by omega
      have q4 : decide ((j : Int) < (l.length : Int)) = true := decide_eq_true q3
      have q5 : (0 : Int) < (l.length : Int) := by omega
      have HYJ := Lib.hid (And.intro hy hym)
      have u1 : ∀ p : Past wi, Calls Tryz.prog 34 #[.agg #[.slice x0.kA x0.key.length x0.kc, .slice x0.rA x0.row.length x0.rc, .int .u64 (x0.t.e : Int), .int .u64 (x0.t.a : Int), .int .u64 (x0.t.b : Int), .int .i64 x0.d], .agg #[.slice y.kA y.key.length y.kc, .slice y.rA y.row.length y.rc, .int .u64 (y.t.e : Int), .int .u64 (y.t.a : Int), .int .u64 (y.t.b : Int), .int .i64 y.d]] p.w fun e w'' => e = .returned (.int .i64 (x0.k.cmp y.k)) ∧ ∃ q : Past wi, w'' = q.w := fun p => by
        have hp := HJ.out.2.trans (p.h.mono HJ.out.2.size)
        exact calls_past ((dcompare_gr x0 y p.w (((HL.out.1.each_ x0 HM.out).past hp (Nat.le_refl _)).wide hp.size) (((HL.out.1.each_ y HYJ.out.2).past hp (Nat.le_refl _)).wide hp.size) (HL.out.2.1 x0 HM.out) (HL.out.2.1 y HYJ.out.2)).mono fun e w' h => ⟨h.1, h.2.below⟩)
      have u2 := fun p : Past wi => H0.out p.w (HJ.out.2.trans (p.h.mono HJ.out.2.size))
      have u3 := fun p : Past wi => HY.out p.w (HJ.out.2.trans (p.h.mono HJ.out.2.size)) j y HYJ.out.1
      simp only [Nat.zero_mul, Nat.add_zero] at u2
      obtain ⟨r, hr⟩ : ∃ r, x0.k.cmp y.k = r := ⟨_, rfl⟩
      rw [hr] at u1
      have HR := Lib.hid hr
      clear hr hy hym
      by_cases hr0 : r = 0
      · have t1 : (r == 0) = true := beq_iff_eq.2 hr0
        have HR0 := Lib.hid hr0
        clear hr0
        go_upto_region 2 with fail
        refine wp_region_past wi (by kernel_rfl) (by kernel_rfl) (Below.refl _ _) ?_
        repeat (first | go_big_quiet_step ((go_at_call 34; exact u1 _)) | quiet_step ((go_at_call 34; exact u1 _)))
        refine wpQuiet_nil ?_
        intro wz hw'
        obtain ⟨⟨wy, hbz⟩, hw''⟩ := hw'
        dsimp only at hw''
        subst hw''
        have HZ := Lib.hid (HJ.out.2.trans (hbz.mono HJ.out.2.size))
        clear u1 u2 u3 hbz t1
        go_wp2_with fail
        go_roundw
        case rel =>
          refine ⟨j + 1, by go_num, by omega, by omega, fun m z h1 h2 => ?_, HZ.out⟩
          by_cases hmj : m = j
          · subst hmj
            rw [HYJ.out.1] at h2
            obtain rfl := Option.some.inj h2
            rw [HR.out, HR0.out]
          · exact HJ.out.1 m z (by omega) h2
        case measure => simp [intOf]; omega
      · have t1 : (r == 0) = false := beq_eq_false_iff_ne.2 hr0
        have HR0 := Lib.hid hr0
        clear hr0
        go_upto_region 2 with fail
        refine wp_region_past wi (by kernel_rfl) (by kernel_rfl) (Below.refl _ _) ?_
        repeat (first | go_big_quiet_step ((go_at_call 34; exact u1 _)) | quiet_step ((go_at_call 34; exact u1 _)))
        refine wpQuiet_nil ?_
        intro wz hw'
        obtain ⟨⟨wy, hbz⟩, hw''⟩ := hw'
        dsimp only at hw''
        subst hw''
        have HZ := Lib.hid (HJ.out.2.trans (hbz.mono HJ.out.2.size))
        clear u1 u2 u3 hbz t1
        go_wp2_with fail
        go_ret
        exact ⟨j, rfl, by omega, by omega, HJ.out.1, fun z hz => by
          rw [HYJ.out.1] at hz
          obtain rfl := Option.some.inj hz
          rw [HR.out]
          exact HR0.out, HZ.out⟩
    · have q4 : decide ((j : Int) < (l.length : Int)) = false := decide_eq_false (by omega)
      go_upto_region 2 with fail
      go_quiet (fail)
      go_wp2_with fail
      go_ret
      exact ⟨j, rfl, by omega, by omega, HJ.out.1, fun z hz => by
        have := (List.getElem?_eq_some_iff.1 hz).1
        omega, below_draws HJ.out.2 _⟩
def fitU (l : List Up) : Bool := (asm Uk.cmp (l.map Up.p)).all fun x => fits x.2
def BdU (S : List Up) (k : Nat) : Prop := ∀ a ∈ S.take k, ∀ b ∈ S.drop k, a.k.cmp b.k < 0
theorem cons_group {l : List Up} (h : ∀ u ∈ l, chkU u = 0) : consE [l] = (if fitU l = true then 0 else 10) ∧ consL [l] = (if fitU l = true then nz Uk.cmp (l.map Up.p) else []) := by
  have hc : chkLs [l] = 0 := chkLs_all.2 fun m hm => by
    obtain rfl : m = l := by simpa using hm
    exact chkUs_all.2 h
  unfold consE consL
  rw [if_pos hc, if_pos hc]
  simp only [List.flatten_cons, List.flatten_nil, List.append_nil]
  exact ⟨rfl, rfl⟩
theorem end_step {S : List Up} (hs : S.Pairwise fun x y => x.k.cmp y.k ≤ 0) (hc : ∀ u ∈ S, chkU u = 0) {k n : Nat} {x : Up} (hx : S[k]? = some x) (hn1 : 1 ≤ n)
    (heq : ∀ m y, m < n → (S.drop k)[m]? = some y → x.k.cmp y.k = 0) (hmax : ∀ y, (S.drop k)[n]? = some y → x.k.cmp y.k ≠ 0) (hb : BdU S k) :
    BdU S (k + n) ∧ (fitU (S.take (k + n)) = (fitU (S.take k) && fitU ((S.drop k).take n))) ∧ nz Uk.cmp ((S.take (k + n)).map Up.p) = nz Uk.cmp ((S.take k).map Up.p) ++ nz Uk.cmp (((S.drop k).take n).map Up.p) := by
  have htk : S.take (k + n) = S.take k ++ (S.drop k).take n := by rw [List.take_add]
  have hlt : ∀ a ∈ (S.take k).map Up.p, ∀ b ∈ ((S.drop k).take n).map Up.p, Uk.cmp a.1 b.1 < 0 := fun a ha b hb' => by
    obtain ⟨a', ha', rfl⟩ := List.mem_map.1 ha
    obtain ⟨b', hb'', rfl⟩ := List.mem_map.1 hb'
    exact hb a' ha' b' (List.mem_of_mem_take hb'')
  have hasm := asm_append (cmp := Uk.cmp) hlt
  refine ⟨fun a ha b hb' => ?_, ?_, ?_⟩
  · have hbd : b ∈ S.drop k := by
      rw [← List.drop_drop] at hb'
      exact List.mem_of_mem_drop hb'
    rw [htk] at ha
    rcases List.mem_append.1 ha with ha | ha
    · exact hb a ha b hbd
    · obtain ⟨m, hm⟩ := List.getElem?_of_mem ha
      have hmn : m < n := by have := (List.getElem?_eq_some_iff.1 hm).1; rw [List.length_take] at this; omega
      rw [List.getElem?_take_of_lt hmn] at hm
      have h0 := heq m a hmn hm
      obtain ⟨i, hi⟩ := List.getElem?_of_mem hb'
      rw [List.getElem?_drop] at hi
      have hlen := (List.getElem?_eq_some_iff.1 hi).1
      have hkn : k + n < S.length := by omega
      have hy : S[k + n]? = some S[k + n] := List.getElem?_eq_getElem hkn
      have hne := hmax S[k + n] (by rw [List.getElem?_drop]; exact hy)
      have hpw := fun i j (hi : i < S.length) (hj : j < S.length) (h : i < j) => List.pairwise_iff_getElem.1 hs i j hi hj h
      obtain ⟨hkl, hxe⟩ := List.getElem?_eq_some_iff.1 hx
      have h1 := hpw k (k + n) hkl hkn (by omega)
      rw [hxe] at h1
      have hxb : x.k.cmp b.k < 0 := by
        obtain ⟨hbl, hbe⟩ := List.getElem?_eq_some_iff.1 hi
        rcases Nat.eq_zero_or_pos i with h | h
        · subst h
          rw [← hbe]
          have : S[k + n + 0] = S[k + n] := rfl
          rw [this]
          omega
        · have h3 := hpw (k + n) (k + n + i) hkn hbl (by omega)
          rw [hbe] at h3
          exact uk_lin.lt_le (by omega) h3
      have := uk_lin.swap x.k a.k
      exact uk_lin.le_lt (by omega) hxb
  · unfold fitU
    rw [htk, List.map_append, hasm, List.all_append]
  · unfold nz
    rw [htk, List.map_append, hasm, List.filter_append]
theorem fitU_perm {S M : List Up} (hp : S.Perm M) (hc : ∀ u ∈ M, chkU u = 0) : fitU S = fitU M ∧ nz Uk.cmp (S.map Up.p) = nz Uk.cmp (M.map Up.p) := by
  have h1 : nz Uk.cmp (S.map Up.p) = nz Uk.cmp (M.map Up.p) := nz_ext uk_lin (R := UkR) (keys_right fun u hu => hc u (hp.mem_iff.1 hu)) (keys_right hc) fun k => sumOf_perm (hp.map Up.p) k
  refine ⟨?_, h1⟩
  unfold fitU
  rw [fit_all, fit_all, h1]
theorem wpList_append_grown {α : Type} {size : Nat} {cells : α → List Value} {B : Nat} {A : Option Addr} {l : List α} {P : Program} (w : World) {ops : Array Oper} {rest : List Oper} {o : Oper} {a : Act} {Q : Exit → Act → World → Prop} (hgd : o.guard = none) (s x : Operand) (t e : TypeId)
    (ho : o.op = .call { callee := .builtin .append, args := #[s, x], argTypes := #[t, t] })
    (i0 : TypeInfo) (z : Value) (bytes : Nat) (ht : P.underlying t = some (.slice e)) (hi : P.info? e = some i0) (hz0 : i0.zero = some z) (hz1 : i0.size = size) (hz2 : i0.bytes = bytes) (hzs : z.cells.size = size) (hpos : 0 < size) (hcl : ∀ x, (cells x).length = size) (hone : ∀ x, ∀ u ∈ cells x, u.oneCell' = true)
    (base : Nat) (v : Value) (n : Nat) (xs : List Value) (hs : a.eval s = v) (hown : w.ownsRow base e size v n xs)
    (c : Nat) (hx : a.eval x = .slice A l.length c) (hl : Lies size cells w B A l) (h63 : n + l.length ≤ maxLen) (hn : (n + l.length) * bytes ≤ 140737488355328) (hbase : base ≤ w.heap.size)
    (h : ∀ v' w', w'.ownsRow base e size v' (n + l.length) (xs ++ l.flatMap cells) → Below base w w' → (v'.ownBlock = v.ownBlock ∨ v'.ownBlock = some w.heap.size) → w.grownBy w' v.ownBlock → wpList P ops Q rest (a.put o.dst v') w') :
    wpList P ops Q (o :: rest) a w := by
  refine wpList_plain hgd fun K hK => ?_
  obtain ⟨v', w', hrun, ho', hb, hk, hz⟩ : ∃ v' w', (Builtin.append_ #[t, t] o.type #[v, .slice A l.length c]).run P w = .ok v' w' ∧ w'.ownsRow base e size v' (n + l.length) (xs ++ l.flatMap cells) ∧ Below base w w' ∧ (v'.ownBlock = v.ownBlock ∨ v'.ownBlock = some w.heap.size) ∧ w.grownBy w' v.ownBlock := by
    cases A with
    | none =>
      have h0 : l = [] := by
        cases l with
        | nil => rfl
        | cons x l => obtain ⟨_, _, e, _⟩ := hl (by simp); cases e
      subst h0
      exact ⟨v, w, run_append_none w base _ _ _ i0 size ht hi v n xs hown c, by simpa using hown, Below.refl _ _, .inl rfl, ⟨rfl, rfl, rfl, Nat.le_refl _, fun _ _ _ => rfl⟩⟩
    | some ad =>
      have hnews : ∀ j u, (l.flatMap cells)[j]? = some u → w.cell? (ad.add j) = some u := by
        intro j u hu
        obtain ⟨i, r, y, rfl, hi, hr⟩ := flat_back hpos hcl l j u hu
        have hp : 0 < l.length := by have := (List.getElem?_eq_some_iff.1 hi).1; omega
        obtain ⟨b, o, e, _, hc⟩ := hl hp
        obtain rfl : ad = ⟨b, o, none⟩ := by injection e
        have ea : (⟨b, o, none⟩ : Addr).add (i * size + r) = ⟨b, o + i * size + r, none⟩ := by unfold Addr.add; split <;> simp_all <;> omega
        rw [ea]
        exact hc i y hi r u hr
      obtain ⟨v', w', hr, h2, h3, _, h5⟩ := run_append_own_at (P := P) w base t o.type e i0 _ size bytes ht hi hz0 hz1 hz2 hzs hpos v n xs hown ad l.length c (l.flatMap cells) (flat_size hcl l) hnews
        (fun u hu => by obtain ⟨y, _, hy⟩ := List.mem_flatMap.1 hu; exact hone y u hy) h63 hn hbase
      exact ⟨v', w', hr, h2, (Below.refl base w).grown h3 hbase (fun k hk => (hown.lt k hk).1), h5, h3⟩
  unfold Oper.wp execOp
  simp only [ho, resolve, invoke, builtin, Sem.run_bind, Sem.run_pure, Result.andThen_ok, List.map_toArray, List.map_cons, List.map_nil, hs, hx, hrun]
  exact hK _ _ (h v' w' ho' hb hk hz)
theorem own_three {w : World} {P : Nat} {t : TypeId} {z0 z1 z2 : Value} (h : Own w P t [z0, z1, z2]) (a b c : Value) :
    ∃ X, X = ((w.setCell ⟨P, 0, none⟩ a).setCell ⟨P, 1, none⟩ b).setCell ⟨P, 2, none⟩ c ∧ Own X P t [a, b, c] ∧ PKeep w X P (.slice none 0 0) ∧ X.heap.size = w.heap.size := by
  refine ⟨_, rfl, ((h.set_ 0 a).set_ 1 b).set_ 2 c, ⟨rfl, rfl, rfl, by simp [World.setCell], fun k _ hk _ => ?_⟩, by simp [World.setCell]⟩
  have q := fun (W : World) (i : Nat) (v : Value) => Below.heap_setCell W ⟨P, i, none⟩ v k hk
  rw [q, q, q]
theorem zboxL (w : World) : ∃ W, W = w.alloc (.cells #[.int .u64 0, .int .u64 0, .int .u64 0] 26) ∧ Below w.heap.size w W ∧ W.heap.size = w.heap.size + 1 ∧ Own W w.heap.size 26 [.int .u64 0, .int .u64 0, .int .u64 0] :=
  ⟨_, rfl, (Below.refl _ _).alloc (Nat.le_refl _) _, by simp, Own.made w 26 [.int .u64 0, .int .u64 0, .int .u64 0]⟩
theorem lies_taken {α : Type} {size : Nat} {cells : α → List Value} {w : World} {B : Nat} {A : Option Addr} {l : List α} (h : Lies size cells w B A l) (m : Nat) : Lies size cells w B A (l.take m) := fun hp => by
  obtain ⟨b, o, e, hB, hc⟩ := h (by rw [List.length_take] at hp; omega)
  refine ⟨b, o, e, hB, fun i x hi => hc i x ?_⟩
  rw [List.getElem?_take] at hi
  split at hi
  · exact hi
  · cases hi
theorem pk_then {a b c : World} {PB : Nat} {v : Value} {row : Option Nat} (h : PKeep a b PB v) (g : b.grownBy c row) (hr : ∀ j, row = some j → a.heap.size ≤ j) : PKeep a c PB v :=
  ⟨g.os.trans h.os, g.tape.trans h.tape, g.output.trans h.output, Nat.le_trans h.size g.size, fun k hk h1 h2 => (g.block k (Nat.lt_of_lt_of_le hk h.size) fun e => by have := hr k e.symm; omega).trans (h.block k hk h1 h2)⟩
def EndSays (PB : Nat) (why : Int) (v : Value) (M : List Up) (w : World) (x : Ending) (w' : World) : Prop :=
  ∃ A c, ∃ outL : List Up, ∃ t : Tm, ∃ E : Int, x = .returned (.tuple #[.slice A outL.length c, .agg #[.int .u64 (t.e : Int), .int .u64 (t.a : Int), .int .u64 (t.b : Int)], .int .i64 E]) ∧ (E = 0 ∨ E = 10) ∧ (E = 0 ↔ why = 0 ∧ fitU M = true) ∧
    (E = 0 → outL.map Up.p = nz Uk.cmp (M.map Up.p) ∧ t = ⟨0, 0, 0⟩) ∧ Ups w' w'.heap.size A outL ∧ (∀ u ∈ outL, UOk u) ∧ PKeep w w' PB v ∧ (∀ b o, A = some ⟨b, o, none⟩ → w.heap.size ≤ b) ∧ (∀ u ∈ outL, Awn (fun b => w.heap.size ≤ b) u) ∧ outL.length ≤ M.length
set_option maxRecDepth 100000 in
set_option maxHeartbeats 16000000 in
theorem lend_any (PB : Nat) (t : Tm) (why : Int) (v : Value) (M : List Up) (w : World) (h : Prod w PB t why v M) (hw : why = 0 ∨ why = 10) (hc : ∀ u ∈ M, chkU u = 0) (hn : M.length ≤ 1099511627776) :
    Calls Tryz.prog 22 #[.pointer (some ⟨PB, 0, none⟩)] w (EndSays PB why v M w) := by
  obtain ⟨i0, hi, hz0, hz1, hz2⟩ := info_parts infoUp
  have HI := Lib.hid (And.intro Tryz.underlying22 (And.intro hi (And.intro hz0 (And.intro hz1 hz2))))
  obtain ⟨V, hV, hvb, hvs, hvo⟩ := zboxL w
  have hP := h.quiet hvb
  have hlt := h.own.inside
  have hne : v.ownBlock ≠ some PB := fun e => by have := (h.later _ e).1; omega
  have hneR : v.ownBlock ≠ some w.heap.size := fun e => by have := (h.later _ e).2; omega
  obtain ⟨A, c, rfl, hnc, hcm, hsort⟩ := sortP_all v M.length (PB + 1) M V rfl hP.row (fun u hu => ⟨(hP.each_ u hu).1, (hP.each_ u hu).2.1, (hP.each_ u hu).2.2.imp fun b hb => hb.2⟩) (by omega)
  have Hsort := Lib.hid hsort
  have HM := Lib.hid (And.intro h (And.intro hP (And.intro hvb (And.intro hvo (And.intro hc (And.intro hne hneR))))))
  have hlt2 : PB < V.heap.size := by omega
  have HPB := Lib.hid (And.intro hlt hlt2)
  have c4 := hP.own.at_ 4
  simp only [List.getElem?_cons_zero, List.getElem?_cons_succ] at c4
  have HVS := Lib.hid hvs
  clear h hP hvb hvo hc hne hneR hsort hi hz0 hz1 hz2 hlt hlt2 hvs
  go_enter Tryz.func22, Tryz.ntmps22
  go_upto_region 1 with fail
  rw [← hV]
  clear hV
  go_wp2_with fail
  refine Hsort.out.mono ?_
  rintro _ w1 ⟨rfl, S, hp, hpw, hlies, hA, hpk⟩
  have hown1 : OwnP w1 PB [.int .u64 (t.e : Int), .int .u64 (t.a : Int), .int .u64 (t.b : Int), .int .i64 why, .slice A M.length c] := HM.out.2.1.own.kept ((hpk (PB + 1)).block PB HPB.out.2 (by omega) HM.out.2.2.2.2.2.1)
  have hres1 : Own w1 w.heap.size 26 [.int .u64 0, .int .u64 0, .int .u64 0] := ((hpk (w.heap.size + 1)).block w.heap.size HM.out.2.2.2.1.inside (by omega) HM.out.2.2.2.2.2.2).trans HM.out.2.2.2.1
  have hSn : S.length = M.length := hp.length_eq
  have hrows : ∀ u ∈ S, UIn w1 w1.heap.size u ∧ UOk u ∧ Awn (fun b => b ≠ PB) u := fun u hu => by
    obtain ⟨k1, k2, k3⟩ := HM.out.2.1.each_ u (hp.mem_iff.1 hu)
    exact ⟨uin_pk k1 k3 (hpk PB), k2, k3.imp fun b hb => hb.1⟩
  have hcS : ∀ u ∈ S, chkU u = 0 := fun u hu => HM.out.2.2.2.2.1 u (hp.mem_iff.1 hu)
  have hAb : ∀ b o, A = some ⟨b, o, none⟩ → PB + 1 ≤ b ∧ b < w1.heap.size := fun b o e => by
    have := HM.out.1.later b (hA b o e)
    have h2 := (hpk PB).size
    have h3 := HVS.out
    omega
  have hPB1 : PB < w1.heap.size := hown1.inside
  have HS := Lib.hid (And.intro hp (And.intro hpw (And.intro hlies (And.intro hAb (And.intro hSn (And.intro hrows hcS))))))
  have HK := Lib.hid (And.intro (fun PB' => PKeep.after HM.out.2.2.1 (hpk PB')) (And.intro hown1 (And.intro hres1 hPB1)))
  have c4 := hown1.at_ 4
  simp only [List.getElem?_cons_zero, List.getElem?_cons_succ] at c4
  clear hp hpw hlies hA hpk hown1 hres1 hSn hrows hcS hAb Hsort hPB1
  go_wp2_with fail
  go_loopw [5, 6] (fun v5 v6 wr => ∃ (k : Nat) (outL : List Up) (t' : Tm) (why' : Int) (A' : Option Addr) (c' : Nat), v6 = .slice A' (M.length - k) c' ∧ k ≤ M.length ∧ (M.length - k ≤ c' ∧ c' ≤ maxLen) ∧ (∀ g o, A = some ⟨g, o, none⟩ → k < M.length → A' = some ⟨g, o + k * 6, none⟩) ∧
      wr.ownsRow w1.heap.size 49 6 v5 outL.length (outL.flatMap Up.cells) ∧ (∀ u ∈ outL, UIn wr wr.heap.size u ∧ UOk u ∧ Aw PB v5 u ∧ Awn (fun b => w1.heap.size ≤ b) u) ∧
      OwnP wr PB [.int .u64 (t'.e : Int), .int .u64 (t'.a : Int), .int .u64 (t'.b : Int), .int .i64 why', .slice A M.length c] ∧ (why' = 0 ∨ why' = 10) ∧ (why' = 0 ↔ why = 0 ∧ fitU (S.take k) = true) ∧ (why' = 0 → t' = ⟨0, 0, 0⟩) ∧
      (fitU (S.take k) = true → outL.map Up.p = nz Uk.cmp ((S.take k).map Up.p)) ∧ PKeep w1 wr PB (.slice none 0 0) ∧ BdU S k ∧ outL.length ≤ k)
    (fun _ v6 _ => (match v6 with | .slice _ n _ => n | _ => 0))
  case atStart =>
    refine ⟨0, [], t, why, A, c, rfl, Nat.zero_le _, ⟨hnc, hcm⟩, fun g o e _ => by rw [e, Nat.zero_mul, Nat.add_zero], World.ownsRow_nil _ _ _ _, fun u hu => (by cases hu), HK.out.2.1, hw, ⟨fun e => ⟨e, rfl⟩, fun e => e.1⟩, HM.out.1.zero, fun _ => rfl, PKeep.refl, fun a ha => (by cases ha), Nat.le_refl _⟩
  case round =>
    obtain ⟨k, outL, t', why', A', c', rfl, hk, hcc, hadr, hown, hout, hpb, hwy, hwf, hwt, hmap, hpk, hbd, hlen⟩ := hrel
    obtain ⟨wi, hwi⟩ : ∃ wi, wi = wr := ⟨_, rfl⟩
    subst hwi
    by_cases hlt : k < M.length
    · obtain ⟨g, o, rfl, hB, hxs⟩ := HS.out.2.2.1 (by rw [HS.out.2.2.2.2.1]; omega)
      obtain rfl := hadr g o rfl hlt
      have hx : S[k]? = some (S[k]'(by rw [HS.out.2.2.2.2.1]; exact hlt)) := List.getElem?_eq_getElem _
      generalize (S[k]'(by rw [HS.out.2.2.2.2.1]; exact hlt)) = x at *
      have hg := HS.out.2.2.2.1 g o rfl
      have hgne : g ≠ PB := by omega
      have hdl : (S.drop k).length = M.length - k := by rw [List.length_drop, HS.out.2.2.2.2.1]
      have hx0 : (S.drop k)[0]? = some x := by rw [List.getElem?_drop]; exact hx
      have hliesk : Lies 6 Up.cells wi wi.heap.size (some ⟨g, o + k * 6, none⟩) (S.drop k) := fun _ => by
        refine ⟨g, o + k * 6, rfl, Nat.lt_of_lt_of_le hg.2 hpk.size, fun i y hy j u hj => ?_⟩
        rw [List.getElem?_drop] at hy
        have hb := hpk.block g hg.2 hgne (by simp [Value.ownBlock])
        rw [show o + k * 6 + i * 6 + j = o + (k + i) * 6 + j by omega]
        exact (cell_heap hb).trans (hxs (k + i) y hy j u hj)
      have hupsk : Ups wi wi.heap.size (some ⟨g, o + k * 6, none⟩) (S.drop k) := ⟨hliesk, fun u hu => by
        obtain ⟨k1, k2, k3⟩ := HS.out.2.2.2.2.2.1 u (List.mem_of_mem_drop hu)
        exact uin_pk k1 (k3.imp fun b hb => ⟨hb, by simp [Value.ownBlock]⟩) hpk⟩
      have hokk : ∀ u ∈ S.drop k, UOk u := fun u hu => (HS.out.2.2.2.2.2.1 u (List.mem_of_mem_drop hu)).2.1
      have hal := alike_any (some ⟨g, o + k * 6, none⟩) c' (S.drop k) x wi hupsk hokk (by rw [hdl]; omega) hx0
      rw [hdl] at hal
      unfold AlikeSays at hal
      have Hal := Lib.hid hal
      have HO := Lib.hid (And.intro hown (And.intro hout (And.intro hpb (And.intro hwy (And.intro hwf (And.intro hwt (And.intro hmap (And.intro hpk (And.intro hbd hlen)))))))))
      have HU := Lib.hid (And.intro hupsk (And.intro hokk (And.intro hdl (And.intro hx hx0))))
      have HQ := Lib.hid (And.intro hgne (And.intro hg (And.intro hcc (And.intro (HK.out.2.2.2) hlt))))
      have q1 : (0 : Int) < ((M.length - k : Nat) : Int) := by omega
      have q2 : decide ((0 : Int) < ((M.length - k : Nat) : Int)) = true := decide_eq_true q1
      clear hown hout hpb hwy hwf hwt hmap hpk hbd hlen hupsk hokk hdl hx hx0 hliesk hal hxs hB hadr hg hgne hcc
      go_wp2_with fail
      refine Hal.out.mono ?_
      rintro _ w2 ⟨n, rfl, hn1, hn2, heq, hmax, b2⟩
      have HN := Lib.hid (And.intro heq (And.intro hmax b2))
      have hnc' : n ≤ c' := by have := HQ.out.2.2.1.1; have := HU.out.2.2.1; omega
      have q3 : (0 : Int) ≤ (n : Int) := by omega
      have q4 : (n : Int) ≤ (c' : Int) := by omega
      have q5 : (n : Int) ≤ ((M.length - k : Nat) : Int) := by have := HU.out.2.2.1; omega
      have hlen2 : ((S.drop k).take n).length = n := by rw [List.length_take]; omega
      have hups2 : Ups w2 w2.heap.size (some ⟨g, o + k * 6, none⟩) ((S.drop k).take n) := ⟨lies_taken (HU.out.1.keep b2).head n, fun u hu => (HU.out.1.keep b2).each_ u (List.mem_of_mem_take hu)⟩
      obtain ⟨V3, hV3, hb3, hl3⟩ := one_list w2 (some ⟨g, o + k * 6, none⟩) c' ((S.drop k).take n) hups2
      rw [hlen2] at hV3
      have hcon := consolidate_new (some ⟨w2.heap.size, 0, none⟩) 1 [⟨some ⟨g, o + k * 6, none⟩, c', (S.drop k).take n⟩] V3 hl3 (fun s hs u hu => by
        obtain rfl : s = ⟨some ⟨g, o + k * 6, none⟩, c', (S.drop k).take n⟩ := by simpa using hs
        exact HU.out.2.1 u (List.mem_of_mem_take hu)) (by simp only [flatR, List.flatMap_cons, List.flatMap_nil, List.append_nil]; rw [hlen2]; omega) (by simp)
      unfold UpsNew at hcon
      simp only [List.map_cons, List.map_nil] at hcon
      obtain ⟨E, hE⟩ : ∃ E, consE [(S.drop k).take n] = E := ⟨_, rfl⟩
      obtain ⟨CL, hCL⟩ : ∃ CL, consL [(S.drop k).take n] = CL := ⟨_, rfl⟩
      rw [hE, hCL] at hcon
      have Hcon := Lib.hid hcon
      have HE := Lib.hid (And.intro hE hCL)
      have HB3 := Lib.hid (And.intro b2 hb3)
      clear hcon hE hCL hb3 hl3 hups2 b2 heq hmax Hal
      go_wp2_with fail
      rw [← hV3]
      clear hV3
      refine Hcon.out.mono ?_
      rintro _ w4 ⟨AX, cX, X, rfl, hpX, huX, hoX, hbX, hloX⟩
      have hown4 : OwnP w4 PB [.int .u64 (t'.e : Int), .int .u64 (t'.a : Int), .int .u64 (t'.b : Int), .int .i64 why', .slice (some ⟨g, o, none⟩) M.length c] := HO.out.2.2.1.past (belows HB3.out.1 (belows HB3.out.2 hbX)) HO.out.2.2.1.inside
      have H4 := Lib.hid (And.intro hpX (And.intro huX (And.intro hoX (And.intro hbX hloX))))
      have HO4 := Lib.hid hown4
      clear hpX huX hoX hbX hloX Hcon hown4
      by_cases hE0 : E = 0
      · have t1 : (E != 0) = false := by simp [hE0]
        have HE0 := Lib.hid hE0
        clear hE0
        have hbi4 : Below wi.heap.size wi w4 := belows HB3.out.1 (belows HB3.out.2 H4.out.2.2.2.1)
        have hpk5 : PKeep wi w4 PB (.slice none 0 0) := PKeep.after hbi4 (PKeep.refl : PKeep w4 w4 PB (.slice none 0 0))
        have hne5 : u5.ownBlock ≠ some PB := fun e => by have := (HO.out.1.lt _ e).1; have := HQ.out.2.2.2.1; omega
        have hsz3 : wi.heap.size ≤ V3.heap.size := Nat.le_trans HB3.out.1.size HB3.out.2.size
        have hszw : w1.heap.size ≤ wi.heap.size := HO.out.2.2.2.2.2.2.2.1.size
        have hrow5 := Lib.hid ((own_below HO.out.1 hbi4).kept ((PKeep.refl : PKeep w4 w4 PB (.slice none 0 0))).grown (.inr hne5))
        have hout5 : ∀ u ∈ outL, UIn w4 (w4).heap.size u ∧ UOk u ∧ Aw PB u5 u ∧ Awn (fun b => w1.heap.size ≤ b) u := fun u hu => by
          obtain ⟨k1, k2, k3, k4⟩ := HO.out.2.1 u hu
          exact ⟨uin_pk k1 (k3.imp fun b hb => ⟨hb.1, by simp [Value.ownBlock]⟩) hpk5, k2, k3, k4⟩
        have hX5 : ∀ u ∈ X, UIn w4 (w4).heap.size u ∧ UOk u ∧ Aw PB u5 u ∧ Awn (fun b => w1.heap.size ≤ b) u := fun u hu => by
          have hlo := awn_lo H4.out.2.2.2.2 hu
          have hqq := HQ.out.2.2.2.1
          exact ⟨uin_pk (H4.out.2.1.each_ u hu) (hlo.imp fun b hb => ⟨by omega, by simp [Value.ownBlock]⟩) (PKeep.refl : PKeep w4 w4 PB (.slice none 0 0)), H4.out.2.2.1 u hu, hlo.imp fun b hb => ⟨by omega, fun e => by have := (HO.out.1.lt _ e).2; omega⟩, hlo.imp fun b hb => by omega⟩
        have hlX := Lib.hid (lies_pk H4.out.2.1.head (PKeep.refl : PKeep w4 w4 PB (.slice none 0 0)) (fun _ b o e => ⟨by have h1 := H4.out.2.2.2.2.1 b o e; have h2 := HQ.out.2.2.2.1; omega, by simp [Value.ownBlock]⟩))
        have hXn : X.length ≤ n := by
          have h1 := consL_len [(S.drop k).take n]
          rw [HE.out.2, ← H4.out.1, List.length_map] at h1
          simp only [List.flatten_cons, List.flatten_nil, List.append_nil] at h1
          rw [hlen2] at h1
          exact h1
        have hoLn : outL.length ≤ k := HO.out.2.2.2.2.2.2.2.2.2
        have hkn : k + n ≤ M.length := by have := HU.out.2.2.1; omega
        have hsz5 : w1.heap.size ≤ (w4).heap.size := Nat.le_trans hszw hpk5.size
        have HT := Lib.hid (And.intro hpk5 (And.intro hne5 (And.intro hout5 (And.intro hX5 (And.intro hXn (And.intro hoLn hkn))))))
        have hsum : outL.length + X.length ≤ 1099511627776 := by omega
        clear hbi4 hpk5 hne5 hsz3 hszw hout5 hX5
        go_wp2_with (at_builtin; refine wpList_append_grown _ rfl (.tmp 42) (.tmp 43) 22 49 rfl i0 _ 80 HI.out.1 HI.out.2.1 HI.out.2.2.1 HI.out.2.2.2.1 HI.out.2.2.2.2 rfl (by decide) ucells_len ucells_one w1.heap.size _ _ _ rfl hrow5.out _ rfl hlX.out ?xa1 ?xa2 ?xa3 ?_)
        case xa1 => unfold maxLen; omega
        case xa2 => omega
        case xa3 => exact hsz5
        intro v7 w7 ho7 hb7 hob7 hg7
        have hgr : Grew w4 u5 v7 := by
          rcases hob7 with e | e
          · exact .inl e
          · exact .inr ⟨_, e, Nat.le_refl _⟩
        have hpk7 : PKeep w4 w7 PB u5 := pk_grown hg7
        have H7 := Lib.hid (And.intro ho7 (And.intro (fun u (hu : u ∈ outL ++ X) => (by
          rcases List.mem_append.1 hu with hu | hu
          · obtain ⟨k1, k2, k3, k4⟩ := HT.out.2.2.1 u hu
            exact ⟨uin_pk k1 k3 hpk7, k2, k3.grew k1 hgr, k4⟩
          · obtain ⟨k1, k2, k3, k4⟩ := HT.out.2.2.2.1 u hu
            exact ⟨uin_pk k1 k3 hpk7, k2, k3.grew k1 hgr, k4⟩ : UIn w7 w7.heap.size u ∧ UOk u ∧ Aw PB v7 u ∧ Awn (fun b => w1.heap.size ≤ b) u)) (And.intro (OwnP.kept HO4.out (hg7.block PB (HO4.out).inside (fun e => HT.out.2.1 e.symm)) : OwnP w7 PB _) (pk_then (HO.out.2.2.2.2.2.2.2.1.trans Grew.same HT.out.1) hg7 fun j e => (HO.out.1.lt j e).1))))
        clear ho7 hb7 hob7 hg7 hgr hpk7 hrow5 hlX hsz5
        go_wp2_with fail
        go_roundw
        case rel =>
          have hst := end_step HS.out.2.1 HS.out.2.2.2.2.2.2 HU.out.2.2.2.1 hn1 HN.out.1 HN.out.2.1 HO.out.2.2.2.2.2.2.2.2.1
          have hgp := cons_group (l := (S.drop k).take n) fun u hu => HS.out.2.2.2.2.2.2 u (List.mem_of_mem_drop (List.mem_of_mem_take hu))
          rw [HE.out.1, HE.out.2] at hgp
          refine ⟨k + n, outL ++ X, t', why', _, _, by rw [Nat.sub_sub], HT.out.2.2.2.2.2.2, ⟨by have := HQ.out.2.2.1; omega, by have := HQ.out.2.2.1; omega⟩, fun g' o' e hlt' => ?_, ?_, H7.out.2.1, H7.out.2.2.1, ?_, ?_, ?_, fun hf => ?_, H7.out.2.2.2, hst.1, ?_⟩
          · simp only [Option.some.injEq, Addr.mk.injEq, and_true] at e
            obtain ⟨rfl, rfl⟩ := e
            have hcn : ¬ c' = n := by have := HQ.out.2.2.1; omega
            first
              | rw [show o + k * 6 + n * 6 = o + (k + n) * 6 by omega, if_neg hcn]
              | rw [if_neg hcn, show o + k * 6 + n * 6 = o + (k + n) * 6 by omega]
              | rw [if_neg hcn]
          · rw [List.length_append, List.flatMap_append]
            exact H7.out.1
          · exact HO.out.2.2.2.1
          · rw [HO.out.2.2.2.2.1, hst.2.1]
            have : fitU ((S.drop k).take n) = true := by
              have h1 := hgp.1
              split at h1
              · assumption
              · have := HE0.out; omega
            rw [this, Bool.and_true]
          · exact HO.out.2.2.2.2.2.1
          · rw [hst.2.1, Bool.and_eq_true] at hf
            rw [List.map_append, HO.out.2.2.2.2.2.2.1 hf.1, hst.2.2, H4.out.1, hgp.2, if_pos hf.2]
          · rw [List.length_append]
            have := HT.out
            omega
        case measure => (simp [intOf]) <;> omega
      · have t1 : (E != 0) = true := bne_iff_ne.2 hE0
        have HE0 := Lib.hid hE0
        clear hE0
        have hxc := HU.out.1.head (by have := HU.out.2.2.1; omega)
        have hxat : UAt wi g (o + k * 6) x := by
          obtain ⟨b', o', e', _, hcc'⟩ := hxc
          simp only [Option.some.injEq, Addr.mk.injEq, and_true] at e'
          obtain ⟨rfl, rfl⟩ := e'
          exact fun j v hj => by have := hcc' 0 x HU.out.2.2.2.2 j v hj; rwa [Nat.zero_mul, Nat.add_zero] at this
        have hx4 := (hxat.past_ (belows HB3.out.1 (belows HB3.out.2 H4.out.2.2.2.1)) (Nat.lt_of_lt_of_le HQ.out.2.1.2 HO.out.2.2.2.2.2.2.2.1.size)).six
        obtain ⟨_, _, e2, e3, e4, _⟩ := hx4
        have y1 := fun (W : World) (hW : Below w4.heap.size w4 W) => Lib.hid (failL_any PB t' why' (.slice (some ⟨g, o, none⟩) M.length c) x.t W (HO4.out.past hW HO4.out.inside) HO.out.2.2.2.1)
        unfold FailSays at y1
        have hself : Below w4.heap.size w4 w4.drew := (Below.refl _ _).drew
        clear hxc hxat
        go_upto_region 8 with fail
        go_region_with (go_at_call 53; refine (y1 _ hself).out.mono ?_; rintro _ w5 ⟨rfl, t5, ho5, hk5⟩)
        all_goals
          have HF := Lib.hid (And.intro ho5 (PKeep.after (Below.refl _ _).drew hk5 : PKeep w4 w5 PB (.slice none 0 0)))
          clear ho5 hk5 e2 e3 e4 y1
          have hbi4 : Below wi.heap.size wi w4 := belows HB3.out.1 (belows HB3.out.2 H4.out.2.2.2.1)
          have hpk5 : PKeep wi w5 PB (.slice none 0 0) := PKeep.after hbi4 HF.out.2
          have hne5 : u5.ownBlock ≠ some PB := fun e => by have := (HO.out.1.lt _ e).1; have := HQ.out.2.2.2.1; omega
          have hsz3 : wi.heap.size ≤ V3.heap.size := Nat.le_trans HB3.out.1.size HB3.out.2.size
          have hszw : w1.heap.size ≤ wi.heap.size := HO.out.2.2.2.2.2.2.2.1.size
          have hrow5 := Lib.hid ((own_below HO.out.1 hbi4).kept (HF.out.2).grown (.inr hne5))
          have hout5 : ∀ u ∈ outL, UIn w5 (w5).heap.size u ∧ UOk u ∧ Aw PB u5 u ∧ Awn (fun b => w1.heap.size ≤ b) u := fun u hu => by
            obtain ⟨k1, k2, k3, k4⟩ := HO.out.2.1 u hu
            exact ⟨uin_pk k1 (k3.imp fun b hb => ⟨hb.1, by simp [Value.ownBlock]⟩) hpk5, k2, k3, k4⟩
          have hX5 : ∀ u ∈ X, UIn w5 (w5).heap.size u ∧ UOk u ∧ Aw PB u5 u ∧ Awn (fun b => w1.heap.size ≤ b) u := fun u hu => by
            have hlo := awn_lo H4.out.2.2.2.2 hu
            have hqq := HQ.out.2.2.2.1
            exact ⟨uin_pk (H4.out.2.1.each_ u hu) (hlo.imp fun b hb => ⟨by omega, by simp [Value.ownBlock]⟩) HF.out.2, H4.out.2.2.1 u hu, hlo.imp fun b hb => ⟨by omega, fun e => by have := (HO.out.1.lt _ e).2; omega⟩, hlo.imp fun b hb => by omega⟩
          have hlX := Lib.hid (lies_pk H4.out.2.1.head HF.out.2 (fun _ b o e => ⟨by have h1 := H4.out.2.2.2.2.1 b o e; have h2 := HQ.out.2.2.2.1; omega, by simp [Value.ownBlock]⟩))
          have hXn : X.length ≤ n := by
            have h1 := consL_len [(S.drop k).take n]
            rw [HE.out.2, ← H4.out.1, List.length_map] at h1
            simp only [List.flatten_cons, List.flatten_nil, List.append_nil] at h1
            rw [hlen2] at h1
            exact h1
          have hoLn : outL.length ≤ k := HO.out.2.2.2.2.2.2.2.2.2
          have hkn : k + n ≤ M.length := by have := HU.out.2.2.1; omega
          have hsz5 : w1.heap.size ≤ (w5).heap.size := Nat.le_trans hszw hpk5.size
          have HT := Lib.hid (And.intro hpk5 (And.intro hne5 (And.intro hout5 (And.intro hX5 (And.intro hXn (And.intro hoLn hkn))))))
          have hsum : outL.length + X.length ≤ 1099511627776 := by omega
          clear hbi4 hpk5 hne5 hsz3 hszw hout5 hX5
          go_wp2_with (at_builtin; refine wpList_append_grown _ rfl (.tmp 42) (.tmp 43) 22 49 rfl i0 _ 80 HI.out.1 HI.out.2.1 HI.out.2.2.1 HI.out.2.2.2.1 HI.out.2.2.2.2 rfl (by decide) ucells_len ucells_one w1.heap.size _ _ _ rfl hrow5.out _ rfl hlX.out ?xb1 ?xb2 ?xb3 ?_)
          case xb1 => unfold maxLen; omega
          case xb2 => omega
          case xb3 => exact hsz5
          intro v7 w7 ho7 hb7 hob7 hg7
          have hgr : Grew w5 u5 v7 := by
            rcases hob7 with e | e
            · exact .inl e
            · exact .inr ⟨_, e, Nat.le_refl _⟩
          have hpk7 : PKeep w5 w7 PB u5 := pk_grown hg7
          have H7 := Lib.hid (And.intro ho7 (And.intro (fun u (hu : u ∈ outL ++ X) => (by
            rcases List.mem_append.1 hu with hu | hu
            · obtain ⟨k1, k2, k3, k4⟩ := HT.out.2.2.1 u hu
              exact ⟨uin_pk k1 k3 hpk7, k2, k3.grew k1 hgr, k4⟩
            · obtain ⟨k1, k2, k3, k4⟩ := HT.out.2.2.2.1 u hu
              exact ⟨uin_pk k1 k3 hpk7, k2, k3.grew k1 hgr, k4⟩ : UIn w7 w7.heap.size u ∧ UOk u ∧ Aw PB v7 u ∧ Awn (fun b => w1.heap.size ≤ b) u)) (And.intro (OwnP.kept HF.out.1 (hg7.block PB (HF.out.1).inside (fun e => HT.out.2.1 e.symm)) : OwnP w7 PB _) (pk_then (HO.out.2.2.2.2.2.2.2.1.trans Grew.same HT.out.1) hg7 fun j e => (HO.out.1.lt j e).1))))
          clear ho7 hb7 hob7 hg7 hgr hpk7 hrow5 hlX hsz5
          go_wp2_with fail
          go_roundw
          case rel =>
            have hst := end_step HS.out.2.1 HS.out.2.2.2.2.2.2 HU.out.2.2.2.1 hn1 HN.out.1 HN.out.2.1 HO.out.2.2.2.2.2.2.2.2.1
            have hgp := cons_group (l := (S.drop k).take n) fun u hu => HS.out.2.2.2.2.2.2 u (List.mem_of_mem_drop (List.mem_of_mem_take hu))
            rw [HE.out.1, HE.out.2] at hgp
            refine ⟨k + n, outL ++ X, t5, 10, _, _, by rw [Nat.sub_sub], HT.out.2.2.2.2.2.2, ⟨by have := HQ.out.2.2.1; omega, by have := HQ.out.2.2.1; omega⟩, fun g' o' e hlt' => ?_, ?_, H7.out.2.1, H7.out.2.2.1, ?_, ?_, ?_, fun hf => ?_, H7.out.2.2.2, hst.1, ?_⟩
            · simp only [Option.some.injEq, Addr.mk.injEq, and_true] at e
              obtain ⟨rfl, rfl⟩ := e
              have hcn : ¬ c' = n := by have := HQ.out.2.2.1; omega
              first
                | rw [show o + k * 6 + n * 6 = o + (k + n) * 6 by omega, if_neg hcn]
                | rw [if_neg hcn, show o + k * 6 + n * 6 = o + (k + n) * 6 by omega]
                | rw [if_neg hcn]
            · rw [List.length_append, List.flatMap_append]
              exact H7.out.1
            · exact .inr rfl
            · have : fitU ((S.drop k).take n) = false := by
                have h1 := hgp.1
                split at h1
                · have := HE0.out; omega
                · rename_i h2; simpa using h2
              rw [hst.2.1, this, Bool.and_false]
              exact ⟨fun e => absurd e (by decide), fun e => absurd e.2 (by decide)⟩
            · intro e; exact absurd e (by decide)
            · rw [hst.2.1, Bool.and_eq_true] at hf
              have h1 := hgp.1
              rw [if_pos hf.2] at h1
              exact absurd h1 HE0.out
            · rw [List.length_append]
              have := HT.out
              omega
          case measure => (simp [intOf]) <;> omega
    · have hkM : k = M.length := by omega
      have htk : S.take k = S := by rw [hkM, ← HS.out.2.2.2.2.1, List.take_length]
      rw [htk] at hwf hmap
      have hpm := fitU_perm HS.out.1 HM.out.2.2.2.2.1
      rw [hpm.1] at hwf hmap
      rw [hpm.2] at hmap
      obtain ⟨A5, c5, rfl, _, _, h5⟩ := lies_of_own (size := 6) (cells := Up.cells) (l := outL) (by decide) ucells_len rfl hown
      have hRP : w.heap.size ≠ PB := by have := HPB.out.1; omega
      have hRlt : w.heap.size < w1.heap.size := HK.out.2.2.1.inside
      have hres : Own wi w.heap.size 26 [.int .u64 0, .int .u64 0, .int .u64 0] := (hpk.block _ hRlt hRP (by simp [Value.ownBlock])).trans HK.out.2.2.1
      obtain ⟨X0, hX, hXo0, hXk0, hXs⟩ := own_three hres (.int .u64 (t'.e : Int)) (.int .u64 (t'.a : Int)) (.int .u64 (t'.b : Int))
      obtain ⟨X, hXd⟩ : ∃ X, X = X0.drew := ⟨_, rfl⟩
      have hXo : Own X w.heap.size 26 [.int .u64 (t'.e : Int), .int .u64 (t'.a : Int), .int .u64 (t'.b : Int)] := hXd ▸ own_drew' hXo0
      have hXk : PKeep wi X w.heap.size (.slice none 0 0) := hXd ▸ hXk0.quiet (Below.refl _ _).drew
      have hown' : ∀ b o, A5 = some ⟨b, o, none⟩ → w1.heap.size ≤ b ∧ b < wi.heap.size := fun b o e => by subst e; exact hown.lt b rfl
      have hk2 : PKeep wi X w.heap.size (.slice none 0 0) := hXk
      have hu5 : Ups X X.heap.size A5 outL := ⟨lies_pk h5 hk2 fun hp b o e => ⟨by have := hown' b o e; omega, by simp [Value.ownBlock]⟩, fun u hu => uin_pk (hout u hu).1 ((hout u hu).2.2.2.imp fun b hb => ⟨by omega, by simp [Value.ownBlock]⟩) hk2⟩
      have hkk : PKeep w X PB (.slice A M.length c) := by
        have k1 := HK.out.1 PB
        refine ⟨hk2.os.trans (hpk.os.trans k1.os), hk2.tape.trans (hpk.tape.trans k1.tape), hk2.output.trans (hpk.output.trans k1.output), Nat.le_trans k1.size (Nat.le_trans hpk.size hk2.size), fun j hj h1 h2 => ?_⟩
        have hj1 : j < w1.heap.size := Nat.lt_of_lt_of_le hj k1.size
        exact (hk2.block j (Nat.lt_of_lt_of_le hj1 hpk.size) (by omega) (by simp [Value.ownBlock])).trans ((hpk.block j hj1 h1 (by simp [Value.ownBlock])).trans (k1.block j hj h1 h2))
      have HR := Lib.hid (And.intro hu5 (And.intro hkk (And.intro (fun u hu => (hout u hu).2.1) (And.intro (fun b o e => Nat.le_trans (Nat.le_of_lt hRlt) (hown' b o e).1) (fun u hu => (hout u hu).2.2.2.imp fun b hb => Nat.le_trans (Nat.le_of_lt hRlt) hb)))))
      have HLn := Lib.hid (show outL.length ≤ M.length by omega)
      have HW := Lib.hid (And.intro hwy (And.intro hwf (And.intro hwt (And.intro hmap hkM))))
      have HSO := Lib.hid (fun W (h : OwnP W PB [.int .u64 (t'.e : Int), .int .u64 (t'.a : Int), .int .u64 (t'.b : Int), .int .i64 why', .slice A M.length c]) => (⟨h.at_ 0, h.at_ 1, h.at_ 2, h.at_ 3⟩ : W.cell? ⟨PB, 0, none⟩ = some (.int .u64 (t'.e : Int)) ∧ W.cell? ⟨PB, 1, none⟩ = some (.int .u64 (t'.a : Int)) ∧ W.cell? ⟨PB, 2, none⟩ = some (.int .u64 (t'.b : Int)) ∧ W.cell? ⟨PB, 3, none⟩ = some (.int .i64 why')))
      have q2 : decide ((0 : Int) < ((M.length - k : Nat) : Int)) = false := decide_eq_false (by omega)
      obtain ⟨d0, d1, d2, d3⟩ := HSO.out wi hpb
      have z0 := hres.at_ 0
      have z1 := hres.at_ 1
      have z2 := hres.at_ 2
      have f0 := hres.open_ 0
      have f1 := hres.open_ 1
      have f2 := hres.open_ 2
      have x0 := hXo.at_ 0
      have x1 := hXo.at_ 1
      have x2 := hXo.at_ 2
      simp only [List.getElem?_cons_zero, List.getElem?_cons_succ] at z0 z1 z2 x0 x1 x2
      clear hown hout hwy hwf hwt hmap hpk hbd hlen hpm htk h5 hres hXo hXk hXs hXo0 hXk0 hown' hk2 hu5 hkk hadr hcc hkM hk
      go_upto_region 11 with fail
      go_region_held3 (fun w' => OwnP w' PB [.int .u64 (t'.e : Int), .int .u64 (t'.a : Int), .int .u64 (t'.b : Int), .int .i64 why', .slice A M.length c] ∧ (w'.cell? ⟨PB, 0, none⟩ = some (.int .u64 (t'.e : Int)) ∧ w'.cell? ⟨PB, 1, none⟩ = some (.int .u64 (t'.a : Int)) ∧ w'.cell? ⟨PB, 2, none⟩ = some (.int .u64 (t'.b : Int)) ∧ w'.cell? ⟨PB, 3, none⟩ = some (.int .i64 why')))
        ((refine (fun h => And.intro h (HSO.out _ h)) ?_; repeat (first | with_reducible exact hpb | with_reducible refine OwnP.other ?_ hRP _ | with_reducible refine OwnP.drew' ?_)))
        (first | fail)
      all_goals
        go_wp2_with fail
        rw [← hX, ← hXd]
        exact bodyPost_ret (v := .tuple #[.slice A5 outL.length c5, .agg #[.int .u64 (t'.e : Int), .int .u64 (t'.a : Int), .int .u64 (t'.b : Int)], .int .i64 why']) (by simp [results, Tryz.results22, go_sem, x0, x1, x2]) rfl ⟨A5, c5, outL, t', why', rfl, HW.out.1, HW.out.2.1, fun e => ⟨HW.out.2.2.2.1 (HW.out.2.1.1 e).2, HW.out.2.2.1 e⟩, HR.out.1, HR.out.2.2.1, HR.out.2.1, HR.out.2.2.2.1, HR.out.2.2.2.2, HLn.out⟩
def MatchPost (PB : Nat) (a b : List Up) (w : World) (e : Ending) (w' : World) : Prop :=
  e = .returned (.tuple #[]) ∧ ∃ t why v M, Prod w' PB t why v M ∧ PKeep w w' PB (.slice none 0 0) ∧ (∀ j, v.ownBlock = some j → w.heap.size ≤ j) ∧ (why = 0 ∨ why = 10) ∧ (why = 0 ↔ okPairs a b = true) ∧ (why = 0 → (M.map Up.p).Perm (pairsP a b)) ∧ (∀ u ∈ M, chkU u = 0) ∧ M.length ≤ a.length * b.length
theorem slbox (w : World) (v : Value) : ∃ V, V = w.alloc (.cells #[v] 22) ∧ Below w.heap.size w V ∧ V.heap.size = w.heap.size + 1 ∧ Own V w.heap.size 22 [v] :=
  ⟨_, rfl, (Below.refl _ _).alloc (Nat.le_refl _) _, by simp, Own.made w _ _⟩
set_option maxRecDepth 100000 in
set_option maxHeartbeats 25600000 in
theorem match_any (PB : Nat) (A : Option Addr) (c : Nat) (a : List Up) (B : Option Addr) (d : Nat) (b : List Up) (w : World) (h : Prod w PB ⟨0, 0, 0⟩ 0 (.slice none 0 0) []) (ha : Ups w PB A a) (oa : ∀ u ∈ a, UOk u) (ca : chkUs a = 0) (hb : Ups w PB B b) (ob : ∀ u ∈ b, UOk u) (cb : chkUs b = 0) (na : a.length ≤ 1099511627776) (nb : b.length ≤ 1099511627776) (hn : a.length * b.length ≤ 1099511627776) :
    Calls Tryz.prog 21 #[.pointer (some ⟨PB, 0, none⟩), .slice A a.length c, .slice B b.length d] w (MatchPost PB a b w) := by
  have hPB := h.own.inside
  obtain ⟨V, hV, hVb, hVs, hVo⟩ := slbox w (.slice B b.length d)
  have hbw := hb.wide (Nat.le_of_lt hPB)
  have y1 := Lib.hid (cloneU_any B d b V (hbw.keep hVb).head nb)
  have HL := Lib.hid (And.intro ha (And.intro oa (And.intro ca (And.intro hb (And.intro ob cb)))))
  have HV := Lib.hid (And.intro hVb (And.intro hVo (And.intro (h.quiet hVb) (And.intro hPB hVs))))
  have HN := Lib.hid (And.intro na (And.intro nb hn))
  have d0 := hVo.at_ 0
  simp only [List.getElem?_cons_zero] at d0
  clear h ha oa ca hb ob cb na nb hn hPB hVb hVs hVo hbw
  go_enter Tryz.func21, Tryz.ntmps21
  go_upto_region 1 with fail
  rw [← hV]
  clear hV
  apply wp_scope_straight
  go_wp2_with fail
  refine y1.out.mono ?_
  rintro _ w1 ⟨A1, c1, rfl, ho1, b1⟩
  have o1 := HV.out.2.1.past b1 HV.out.2.1.inside
  have f0 := o1.open_ 0
  have g0 := o1.at_ 0
  simp only [List.getElem?_cons_zero] at g0
  obtain ⟨X, hX⟩ : ∃ X, X = w1.setCell ⟨w.heap.size, 0, none⟩ (.slice A1 b.length c1) := ⟨_, rfl⟩
  have oX : Own X w.heap.size 22 [.slice A1 b.length c1] := hX ▸ o1.set_ 0 _
  have hne : (Value.slice A1 b.length c1).ownBlock ≠ some w.heap.size := fun e => by have := (ho1.lt _ e).1; have := HV.out.2.2.2.2; omega
  have roX : X.ownsRow V.heap.size 49 6 (.slice A1 b.length c1) b.length (b.flatMap Up.cells) := hX ▸ ho1.kept (grown_set w1 w.heap.size 0 _) (.inr hne)
  have bX : Below w.heap.size w X := by
    rw [hX]
    exact (belows HV.out.1 b1).setCell (p := ⟨w.heap.size, 0, none⟩) (Nat.le_refl _) _
  have hPX : Prod X PB ⟨0, 0, 0⟩ 0 (.slice none 0 0) [] := ⟨(HV.out.2.2.1.own).past (hX ▸ (b1.mono (show w.heap.size ≤ V.heap.size by have := HV.out.2.2.2.2; omega)).setCell (p := ⟨w.heap.size, 0, none⟩) (Nat.le_refl _) _) HV.out.2.2.2.1, World.ownsRow_nil _ _ _ _, (fun u hu => by cases hu), fun _ => rfl⟩
  obtain ⟨A2, c2, e2, hc2, hm2, hsort⟩ := sortK_all (.slice A1 b.length c1) b.length V.heap.size b X rfl roX (fun u hu => ⟨((HL.out.2.2.2.1.each_ u hu).past bX (Nat.le_of_lt HV.out.2.2.2.1)).wide (Nat.le_trans (Nat.le_of_lt HV.out.2.2.2.1) bX.size), HL.out.2.2.2.2.1 u hu, (awn_lt (HL.out.2.2.2.1.each_ u hu)).imp fun j hj e => by have h1 := (ho1.lt _ e).1; have h2 := HV.out.2.2.2.1; have h3 := HV.out.2.2.2.2; omega⟩) (by have := HN.out.2.1; omega)
  obtain ⟨rfl, rfl⟩ : A1 = A2 ∧ c1 = c2 := by injection e2 with e2 _ e3; exact ⟨e2, e3⟩
  have Hsort := Lib.hid hsort
  have HX := Lib.hid (And.intro bX (And.intro oX (And.intro roX (And.intro hPX (And.intro hc2 hm2)))))
  have dX := oX.at_ 0
  simp only [List.getElem?_cons_zero] at dX
  clear d0 y1 o1 hne bX roX hPX e2 hc2 hm2 hsort oX ho1 b1
  go_upto_region 2 with fail
  rw [← hX]
  clear hX f0 g0
  go_wp2_with fail
  refine Hsort.out.mono ?_
  rintro _ w2 ⟨rfl, S, hp, hs, hS, hA, hk⟩
  have hSn : b.length = S.length := hp.length_eq.symm
  have hown : ∀ j, (Value.slice A1 b.length c1).ownBlock = some j → V.heap.size ≤ j := fun j hj => (HX.out.2.2.1.lt j hj).1
  have hXs : V.heap.size ≤ X.heap.size := by have h1 := HX.out.2.1.inside; have h2 := HV.out.2.2.2.2; omega
  have b2 : Below V.heap.size X w2 := (hk X.heap.size).below hXs hXs hown
  have bw2 : Below w.heap.size w w2 := HX.out.1.trans (b2.mono (by have := HV.out.2.2.2.2; omega))
  have o2 : Own w2 w.heap.size 22 [.slice A1 S.length c1] := by
    have := HX.out.2.1.past b2 (by have := HV.out.2.2.2.2; omega)
    rwa [hSn] at this
  have hP2 : Prod w2 PB ⟨0, 0, 0⟩ 0 (.slice none 0 0) [] := ⟨HX.out.2.2.2.1.own.past b2 (by have h1 := HV.out.2.2.2.1; have h2 := HV.out.2.2.2.2; omega), World.ownsRow_nil _ _ _ _, (fun u hu => by cases hu), fun _ => rfl⟩
  have hAg : ∀ g o, A1 = some ⟨g, o, none⟩ → w.heap.size < g := fun g o e => by have h1 := hown g (hA g o e); have h2 := HV.out.2.2.2.2; omega
  have hSok : ∀ u ∈ S, UOk u := fun u hu => HL.out.2.2.2.2.1 u (hp.mem_iff.1 hu)
  have hScu : ∀ u ∈ S, chkU u = 0 := fun u hu => chkUs_all.1 HL.out.2.2.2.2.2 u (hp.mem_iff.1 hu)
  have hSin : ∀ u ∈ S, UIn w PB u := fun u hu => HL.out.2.2.2.1.each_ u (hp.mem_iff.1 hu)
  have hcap : S.length ≤ c1 ∧ c1 ≤ maxLen := by have := HX.out.2.2.2.2; omega
  have H2 := Lib.hid (And.intro bw2 (And.intro o2 (And.intro hP2 (And.intro hAg hcap))))
  have HS := Lib.hid (And.intro hp (And.intro hs (And.intro hS (And.intro hSok (And.intro hScu (And.intro hSin hSn))))))
  -- S and a, wherever nothing but the producer's block and its row has turned
  have HW := Lib.hid (show ∀ W, PKeep w2 W PB (.slice none 0 0) → Below PB w W ∧ Ups W W.heap.size A1 S ∧ Own W w.heap.size 22 [.slice A1 S.length c1] from fun W k => by
    have k1 : Below PB w W := (bw2.mono (Nat.le_of_lt HV.out.2.2.2.1)).trans (k.below (by have h1 := HV.out.2.2.2.1; have h2 := bw2.size; omega) (Nat.le_refl _) (by simp [Value.ownBlock]))
    refine ⟨k1, ⟨lies_pk hS k (fun _ g o e => ⟨by have h1 := hAg g o e; have h2 := HV.out.2.2.2.1; omega, by simp [Value.ownBlock]⟩), fun u hu => ((hSin u hu).past k1 (Nat.le_refl _)).wide (Nat.le_trans (Nat.le_of_lt HV.out.2.2.2.1) (Nat.le_trans bw2.size k.size))⟩, (k.block _ o2.inside (by have h1 := HV.out.2.2.2.1; omega) (by simp [Value.ownBlock])).trans o2⟩)
  clear hp hs hS hA hk hSn hown hXs b2 bw2 o2 hP2 hAg hSok hScu hSin hcap dX Hsort
  go_wp2_with fail
  apply wp_label
  go_wp2_with fail
  go_loopw [17] (fun v17 wr => ∃ (k : Nat) (why : Int) (v : Value) (M : List Up), v17 = .int .i64 (k : Int) ∧ k ≤ a.length ∧ JM w2 wr PB a S k why v M)
    (fun v17 _ => a.length - (intOf v17).toNat)
  case atStart => exact ⟨0, 0, .slice none 0 0, [], rfl, Nat.zero_le _, ⟨_, H2.out.2.2.1⟩, PKeep.refl, by simp [Value.ownBlock], .inl rfl, ⟨fun _ => rfl, fun _ => rfl⟩, fun _ => rfl, (fun u hu => by cases hu), Nat.zero_le _⟩
  case round =>
    obtain ⟨k, why, v, M, rfl, hk, hjm⟩ := hrel
    obtain ⟨wi, hwi⟩ : ∃ wi, wi = wr := ⟨_, rfl⟩
    subst hwi
    have hna : a.length < 1099511627777 := by have := HN.out.1; omega
    have hnS : S.length < 1099511627777 := by have h1 := HN.out.2.1; have h2 := HS.out.2.2.2.2.2.2; omega
    by_cases hlt : k < a.length
    · obtain ⟨x, hx⟩ : ∃ x, a[k]? = some x := ⟨_, List.getElem?_eq_getElem hlt⟩
      have hxm := List.mem_of_getElem? hx
      obtain ⟨k1, k2, k3⟩ := HW.out wi hjm.keep
      obtain ⟨bA, oA, hA, hB, hxs⟩ := lies_up HL.out.1.head (by omega)
      obtain ⟨e0, e1, e2, e3, e4, e5⟩ := ((hxs k x hx).past_ k1 hB).six
      obtain ⟨V5, hV5, hb5, hs5, ho5⟩ := upbox wi x
      have hji := hjm.enter hb5 (Nat.le_refl _) ho5
      have hPQ : PB ≠ wi.heap.size := by obtain ⟨t, p⟩ := hjm.prod; have := p.own.inside; omega
      obtain ⟨m1, m2, m3⟩ := HW.out V5 hji.keep
      have hxi : ∀ W, Below PB w W → UIn W W.heap.size x := fun W hW => ((HL.out.1.each_ x hxm).past hW (Nat.le_refl _)).wide (Nat.le_trans (Nat.le_of_lt HV.out.2.2.2.1) hW.size)
      have hoku := HL.out.2.1 x hxm
      have hcu := chkUs_all.1 HL.out.2.2.1 x hxm
      have z1 := Lib.hid (searchJ_any w.heap.size wi.heap.size S x.key V5 HS.out.2.1 (by have h1 := HN.out.2.1; have h2 := HS.out.2.2.2.2.2.2; omega) (seeksJ_of m3 ho5 m2 (hxi V5 m1) hoku HS.out.2.2.2.1))
      have d5 := m3.at_ 0
      simp only [List.getElem?_cons_zero] at d5
      have HK := Lib.hid (And.intro hji (And.intro hPQ (And.intro hx (And.intro hxi (And.intro hoku hcu)))))
      have q0 : (0 : Int) ≤ (k : Int) := by omega
      have q1 : (k : Int) < (a.length : Int) := by omega
      have HA := Lib.hid hA
      rw [hA]
      clear hxm k1 k2 k3 hA hB hxs hb5 hs5 ho5 hji hPQ m1 m2 m3 hxi hoku hcu hx hjm
      go_upto_region 6 with fail
      rw [← hV5]
      clear hV5 e0 e1 e2 e3 e4 e5
      go_wp2_with fail
      refine z1.out.mono ?_
      rintro _ w6 ⟨rfl, b6⟩
      have hji6 := HK.out.1.past b6
      obtain ⟨m1, m2, m3⟩ := HW.out w6 hji6.keep
      clear d5 z1
      have d5 := m3.at_ 0
      simp only [List.getElem?_cons_zero] at d5
      obtain ⟨i, hi⟩ : ∃ i, seekB S x.key = i := ⟨_, rfl⟩
      have hin : i ≤ S.length := hi ▸ seek_len S x.key
      have HI := Lib.hid hi
      rw [hi]
      have H6 := Lib.hid (And.intro hji6 (And.intro m1 m2))
      clear b6 hji6 m1 m2 m3 hi
      by_cases hil : i < S.length
      · obtain ⟨g, o, hA1, hgB, hgs⟩ := lies_up H6.out.2.2.head (by omega)
        have hAo := hA1
        rw [hA1] at d5
        have hci : ¬ c1 = i := by have := H2.out.2.2.2.2.1; omega
        have hcl : S.length ≤ c1 := H2.out.2.2.2.2.1
        have hcm : c1 ≤ maxLen := H2.out.2.2.2.2.2
        have hlt2 : g < w2.heap.size := by
          obtain ⟨g', o', e, hB', _⟩ := lies_up HS.out.2.2.1 (by omega)
          rw [hA1] at e
          injection e with e
          injection e with e
          omega
        have HA1 := Lib.hid (And.intro hA1 hlt2)
        clear hgs hgB hA1 hAo hlt2
        go_wp2_with fail
        go_loopw [29] (fun v29 wq => ∃ (j : Nat) (why : Int) (v : Value) (M : List Up), v29 = .int .i64 (j : Int) ∧ j ≤ S.length - i ∧ JI w2 wq PB wi.heap.size a S k j x why v M)
          (fun v29 _ => S.length - i - (intOf v29).toNat)
        case atStart => exact ⟨0, why, v, M, rfl, Nat.zero_le _, H6.out.1⟩
        case round =>
          obtain ⟨j, why3, v3, M3, rfl, hj, hji⟩ := hrel
          have hxo := HK.out.2.2.2.2.1
          have hcx := HK.out.2.2.2.2.2
          have hkS := HS.out.2.1
          by_cases hjl : j < S.length - i
          · obtain ⟨y, hy⟩ : ∃ y, S[i + j]? = some y := ⟨_, List.getElem?_eq_getElem (by omega)⟩
            have hyd : (S.drop (seekB S x.key))[j]? = some y := by rw [HI.out, List.getElem?_drop]; exact hy
            have hym := List.mem_of_getElem? hy
            obtain ⟨k1, k2, k3⟩ := HW.out wr hji.keep
            obtain ⟨g', o', eA, hgB, hgs⟩ := lies_up k2.head (by omega)
            rw [HA1.out.1] at eA
            obtain ⟨rfl, rfl⟩ : g = g' ∧ o = o' := by injection eA with eA; injection eA with e1 e2; exact ⟨e1, e2⟩
            have hat : UAt wr g (o + i * 6 + j * 6) y := by
              have := hgs (i + j) y hy
              rwa [show o + (i + j) * 6 = o + i * 6 + j * 6 by omega] at this
            obtain ⟨e0, e1, e2, e3, e4, e5⟩ := hat.six
            obtain ⟨V9, hV9, hb9, hs9, ho9⟩ := upbox wr y
            have hj9 := hji.past hb9
            have hyi : ∀ W, Below PB w W → UIn W W.heap.size y := fun W hW => ((HS.out.2.2.2.2.2.1 y hym).past hW (Nat.le_refl _)).wide (Nat.le_trans (Nat.le_of_lt HV.out.2.2.2.1) hW.size)
            have hyo := HS.out.2.2.2.1 y hym
            have hcy := HS.out.2.2.2.2.1 y hym
            have k9 := (HW.out V9 hj9.keep).1
            have z1 := Lib.hid (bykey_gr x y V9 (HK.out.2.2.2.1 V9 k9) (hyi V9 k9) hxo hyo)
            obtain ⟨z, hz⟩ : ∃ z, cmpRows x.key y.key = z := ⟨_, rfl⟩
            rw [hz] at z1
            unfold Up.val at z1
            have hsw := row_lin.swap x.key y.key
            obtain ⟨f0, f1, f2, f3, f4, f5⟩ := own6 hj9.box
            obtain ⟨h0, h1, h2, h3, h4, h5⟩ := own6 ho9
            have H9 := Lib.hid (And.intro hj9 (And.intro ho9 (And.intro hyi (And.intro hyo (And.intro hcy (And.intro hyd (And.intro hz hsw)))))))
            have HJL := Lib.hid hjl
            have q4 : (0 : Int) ≤ (j : Int) := by omega
            have q5 : (j : Int) < ((S.length - i : Nat) : Int) := by omega
            clear hyd hym k1 k2 k3 hgB hgs hat hb9 hs9 ho9 hj9 hyi hyo hcy k9 hz hsw hji eA hy hxo hcx hkS
            go_upto_region 10 with fail
            rw [← hV9]
            clear hV9 e0 e1 e2 e3 e4 e5
            go_wp2_with fail
            refine z1.out.mono ?_
            rintro _ w10 ⟨rfl, g10⟩
            have hj10 := H9.out.1.past g10.below
            have ho10 := H9.out.2.1.past g10.below H9.out.2.1.inside
            clear g10 z1 f0 f1 f2 f3 f4 f5 h0 h1 h2 h3 h4 h5
            by_cases hz0 : z = 0
            · have t1 : (z != 0) = false := by simp [hz0]
              have hkey : cmpRows y.key x.key = 0 := by have h1 := H9.out.2.2.2.2.2.2.1; have h2 := H9.out.2.2.2.2.2.2.2; omega
              obtain ⟨t, hp⟩ := hj10.prod
              have k10 := (HW.out w10 hj10.keep).1
              have z2 := Lib.hid (pair_any PB t why3 v3 M3 x y w10 hp hj10.wy (HK.out.2.2.2.1 w10 k10) HK.out.2.2.2.2.1 HK.out.2.2.2.2.2 (H9.out.2.2.1 w10 k10) H9.out.2.2.2.1 H9.out.2.2.2.2.1 (by
                have h1 := hj10.len
                have h2 : (k + 1) * S.length ≤ a.length * S.length := Nat.mul_le_mul_right _ (by omega)
                rw [Nat.succ_mul] at h2
                have h3 := HN.out.2.2
                rw [HS.out.2.2.2.2.2.2] at h3
                have h4 := HJL.out
                omega))
              unfold PairPost at z2
              unfold Up.val at z2
              obtain ⟨f0, f1, f2, f3, f4, f5⟩ := own6 hj10.box
              obtain ⟨h0, h1, h2, h3, h4, h5⟩ := own6 ho10
              have H10 := Lib.hid (And.intro hj10 hkey)
              clear hkey hp k10 hj10 ho10 hz0
              go_wp2_with fail
              refine z2.out.mono ?_
              rintro _ w11 ⟨rfl, u, t', v', hu, hp', hk', hg'⟩
              have HNX := Lib.hid (JI.next H10.out.1 H9.out.2.2.2.2.2.1 H10.out.2 hu hp' hk' hg' HK.out.2.1)
              clear hu hp' hk' hg' z2 f0 f1 f2 f3 f4 f5 h0 h1 h2 h3 h4 h5
              go_wp2_with fail
              go_roundw
              case rel =>
                obtain ⟨why', M', hJ⟩ := HNX.out
                exact ⟨j + 1, why', v', M', by go_num, by have := HJL.out; omega, hJ⟩
              case measure => simp [intOf]; have := HJL.out; omega
            · have t1 : (z != 0) = true := bne_iff_ne.2 hz0
              have HLV := Lib.hid (hj10.leave HS.out.2.1 HK.out.2.2.1 (fun u hu => by
                have h0 := H9.out.2.2.2.2.2.1
                rw [h0] at hu
                injection hu with hu
                subst hu
                have h1 := H9.out.2.2.2.2.2.2.1; have h2 := H9.out.2.2.2.2.2.2.2; omega))
              clear hj10 ho10 hz0
              go_wp2_with fail
              go_roundw
              case rel => exact ⟨k + 1, why3, v3, M3, by go_num, by omega, HLV.out⟩
              case measure => simp [intOf]; omega
          · have hje : j = S.length - i := by omega
            have HLV := Lib.hid (hji.leave HS.out.2.1 HK.out.2.2.1 (fun u hu => by
              have h1 := (List.getElem?_eq_some_iff.1 hu).1
              rw [List.length_drop, HI.out] at h1
              omega))
            clear hji hjl hxo hcx hkS
            go_wp2_with fail
            go_roundw
            case rel => exact ⟨k + 1, why3, v3, M3, by go_num, by omega, HLV.out⟩
            case measure => simp [intOf]; omega
      · have hie : i = S.length := by omega
        have HLV := Lib.hid (H6.out.1.leave HS.out.2.1 HK.out.2.2.1 (fun u hu => by
          have h1 := (List.getElem?_eq_some_iff.1 hu).1
          rw [List.length_drop, HI.out] at h1
          omega))
        have hcl : S.length ≤ c1 := H2.out.2.2.2.2.1
        have hcm : c1 ≤ maxLen := H2.out.2.2.2.2.2
        have q6 : S.length - i = 0 := by omega
        have HIE := Lib.hid hie
        clear hil hie
        obtain ⟨q, hq⟩ : ∃ q : Prop, q = (c1 = i) := ⟨_, rfl⟩
        by_cases hci : c1 = i
        · have hcT : (c1 = i) = True := eq_true hci
          clear hci hq
          go_wp2_with fail
          go_loopw [29] (fun v29 wq => v29 = .int .i64 0 ∧ JM w2 wq PB a S (k + 1) why v M) (fun v29 _ => (intOf v29).toNat)
          case atStart => exact ⟨rfl, HLV.out⟩
          case round =>
            obtain ⟨rfl, hjm⟩ := hrel
            have HLV := Lib.hid hjm
            clear hjm
            go_wp2_with fail
            go_roundw
            case rel => exact ⟨k + 1, why, v, M, by go_num, by omega, HLV.out⟩
            case measure => simp [intOf]; omega
        · clear hq
          go_wp2_with fail
          go_loopw [29] (fun v29 wq => v29 = .int .i64 0 ∧ JM w2 wq PB a S (k + 1) why v M) (fun v29 _ => (intOf v29).toNat)
          case atStart => exact ⟨rfl, HLV.out⟩
          case round =>
            obtain ⟨rfl, hjm⟩ := hrel
            have HLV := Lib.hid hjm
            clear hjm
            go_wp2_with fail
            go_roundw
            case rel => exact ⟨k + 1, why, v, M, by go_num, by omega, HLV.out⟩
            case measure => simp [intOf]; omega
    · have hE : k = a.length := by omega
      have HJ := Lib.hid hjm
      clear hjm hlt
      go_wp2_with fail
      have hj := HJ.out
      rw [hE] at hj
      obtain ⟨t, hp⟩ := hj.prod
      have h1 := hj.ok
      have h2 := hj.made
      have h3 := hj.len
      rw [List.take_length] at h1 h2
      refine bodyPost_end (results_none rfl _ _ _) rfl ⟨rfl, t, why, v, M, hp, (PKeep.of_quiet H2.out.1).trans Grew.same hj.keep, fun j hj' => Nat.le_trans H2.out.1.size (hj.far j hj'), hj.wy, ?_, fun e => ?_, hj.chk, ?_⟩
      · rw [h1, okPairs_perm HS.out.1]
      · rw [h2 e]; exact pairsP_perm HS.out.1 a
      · rwa [← HS.out.2.2.2.2.2.2] at h3
def ChkE (left right : Sp) (port : Int) (l : List Up) (E : Int) : Prop :=
  ¬ (SpGood left.f left.L ∧ SpGood right.f right.L) ∧ E = 8 ∨ (SpGood left.f left.L ∧ SpGood right.f right.L) ∧ (¬ (port = 0 ∨ port = 1) ∧ E = 1 ∨ (port = 0 ∨ port = 1) ∧ E = chkUs l)
theorem code8_of (P : Prop) : ∃ n : Int, P ∧ n = 0 ∨ ¬ P ∧ n = 8 := by
  by_cases h : P
  · exact ⟨0, .inl ⟨h, rfl⟩⟩
  · exact ⟨8, .inr ⟨h, rfl⟩⟩
theorem two_spJ (w : World) (a b : Sp) : ∃ V, V = (w.alloc (.cells #[.slice a.sA a.f.length a.sc, .slice a.lA a.L.length a.lc] 36)).alloc (.cells #[.slice b.sA b.f.length b.sc, .slice b.lA b.L.length b.lc] 36) ∧ Below w.heap.size w V ∧ Own V w.heap.size 36 a.cells ∧ Own V (w.heap.size + 1) 36 b.cells := by
  obtain ⟨V1, e1, b1, s1, o1⟩ := spbox w a
  obtain ⟨V2, e2, b2, s2, o2⟩ := spbox V1 b
  exact ⟨V2, by rw [e2, e1], belows b1 b2, o1.past b2 o1.inside, by rw [← s1]; exact o2⟩
set_option maxRecDepth 100000 in
set_option maxHeartbeats 12800000 in
theorem jcheck_any (left right : Sp) (port : Int) (A : Option Addr) (c : Nat) (l : List Up) (w : World) (hL : SpIn w w.heap.size left) (oL : SpOk left) (hR : SpIn w w.heap.size right) (oR : SpOk right) (hl : Ups w w.heap.size A l) (ol : ∀ u ∈ l, UOk u) (hn : l.length ≤ 1099511627776) :
    Calls Tryz.prog 27 #[left.val, right.val, .int .i64 port, .slice A l.length c] w fun e w' => ∃ E : Int, e = .returned (.int .i64 E) ∧ ChkE left right port l E ∧ Below w.heap.size w w' := by
  obtain ⟨V, hV, hvb, hv1, hv2⟩ := two_spJ w left right
  obtain ⟨n1, hn1⟩ := code8_of (SpGood left.f left.L)
  obtain ⟨n2, hn2⟩ := code8_of (SpGood right.f right.L)
  have z1 := fun W (h : Below V.heap.size V W) => Lib.hid ((scheck_any left W ((hL.keep hvb).keep h) oL).mono fun x w' k => codes_is hn1 k)
  have z2 := fun W (h : Below V.heap.size V W) => Lib.hid ((scheck_any right W ((hR.keep hvb).keep h) oR).mono fun x w' k => codes_is hn2 k)
  have z3 := fun W g p q h0 h1 => Lib.hid (orE2_any g p q W h0 h1)
  have z4 := fun W (h : Below V.heap.size V W) => Lib.hid (dcheck_any A c l W ((hl.keep hvb).keep h) (by omega) ol)
  have hX := Lib.hid (fun W (h : Below V.heap.size V W) => And.intro (own2 (hv1.past h hv1.inside)) (own2 (hv2.past h hv2.inside)))
  obtain ⟨d0, d1⟩ := own2 hv1
  obtain ⟨e0, e1⟩ := own2 hv2
  have hself := Below.refl V.heap.size V
  have H := Lib.hid (And.intro hvb (And.intro hn1 hn2))
  obtain ⟨cl, hcl⟩ : ∃ cl, chkUs l = cl := ⟨_, rfl⟩
  simp only [hcl] at z4
  have HC := Lib.hid hcl
  rw [show left.val = .agg #[.slice left.sA left.f.length left.sc, .slice left.lA left.L.length left.lc] from rfl, show right.val = .agg #[.slice right.sA right.f.length right.sc, .slice right.lA right.L.length right.lc] from rfl]
  rw [show left.val = .agg #[.slice left.sA left.f.length left.sc, .slice left.lA left.L.length left.lc] from rfl] at z1
  rw [show right.val = .agg #[.slice right.sA right.f.length right.sc, .slice right.lA right.L.length right.lc] from rfl] at z2
  clear hL oL hR oR hl ol hvb hv1 hv2 hn1 hn2 hcl
  go_enter Tryz.func27, Tryz.ntmps27
  go_upto_region 1 with fail
  rw [← hV]
  clear hV
  go_cut [9] (fun s9 wx => s9 = .int .i64 (orI n1 n2) ∧ Below V.heap.size V wx)
  case first =>
    go_region_with (first
      | (go_at_call 19; refine (z3 _ w2.heap.size n1 n2 ((Own.made w2 27 [.int .i64 n1, .int .i64 n2]).at_ 0) ((Own.made w2 27 [.int .i64 n1, .int .i64 n2]).at_ 1)).out.mono ?_; rintro _ w3 ⟨rfl, rfl⟩)
      | (go_at_call 36; with_reducible refine (z1 _ hself.drew).out.mono ?_; rintro _ w1 ⟨rfl, b1⟩; have hb1 := belows hself.drew b1; obtain ⟨⟨f0, f1⟩, g0, g1⟩ := hX.out w1 hb1)
      | (go_at_call 36; with_reducible refine (z2 _ hb1).out.mono ?_; rintro _ w2 ⟨rfl, b2⟩; have hb2 := belows hb1 b2))
    all_goals
      go_wp2_with fail
      go_meet
      exact ⟨rfl, hb2.trans (((Below.refl _ _).alloc (Nat.le_refl _) _).mono hb2.size)⟩
  case rest =>
    obtain ⟨rfl, hb⟩ := hcut
    obtain ⟨K, hK⟩ : ∃ K, orI n1 n2 = K := ⟨_, rfl⟩
    have HK := Lib.hid (show K = 0 ∧ SpGood left.f left.L ∧ SpGood right.f right.L ∨ K = 8 ∧ ¬ (SpGood left.f left.L ∧ SpGood right.f right.L) from by
      rw [← hK]
      unfold orI
      rcases H.out.2.1 with ⟨h1, e1⟩ | ⟨h1, e1⟩
      · rcases H.out.2.2 with ⟨h2, e2⟩ | ⟨h2, e2⟩
        · exact .inl ⟨by rw [e1, e2]; rfl, h1, h2⟩
        · exact .inr ⟨by rw [e1, e2]; rfl, fun h => h2 h.2⟩
      · exact .inr ⟨by rw [e1]; rfl, fun h => h1 h.1⟩)
    rw [hK]
    have HB := Lib.hid (And.intro hb (belows H.out.1 hb))
    clear hK hb d0 d1 e0 e1 z1 z2 z3
    by_cases hK0 : K = 0
    case neg =>
      have t1 : (K != 0) = true := bne_iff_ne.2 hK0
      have HN := Lib.hid (show K = 8 ∧ ¬ (SpGood left.f left.L ∧ SpGood right.f right.L) from by
        rcases HK.out with h | h
        · exact absurd h.1 hK0
        · exact h)
      clear hK0
      go_wp2_with fail
      go_ret
      exact ⟨K, rfl, .inl ⟨HN.out.2, HN.out.1⟩, HB.out.2⟩
    subst hK0
    have HG := Lib.hid (show SpGood left.f left.L ∧ SpGood right.f right.L from by
      rcases HK.out with h | h
      · exact h.2
      · exact absurd h.1 (by decide))
    by_cases hp : port = 0 ∨ port = 1
    · have y4 := z4 wc HB.out.1
      rcases hp with rfl | rfl
      · go_wp2_with fail
        refine y4.out.mono ?_
        rintro _ w5 ⟨rfl, b5⟩
        have HF := Lib.hid (belows HB.out.2 b5)
        clear b5 y4
        go_wp2_with fail
        go_ret
        exact ⟨cl, rfl, .inr ⟨HG.out, .inr ⟨.inl rfl, HC.out.symm⟩⟩, HF.out⟩
      · go_wp2_with fail
        refine y4.out.mono ?_
        rintro _ w5 ⟨rfl, b5⟩
        have HF := Lib.hid (belows HB.out.2 b5)
        clear b5 y4
        go_wp2_with fail
        go_ret
        exact ⟨cl, rfl, .inr ⟨HG.out, .inr ⟨.inr rfl, HC.out.symm⟩⟩, HF.out⟩
    · have t2 : (port != 0) = true := bne_iff_ne.2 fun h => hp (.inl h)
      have t3 : (port != 1) = true := bne_iff_ne.2 fun h => hp (.inr h)
      have HP := Lib.hid hp
      clear hp z4
      go_wp2_with fail
      go_ret
      exact ⟨1, rfl, .inr ⟨HG.out, .inl ⟨HP.out, rfl⟩⟩, HB.out.2⟩
def FailAllS (PB : Nat) (t0 : Tm) (why : Int) (v : Value) (l : List Up) (w : World) (x : Ending) (w' : World) : Prop :=
  x = .returned (.tuple #[]) ∧ ∃ (t : Tm) (y : Int), OwnP w' PB [.int .u64 (t.e : Int), .int .u64 (t.a : Int), .int .u64 (t.b : Int), .int .i64 y, v] ∧ (y = 10 ∨ l = [] ∧ y = why ∧ t = t0) ∧ PKeep w w' PB (.slice none 0 0)
theorem pk_past {w W X : World} {PB : Nat} (h : PKeep w W PB (.slice none 0 0)) (hb : Below W.heap.size W X) (hP : w.heap.size ≤ W.heap.size) : PKeep w X PB (.slice none 0 0) :=
  ⟨hb.os.trans h.os, hb.tape.trans h.tape, hb.output.trans h.output, Nat.le_trans h.size hb.size, fun k hk h1 h2 => (hb.block k (Nat.lt_of_lt_of_le hk hP)).trans (h.block k hk h1 h2)⟩
set_option maxRecDepth 100000 in
set_option maxHeartbeats 6400000 in
theorem failAll_any (PB : Nat) (t0 : Tm) (why : Int) (v : Value) (A : Option Addr) (c : Nat) (l : List Up) (w : World) (h : OwnP w PB [.int .u64 (t0.e : Int), .int .u64 (t0.a : Int), .int .u64 (t0.b : Int), .int .i64 why, v]) (hw : why = 0 ∨ why = 10) (hl : Lies 6 Up.cells w PB A l) (hPw : PB < w.heap.size) (hn : l.length ≤ 1099511627776) :
    Calls Tryz.prog 31 #[.pointer (some ⟨PB, 0, none⟩), .slice A l.length c] w (FailAllS PB t0 why v l w) := by
  have H := Lib.hid (And.intro h (And.intro hw hl))
  clear h hw hl
  go_enter Tryz.func31, Tryz.ntmps31
  go_wp2_with fail
  go_loopw [8] (fun i wr => ∃ (k : Nat) (t : Tm) (y : Int), i = .int .i64 (k : Int) ∧ k ≤ l.length ∧ OwnP wr PB [.int .u64 (t.e : Int), .int .u64 (t.a : Int), .int .u64 (t.b : Int), .int .i64 y, v] ∧ (k = 0 ∧ (y = why ∧ t = t0) ∨ y = 10) ∧ PKeep w wr PB (.slice none 0 0))
    (fun i _ => l.length - (intOf i).toNat)
  case atStart => exact ⟨0, t0, why, rfl, Nat.zero_le _, H.out.1, .inl ⟨rfl, rfl, rfl⟩, PKeep.refl⟩
  case round =>
    obtain ⟨k, t, y, rfl, hk, ho, hy, hp⟩ := hrel
    by_cases hlt : k < l.length
    · obtain ⟨u, hu⟩ : ∃ u, l[k]? = some u := ⟨_, List.getElem?_eq_getElem hlt⟩
      obtain ⟨b, o, hA, hB, hc⟩ := lies_up H.out.2.2 (by omega)
      have hcell : ∀ j, wr.cell? ⟨b, j, none⟩ = w.cell? ⟨b, j, none⟩ := fun j => by
        unfold World.cell?
        rw [hp.block b (by omega) (by omega) (by simp [Value.ownBlock])]
      obtain ⟨c0, c1, c2, c3, c4, c5⟩ := (hc k u hu).six
      rw [← hcell] at c0 c1 c2 c3 c4 c5
      obtain ⟨V5, hV5, hs5, bb5, o5⟩ := boxd wr [.slice u.kA u.key.length u.kc, .slice u.rA u.row.length u.rc, .int .u64 (u.t.e : Int), .int .u64 (u.t.a : Int), .int .u64 (u.t.b : Int), .int .i64 u.d] 49
      have z1 := Lib.hid (failL_any PB t y v u.t V5 (ho.past bb5 ho.inside) (by
        rcases hy with ⟨_, e, _⟩ | e
        · rw [e]; exact H.out.2.1
        · exact .inr e))
      have HK := Lib.hid (pk_past hp bb5 hp.size)
      have q0 : (0 : Int) ≤ (k : Int) := by omega
      have q1 : (k : Int) < (l.length : Int) := by omega
      obtain ⟨d0, d1, d2, d3, d4, d5⟩ := own6 o5
      rw [hA]
      clear ho hy hp hu hc hcell hA hB bb5 hs5 o5
      go_upto_region 3 with fail
      rw [← hV5]
      clear hV5 c0 c1 c2 c3 c4 c5
      go_wp2_with fail
      refine z1.out.mono ?_
      rintro _ w6 ⟨rfl, t6, o6, p6⟩
      have HN := Lib.hid (And.intro o6 (PKeep.trans HK.out (.inl rfl) p6))
      clear o6 p6 z1 d0 d1 d2 d3 d4 d5
      go_wp2_with fail
      go_roundw
      case rel => exact ⟨k + 1, t6, 10, by go_num, by omega, HN.out.1, .inr rfl, HN.out.2⟩
      case measure => simp [intOf]; omega
    · have hkn : k = l.length := by omega
      subst hkn
      have hn1 : ¬ ((l.length : Int) < (l.length : Int)) := by omega
      have HF := Lib.hid (And.intro ho (And.intro (show y = 10 ∨ l = [] ∧ y = why ∧ t = t0 from by
        rcases hy with ⟨e1, e2⟩ | e
        · exact .inr ⟨List.eq_nil_of_length_eq_zero e1, e2⟩
        · exact .inl e) hp))
      clear ho hy hp hk hlt
      go_wp2_with fail
      refine bodyPost_end (results_none rfl _ _ _) rfl ⟨rfl, t, y, HF.out.1, HF.out.2.1, HF.out.2.2⟩
def fitP (l : List (Uk × Int)) : Bool := (asm Uk.cmp l).all fun x => fits x.2
theorem okPairs_right {a b : List Up} (ca : chkUs a = 0) (cb : chkUs b = 0) (h : okPairs a b = true) : ∀ q ∈ pairsP a b, UkR q.1 := fun q hq => by
  obtain ⟨x, hx, hq⟩ := List.mem_flatMap.1 hq
  obtain ⟨y, hy, rfl⟩ := List.mem_map.1 hq
  have h1 := List.all_eq_true.1 (List.all_eq_true.1 h x hx) y hy
  unfold goodP at h1
  rw [Bool.and_eq_true, decide_eq_true_eq] at h1
  exact joinP_right (chkUs_all.1 ca x hx) (chkUs_all.1 cb y (List.mem_filter.1 hy).1) h1.1
def PairsSays (a b : List Up) (w : World) (x : Ending) (w' : World) : Prop :=
  ∃ A c, ∃ outL : List Up, ∃ t : Tm, ∃ E : Int, x = .returned (.tuple #[.slice A outL.length c, .agg #[.int .u64 (t.e : Int), .int .u64 (t.a : Int), .int .u64 (t.b : Int)], .int .i64 E]) ∧ (E = 0 ↔ chkUs a = 0 ∧ chkUs b = 0 ∧ okPairs a b = true ∧ fitP (pairsP a b) = true) ∧
    (E = 0 → outL.map Up.p = nz Uk.cmp (pairsP a b) ∧ t = ⟨0, 0, 0⟩) ∧ Ups w' w'.heap.size A outL ∧ (∀ u ∈ outL, UOk u) ∧ Below w.heap.size w w' ∧ (∀ b o, A = some ⟨b, o, none⟩ → w.heap.size ≤ b) ∧ (∀ u ∈ outL, Awn (fun b => w.heap.size ≤ b) u) ∧ outL.length ≤ a.length * b.length
theorem fitU_pairs {M : List Up} {P : List (Uk × Int)} (hM : ∀ u ∈ M, chkU u = 0) (hP : ∀ q ∈ P, UkR q.1) (h : (M.map Up.p).Perm P) : fitU M = fitP P ∧ nz Uk.cmp (M.map Up.p) = nz Uk.cmp P := by
  have hr := keys_right hM
  have hs : ∀ k, sumOf Uk.cmp (M.map Up.p) k = sumOf Uk.cmp P k := fun k => sumOf_perm h k
  refine ⟨?_, nz_ext uk_lin (R := UkR) hr hP hs⟩
  have := (resL_ext uk_lin (R := UkR) hr hP hs).2
  unfold resE at this
  unfold fitU fitP
  rw [Bool.eq_iff_iff]
  constructor <;> intro h1
  · rw [if_pos h1] at this
    apply Decidable.byContradiction
    intro h2
    rw [if_neg h2] at this
    cases this
  · rw [if_pos h1] at this
    apply Decidable.byContradiction
    intro h2
    rw [if_neg h2] at this
    cases this
theorem jbox (w : World) : ∃ V, V = w.alloc (.cells #[.int .u64 0, .int .u64 0, .int .u64 0, .int .i64 0, .slice none 0 0] 70) ∧ Below w.heap.size w V ∧ V.heap.size = w.heap.size + 1 ∧ Prod V w.heap.size ⟨0, 0, 0⟩ 0 (.slice none 0 0) [] := by
  obtain ⟨W, e1, s1, b1, o1⟩ := boxd w [.int .u64 0, .int .u64 0, .int .u64 0, .int .i64 0, .slice none 0 0] 70
  exact ⟨W, e1, b1, s1, ⟨⟨_, o1⟩, World.ownsRow_nil _ _ _ _, (fun u hu => by cases hu), fun _ => rfl⟩⟩
set_option maxRecDepth 100000 in
set_option maxHeartbeats 6400000 in
theorem pairs_any (A : Option Addr) (c : Nat) (a : List Up) (B : Option Addr) (d : Nat) (b : List Up) (w : World) (ha : Ups w w.heap.size A a) (oa : ∀ u ∈ a, UOk u) (hb : Ups w w.heap.size B b) (ob : ∀ u ∈ b, UOk u) (na : a.length ≤ 1099511627776) (nb : b.length ≤ 1099511627776) (hn : a.length * b.length ≤ 1099511627776) :
    Calls Tryz.prog 8 #[.slice A a.length c, .slice B b.length d] w (PairsSays a b w) := by
  obtain ⟨V, hV, hVb, hVs, hVo⟩ := zboxL w
  have y1 := Lib.hid (dcheck_any A c a V (ha.keep hVb) (by omega) oa)
  have y2 := fun W (h : Below V.heap.size V W) => Lib.hid (dcheck_any B d b W ((hb.keep hVb).keep h) (by omega) ob)
  have y3 := fun W g p q h0 h1 => Lib.hid (orE2_any g p q W h0 h1)
  obtain ⟨Ea, hEa⟩ : ∃ E, chkUs a = E := ⟨_, rfl⟩
  obtain ⟨Eb, hEb⟩ : ∃ E, chkUs b = E := ⟨_, rfl⟩
  rw [hEa] at y1
  simp only [hEb] at y2
  have HL := Lib.hid (And.intro ha (And.intro oa (And.intro hb (And.intro ob (And.intro hEa hEb)))))
  have HN := Lib.hid (And.intro na (And.intro nb hn))
  have HV := Lib.hid (And.intro hVb (And.intro hVo hVs))
  clear ha oa hb ob na nb hn hVb hVo hVs hEa hEb
  go_enter Tryz.func8, Tryz.ntmps8
  go_upto_region 1 with fail
  rw [← hV]
  clear hV
  go_wp2_with fail
  refine y1.out.mono ?_
  rintro _ w1 ⟨rfl, b1⟩
  have H1 := Lib.hid b1
  clear b1 y1
  go_wp2_with fail
  refine (y2 _ H1.out).out.mono ?_
  rintro _ w2 ⟨rfl, b2⟩
  obtain ⟨V3, hV3, hb3, hs3, hc0, hc1⟩ : ∃ V3, V3 = w2.alloc (.cells #[.int .i64 Ea, .int .i64 Eb] 27) ∧ Below w2.heap.size w2 V3 ∧ V3.heap.size = w2.heap.size + 1 ∧ V3.cell? ⟨w2.heap.size, 0, none⟩ = some (.int .i64 Ea) ∧ V3.cell? ⟨w2.heap.size, 1, none⟩ = some (.int .i64 Eb) := by
    obtain ⟨W, e1, s1, b1, o1⟩ := boxd w2 [.int .i64 Ea, .int .i64 Eb] 27
    exact ⟨W, e1, b1, s1, o1.at_ 0, o1.at_ 1⟩
  have z3 := Lib.hid ((y3 V3 w2.heap.size Ea Eb hc0 hc1).out)
  have hbV3 : Below V.heap.size V V3 := belows (belows H1.out b2) hb3
  have H3 := Lib.hid (And.intro (belows HV.out.1 hbV3) (HV.out.2.1.past hbV3 HV.out.2.1.inside))
  have hsz := H3.out.1.size
  clear b2 hb3 hs3 hc0 hc1 hbV3 y2 y3
  go_wp2_with fail
  rw [← hV3]
  clear hV3
  refine z3.out.mono ?_
  rintro _ w4 ⟨rfl, rfl⟩
  obtain ⟨K, hK⟩ : ∃ K, orI Ea Eb = K := ⟨_, rfl⟩
  have HK := Lib.hid (show K = 0 ↔ Ea = 0 ∧ Eb = 0 by rw [← hK]; unfold orI; by_cases h : Ea = 0 <;> simp [h])
  rw [hK]
  clear hK z3
  have hRo := H3.out.2
  by_cases hK0 : K = 0
  case neg =>
    have t1 : (K != 0) = true := bne_iff_ne.2 hK0
    obtain ⟨X, hX, hXo, hXk, hXs⟩ := own_three hRo (.int .u64 0) (.int .u64 0) (.int .u64 0)
    have hbX : Below w.heap.size w X := H3.out.1.trans (hXk.below hsz (Nat.le_refl _) (fun k e => by simp [Value.ownBlock] at e))
    have z0 := hRo.at_ 0
    have z1 := hRo.at_ 1
    have z2 := hRo.at_ 2
    have f0 := hRo.open_ 0
    have f1 := hRo.open_ 1
    have f2 := hRo.open_ 2
    have x0 := hXo.at_ 0
    have x1 := hXo.at_ 1
    have x2 := hXo.at_ 2
    simp only [List.getElem?_cons_zero, List.getElem?_cons_succ] at z0 z1 z2 x0 x1 x2
    have HB := Lib.hid hbX
    have HK0 := Lib.hid hK0
    clear hXo hXk hXs hbX hK0 hRo
    go_wp2_with fail
    rw [← hX]
    clear hX
    exact bodyPost_ret (v := .tuple #[.slice none 0 0, .agg #[.int .u64 0, .int .u64 0, .int .u64 0], .int .i64 K]) (by simp [results, Tryz.results8, go_sem, x0, x1, x2]) rfl
      ⟨none, 0, [], ⟨0, 0, 0⟩, K, rfl, ⟨fun e => absurd e HK0.out, fun e => absurd (HK.out.2 ⟨HL.out.2.2.2.2.1.symm.trans e.1, HL.out.2.2.2.2.2.symm.trans e.2.1⟩) HK0.out⟩, fun e => absurd e HK0.out, ⟨Lies.nil_, fun u hu => (by cases hu)⟩, fun u hu => (by cases hu), HB.out, fun b o e => (by cases e), fun u hu => (by cases hu), Nat.zero_le _⟩
  subst hK0
  obtain ⟨hea, heb⟩ := HK.out.1 rfl
  have hca : chkUs a = 0 := HL.out.2.2.2.2.1.trans hea
  have hcb : chkUs b = 0 := HL.out.2.2.2.2.2.trans heb
  obtain ⟨V5, hV5, hb5, hs5, hp5⟩ := jbox V3
  have hb05 : Below w.heap.size w V5 := belows H3.out.1 hb5
  have z5 := Lib.hid (match_any V3.heap.size A c a B d b V5 hp5 ((HL.out.1.past hb05 (Nat.le_refl _)).wide hsz) HL.out.2.1 hca ((HL.out.2.2.1.past hb05 (Nat.le_refl _)).wide hsz) HL.out.2.2.2.1 hcb HN.out.1 HN.out.2.1 HN.out.2.2)
  have H5 := Lib.hid (And.intro hb05 (And.intro (hRo.past hb5 hRo.inside) (And.intro hs5 (And.intro hca hcb))))
  clear hb5 hs5 hp5 hb05 hRo hca hcb hea heb
  go_upto_region 5 with fail
  rw [← hV5]
  clear hV5
  go_wp2_with fail
  refine z5.out.mono ?_
  rintro _ w6 ⟨rfl, t6, why, v, M, hp6, hk6, hf6, hy6, ho6, hm6, hc6, hn6⟩
  have z6 := Lib.hid (lend_any V3.heap.size t6 why v M w6 hp6 hy6 hc6 (Nat.le_trans hn6 HN.out.2.2))
  unfold EndSays at z6
  have hr6 : Own w6 w.heap.size 26 [.int .u64 0, .int .u64 0, .int .u64 0] := (hk6.block _ H5.out.2.1.inside (by have := H3.out.2.inside; omega) (by simp [Value.ownBlock])).trans H5.out.2.1
  have hb6 : Below w.heap.size w w6 := H5.out.1.trans (hk6.below (by have := H5.out.1.size; omega) hsz (by simp [Value.ownBlock]))
  have hlate : ∀ j, v.ownBlock = some j → w.heap.size < j := fun j hj => by have h1 := hf6 j hj; have h2 := H5.out.2.2.1; omega
  have hw4 := H3.out.2.inside
  have H6 := Lib.hid (And.intro hr6 (And.intro hb6 (And.intro hlate (And.intro ho6 (And.intro hm6 (And.intro hc6 (And.intro hn6 hw4)))))))
  clear hp6 hk6 hf6 hy6 ho6 hm6 hc6 hn6 hr6 hb6 hlate z5 hw4
  go_wp2_with fail
  refine z6.out.mono ?_
  rintro _ w7 ⟨A7, c7, outL, t7, E, rfl, hE7, hEi, hEo, hu7, hok7, hk7, hA7, hlo7, hln7⟩
  have hR7 : Own w7 w.heap.size 26 [.int .u64 0, .int .u64 0, .int .u64 0] := (hk7.block _ H6.out.1.inside (by have := H6.out.2.2.2.2.2.2.2; omega) (fun e => by have := H6.out.2.2.1 _ e; omega)).trans H6.out.1
  obtain ⟨X, hX, hXo, hXk, hXs⟩ := own_three hR7 (.int .u64 (t7.e : Int)) (.int .u64 (t7.a : Int)) (.int .u64 (t7.b : Int))
  have hb67 : Below w.heap.size w w7 := H6.out.2.1.trans (hk7.below H6.out.2.1.size (Nat.le_of_lt H6.out.2.2.2.2.2.2.2) (fun j hj => Nat.le_of_lt (H6.out.2.2.1 j hj)))
  have hbX : Below w.heap.size w X := hb67.trans (hXk.below hb67.size (Nat.le_refl _) (fun k e => by simp [Value.ownBlock] at e))
  have hsz6 : w.heap.size < w6.heap.size := H6.out.1.inside
  have huX : Ups X X.heap.size A7 outL := ⟨lies_pk hu7.head hXk (fun _ g o e => ⟨by have := hA7 g o e; omega, by simp [Value.ownBlock]⟩), fun u hu => uin_pk (hu7.each_ u hu) ((hlo7 u hu).imp fun j hj => ⟨by omega, by simp [Value.ownBlock]⟩) hXk⟩
  have HX := Lib.hid (And.intro hbX (And.intro huX (And.intro hok7 (And.intro (fun g o e => Nat.le_trans (Nat.le_of_lt hsz6) (hA7 g o e)) (And.intro (fun u hu => (hlo7 u hu).imp fun j hj => Nat.le_trans (Nat.le_of_lt hsz6) hj) (And.intro hEi (And.intro hEo hln7)))))))
  have z0 := hR7.at_ 0
  have z1 := hR7.at_ 1
  have z2 := hR7.at_ 2
  have f0 := hR7.open_ 0
  have f1 := hR7.open_ 1
  have f2 := hR7.open_ 2
  have x0 := hXo.at_ 0
  have x1 := hXo.at_ 1
  have x2 := hXo.at_ 2
  simp only [List.getElem?_cons_zero, List.getElem?_cons_succ] at z0 z1 z2 x0 x1 x2
  clear hEi hEo hu7 hok7 hk7 hA7 hlo7 hln7 hR7 hXo hXk hXs hb67 hbX hsz6 huX z6 hE7
  go_wp2_with fail
  rw [← hX]
  clear hX
  have hcc := H5.out.2.2.2
  have hfm : why = 0 → fitU M = fitP (pairsP a b) ∧ nz Uk.cmp (M.map Up.p) = nz Uk.cmp (pairsP a b) := fun e => fitU_pairs H6.out.2.2.2.2.2.1 (okPairs_right hcc.1 hcc.2 (H6.out.2.2.2.1.1 e)) (H6.out.2.2.2.2.1 e)
  refine bodyPost_ret (v := .tuple #[.slice A7 outL.length c7, .agg #[.int .u64 (t7.e : Int), .int .u64 (t7.a : Int), .int .u64 (t7.b : Int)], .int .i64 E]) (by simp [results, Tryz.results8, go_sem, x0, x1, x2]) rfl
    ⟨A7, c7, outL, t7, E, rfl, ?_, fun e => ?_, HX.out.2.1, HX.out.2.2.1, HX.out.1, HX.out.2.2.2.1, HX.out.2.2.2.2.1, Nat.le_trans HX.out.2.2.2.2.2.2.2 H6.out.2.2.2.2.2.2.1⟩
  · rw [HX.out.2.2.2.2.2.1]
    constructor
    · rintro ⟨e1, e2⟩
      exact ⟨hcc.1, hcc.2, H6.out.2.2.2.1.1 e1, by rw [← (hfm e1).1]; exact e2⟩
    · rintro ⟨_, _, e3, e4⟩
      have e1 := H6.out.2.2.2.1.2 e3
      exact ⟨e1, by rw [(hfm e1).1]; exact e4⟩
  · obtain ⟨e1, e2⟩ := HX.out.2.2.2.2.2.2.1 e
    exact ⟨by rw [e1]; exact (hfm (HX.out.2.2.2.2.2.1.1 e).1).2, e2⟩
def CopyBC (b : Bt) (w : World) (x : Ending) (w' : World) : Prop := ∃ b' : Bt, x = .returned b'.val ∧ BtSame b b' ∧ BtIn w' w'.heap.size b' ∧ BtOk b' ∧ BtLo w.heap.size b' ∧ Below w.heap.size w w' ∧ b'.uc = b'.l.length
set_option maxRecDepth 100000 in
set_option maxHeartbeats 6400000 in
theorem copyB_anyC (b : Bt) (w : World) (hb : BtIn w w.heap.size b) (hok : BtOk b) (h8 : chkUs b.l = 0) (hn : b.l.length ≤ 274877906944) :
    Calls Tryz.prog 63 #[b.val] w (CopyBC b w) := by
  obtain ⟨V, hV, hvb, hvo, hvz⟩ := bt_box2 w b
  have hin := hb.keep hvb
  have hfn := hok.f.n
  have y1 := fun W (h : Bl V W) => Lib.hid (listT_times b.sA b.sc b.f W (hin.keep h).since (by omega))
  have y2 := fun W (h : Bl V W) => Lib.hid (copyUps_any b.uA b.uc b.l W (hin.keep h).ups hok.l h8 hn)
  have hB := hvz.inside
  have HS := Lib.hid (fun W (h : Bm (w.heap.size + 1) V W) => own2 (hvo.past h (Nat.lt_succ_self _)))
  have HZ := Lib.hid (fun W (h : Bl V W) => hvz.past h hvz.inside)
  have HB := Lib.hid hvb
  have HOK := Lib.hid hok
  have hself := Bl.refl V
  obtain ⟨d0, d1⟩ := own2 hvo
  rw [show b.val = .agg #[.slice b.sA b.f.length b.sc, .slice b.uA b.l.length b.uc] from rfl]
  have hbs : w.heap.size + 1 ≤ V.heap.size := Nat.le_of_lt hB
  have HP := Lib.hid (show ∀ x w' (b' : Bt), x = .returned b'.val → BtSame b b' → BtIn w' w'.heap.size b' → BtOk b' → BtLo w.heap.size b' → Below w.heap.size w w' → b'.uc = b'.l.length → CopyBC b w x w' from fun x w' b' h1 h2 h3 h4 h5 h6 h7 => ⟨b', h1, h2, h3, h4, h5, h6, h7⟩)
  clear hb hok hvb hvo hvz hin h8 hn hfn
  go_enter Tryz.func63, Tryz.ntmps63
  go_upto_region 1 with fail
  rw [← hV]
  clear hV
  go_region_held3 (fun w' => Bm (w.heap.size + 1) V w' ∧ (w'.cell? ⟨w.heap.size, 0, none⟩ = some (.slice b.sA b.f.length b.sc) ∧ w'.cell? ⟨w.heap.size, 1, none⟩ = some (.slice b.uA b.l.length b.uc)))
    ((refine (fun h => And.intro h (HS.out _ h)) ?_; repeat (first | with_reducible exact Bm.of hb2 hbs | with_reducible exact Bm.of hb1 hbs | with_reducible exact Bm.of hself hbs | with_reducible refine Bm.set ?_ (Nat.le_refl _) _ _ | with_reducible refine Bm.more ?_ hbs _ | with_reducible refine Bm.drew ?_)))
    (first | (go_at_call 97; have hq := hb1; refine (y2 _ hb1).out.mono ?_; rintro _ w2 ⟨A2, l2, rfl, p2, v2, o2, n2, b2, r2⟩; have hb2 : Bl V w2 := Bl.call hb1 b2; have v1 := tms_keep v1 b2; have f0 := (HZ.out _ hb2).open_ 0; have f1 := (HZ.out _ hb2).open_ 1; obtain ⟨e0, e1⟩ := own2 (HZ.out _ hb2)) | (go_at_call 39; refine (y1 _ hself.drew).out.mono ?_; rintro _ w1 ⟨A1, rfl, v1, n1, b1⟩; have hb1 : Bl V w1 := Bl.call hself.drew b1))
  have hX := ((HZ.out _ hb2).set_ 0 (.slice A1 b.f.length b.f.length)).set_ 1 (.slice A2 l2.length l2.length)
  obtain ⟨s1, s2⟩ := set2_other w2 (w.heap.size + 1) (.slice A1 b.f.length b.f.length) (.slice A2 l2.length l2.length)
  have hn1 : V.heap.size ≤ w1.heap.size := hb1.below.size
  have hlen := len_p p2
  have hbX := (HB.out.trans (hb2.below.mono HB.out.size)).setCell (p := ⟨w.heap.size + 1, 0, none⟩) (Nat.le_succ _) (.slice A1 b.f.length b.f.length) |>.setCell (p := ⟨w.heap.size + 1, 1, none⟩) (Nat.le_succ _) (.slice A2 l2.length l2.length)
  have HF := Lib.hid (And.intro (times_other v1 (fun b o e => by have h1 := (n1 b o e).1; simp at h1; omega) s1 s2) (And.intro (ups_other v2 (n2.mono (by omega)) s1 s2) (And.intro p2 (And.intro o2 (And.intro hbX hlen)))))
  have HN := Lib.hid (And.intro (fun b o (e : A1 = some ⟨b, o, none⟩) => (show w.heap.size ≤ b by have h1 := (n1 b o e).1; simp at h1; omega)) (n2.mono (show w.heap.size ≤ w1.heap.size by omega)))
  obtain ⟨x0, x1⟩ := own2 hX
  clear hX s1 s2 hn1 hlen hbX f0 f1 e0 e1 v1 v2 p2 o2 n2 n1 y1 y2 d0 d1
  go_wp2_with fail
  exact bodyPost_ret (v := .agg #[.slice A1 b.f.length b.f.length, .slice A2 l2.length l2.length]) (by simp [results, Tryz.results63, go_sem, x0, x1]) rfl (HP.out _ _ ⟨A1, b.f.length, b.f, A2, l2.length, l2⟩ rfl ⟨rfl, HF.out.2.2.1⟩ ⟨HF.out.1, HF.out.2.1⟩ ⟨⟨HOK.out.f.n, Nat.le_refl _, Nat.le_trans HOK.out.f.le HOK.out.f.c_⟩, ⟨by show l2.length ≤ _; rw [HF.out.2.2.2.2.2]; exact HOK.out.l.n, HF.out.2.2.2.1⟩⟩ ⟨HN.out.1, HN.out.2⟩ HF.out.2.2.2.2.1 rfl)
end Go.Proofs.YtjffohpdjicfpaaGreat
