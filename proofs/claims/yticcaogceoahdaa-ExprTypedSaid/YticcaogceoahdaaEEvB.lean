/- The evaluation of an expression: a number, two compared, what holds, what is reckoned. -/
import Derived.Test.YticcaogceoahdaaEEvA
import Derived.Deep.CutRange
import Derived.Deep.DeepCutAuto
namespace Go.Proofs.Yticcaogceoahdaa
open Go Go.RowKit

theorem Upd.more {w w' : World} {g : Nat} {t : TypeId} {l : List Value} (h : Upd w w' g t l) (o : Obj) : Upd w (w'.alloc o) g t l := h.quiet ((Below.refl _ _).alloc (Nat.le_refl _) _)
theorem Upd.drew {w w' : World} {g : Nat} {t : TypeId} {l : List Value} (h : Upd w w' g t l) : Upd w w'.drew g t l := h.quiet (Below.refl _ _).drew
theorem ret_i64s {a b : Int} {u v : Int} {w w' : World} {g : Nat} {t : TypeId} {A : Option Addr} {n c : Nat} (h : a = b) (hu : u = v) (k : Upd w w' g t (evL u A n c)) : Ending.returned (.int .i64 a) = .returned (.int .i64 b) ∧ Upd w w' g t (evL v A n c) := by subst h hu; exact ⟨rfl, k⟩
set_option maxRecDepth 100000 in
set_option maxHeartbeats 1600000 in
theorem number2_any (row : List Vl) (A : Option Addr) (c n : Nat) (hE : EvC row A c n) (k : Lx) (u : Int) (g : Nat) (w : World) (ht : Te n k w g) (hr : RowIn row A w g) (ho : Own w g 54 (evL u A row.length c)) :
    Calls Try.prog 23 #[.pointer (some ⟨g, 0, none⟩), k.val] w fun x w' =>
      x = .returned (.int .i64 (nm (ev row n) k u).1) ∧ Upd w w' g 54 (evL (nm (ev row n) k u).2 A row.length c) := by
  have hg := ho.inside
  obtain ⟨W, hW, fb, hs, fk⟩ := lxbox w k
  have hcall := Lib.hid (hE k u g W (ht.past (fb.mono (by omega))) (hr.past (fb.mono (by omega))) (ho.past fb hg))
  have HW := Lib.hid (Upd.after fb (Upd.same (ho.past fb hg)))
  clear ht hr ho hE fk
  unfold nm
  unfold Lx.val at *
  unfold Vl.val at hcall
  generalize ev row n k u = p at *
  obtain ⟨⟨t, m, s⟩, u'⟩ := p
  dsimp only at *
  cases t
  all_goals
    go_enter Try.func23, Try.ntmps23
    go_wp2_with fail
    rw [← hW]
    refine hcall.out.mono ?_
    rintro _ w2 ⟨rfl, u2⟩
    have U2 := Lib.hid (HW.out.trans u2)
    clear u2
    have hg2 := U2.out.own.inside
    go_wp2_with fail
  · go_ret
    exact ret_i64s rfl (by simp) (U2.out.more _)
  · have U3 := Lib.hid (U2.out.more (.cells #[.bool true, .int .i64 m, .string s] 24))
    have fv := Own.made w2 24 [.bool true, .int .i64 m, .string s]
    refine (fail_any g _ _ 11 _ _ U3.out.own).mono ?_
    rintro _ w3 ⟨rfl, u3⟩
    have fv3 := u3.other (k := w2.heap.size) (by omega) fv
    have d1 := fv3.at_ 1
    simp only [List.getElem?_cons_zero, List.getElem?_cons_succ] at d1
    have U4 := Lib.hid (U3.out.trans u3)
    clear u3 fv fv3
    go_wp2_with fail
    go_ret
    exact ret_i64s rfl (by simp) U4.out
end Go.Proofs.Yticcaogceoahdaa
