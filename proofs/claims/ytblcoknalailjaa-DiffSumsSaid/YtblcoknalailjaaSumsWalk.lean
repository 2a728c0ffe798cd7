/- DiffSums returns true. -/
import Derived.Test.YtblcoknalailjaaSmLives
import Derived.Test.YtblcoknalailjaaSmRefSum
import Derived.Test.YtblcoknalailjaaSmRefTimes
namespace Go.Proofs.Ytblcoknalailjaa
open Go Go.RowKit

set_option maxRecDepth 100000 in
set_option maxHeartbeats 1600000 in
theorem sums_walk (A : Option Addr) (c : Nat) (l : List Int) (a b : Int) (w : World) (hl : Ints w w.heap.size A l) (hc : l.length ≤ c) (hm : c ≤ maxLen) (hs : Fit64 l)
    (h1 : -9223372036854775808 ≤ a) (h2 : a ≤ 9223372036854775807) (h3 : -9223372036854775808 ≤ b) (h4 : b ≤ 9223372036854775807) :
    Calls Try.prog 3 #[.slice A l.length c, .int .i64 a, .int .i64 b] w fun e w' => e = .returned (.bool true) ∧ Below w.heap.size w w' := by
  have hn : l.length ≤ maxLen := Nat.le_trans hc hm
  have y1 := fun W h => Lib.hid (sum_any A c l W h hn hs)
  have y2 := fun W h => Lib.hid (refSum_any A c l W h hn hs)
  have y3 := fun W => Lib.hid (dtimes_any a b W h1 h2 h3 h4)
  have y4 := fun W => Lib.hid (refTimes_any a b W h1 h2 h3 h4)
  have y5 := fun W => Lib.hid (sums_true W)
  generalize l.sum = S at *
  generalize a * b = Q at *
  have Hl := Lib.hid hl
  clear hl hn hc hm hs h1 h2 h3 h4
  go_enter Try.func3, Try.ntmps3
  go_wp2_with fail
  refine (y1 _ Hl.out).out.mono ?_
  rintro e w1 ⟨rfl, b1⟩
  have B1 := Lib.hid b1
  clear b1
  go_wp2_with fail
  refine (y2 _ (ints_keep Hl.out B1.out)).out.mono ?_
  rintro e w2 ⟨rfl, b2⟩
  have B2 := Lib.hid b2
  clear b2
  go_wp2_with fail
  refine (y3 _).out.mono ?_
  rintro e w3 ⟨rfl, b3⟩
  have B3 := Lib.hid b3
  clear b3
  go_wp2_with fail
  refine (y4 _).out.mono ?_
  rintro e w4 ⟨rfl, rfl⟩
  go_wp2_with fail
  refine (y5 _).out.mono ?_
  rintro e w5 ⟨rfl, b5⟩
  have B5 := Lib.hid b5
  clear b5
  go_wp2_with fail
  go_ret
  exact ⟨rfl, belows B1.out (belows B2.out (belows B3.out B5.out))⟩
end Go.Proofs.Ytblcoknalailjaa
