/- Plain facts on sums: a sum of two words, and whether it fits one. -/
import Derived.Test.YtpfjeibhklacbaaGen
namespace Go.Proofs.Ytpfjeibhklacbaa
open Go Go.RowKit

/-- the upper and the lower word of a sum, and it in one word, or what is told instead -/
def hiW (S : Int) : Int := (S / 18446744073709551616) % 18446744073709551616
def loW (S : Int) : Int := S % 18446744073709551616
def fits (S : Int) : Bool := decide (-9223372036854775808 ≤ S) && decide (S ≤ 9223372036854775807)
def fitN (S : Int) : Int := if fits S then S else 0
def fitE (S : Int) : Int := if fits S then 0 else 10
theorem hiW_bound (S : Int) : 0 ≤ hiW S ∧ hiW S < 18446744073709551616 := by unfold hiW; omega
theorem loW_bound (S : Int) : 0 ≤ loW S ∧ loW S < 18446744073709551616 := by unfold loW; omega
theorem fits_iff (S : Int) : fits S = true ↔ -9223372036854775808 ≤ S ∧ S ≤ 9223372036854775807 := by unfold fits; simp
theorem lo_add (S T : Int) : (loW S + loW T) % 18446744073709551616 = loW (S + T) := by unfold loW; omega
theorem hi_add (S T : Int) : (hiW S + hiW T + (loW S + loW T) / 18446744073709551616) % 18446744073709551616 = hiW (S + T) := by unfold hiW loW; omega
/-- a number's lower word as a number with a sign -/
def sg (x : Int) : Int := if x < 9223372036854775808 then x else x - 18446744073709551616
theorem sg_lo (S : Int) (h : fits S = true) : sg (loW S) = S := by
  rw [fits_iff] at h; unfold sg loW; split <;> omega
/-- the upper word is that of the lower one's sign just where the sum fits -/
theorem hi_fits (S : Int) (h1 : -170141183460469231731687303715884105728 ≤ S) (h2 : S < 170141183460469231731687303715884105728) :
    (hiW S == hiW (sg (loW S))) = fits S := by
  rw [Bool.eq_iff_iff, fits_iff, beq_iff_eq]
  unfold hiW sg loW
  split <;> omega
theorem sum_snoc (l : List Int) (k : Nat) (n : Int) (h : l[k]? = some n) : (l.take (k + 1)).sum = (l.take k).sum + n := by
  rw [List.take_add_one, h]; simp
theorem sum_bound : ∀ (l : List Int), (∀ n ∈ l, -9223372036854775808 ≤ n ∧ n ≤ 9223372036854775807) → -9223372036854775808 * (l.length : Int) ≤ l.sum ∧ l.sum ≤ 9223372036854775808 * (l.length : Int)
  | [], _ => by simp
  | x :: l, h => by
    have h1 := h x (by simp)
    have h2 := sum_bound l fun n hn => h n (by simp [hn])
    simp only [List.sum_cons, List.length_cons]
    omega
end Go.Proofs.Ytpfjeibhklacbaa
