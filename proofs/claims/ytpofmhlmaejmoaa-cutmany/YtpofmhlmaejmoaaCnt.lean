/-
  Counting pairs: plain.
-/
import Derived.Test.YtpofmhlmaejmoaaValid
namespace Go.Proofs.Ytpofmhlmaejmoaa
open Go.RowKit Go.Maps

/-- How many i below k are not in a set. -/
def rowCnt (f : Nat → Bool) : Nat → Nat
  | 0 => 0
  | k + 1 => rowCnt f k + if f k then 0 else 1
/-- How many pairs i < j, j below k, with i not in j's past. -/
def apartTo (l : List Ev) : Nat → Nat
  | 0 => 0
  | j + 1 => apartTo l j + rowCnt (fun i => bitAt l i j) j

theorem rowCnt_le (f : Nat → Bool) (k : Nat) : rowCnt f k ≤ k := by
  induction k with
  | zero => exact Nat.le_refl _
  | succ k ih => unfold rowCnt; split <;> omega
theorem apartTo_le (l : List Ev) (k : Nat) (h : k ≤ 30) : apartTo l k ≤ 30 * k := by
  induction k with
  | zero => exact Nat.le_refl _
  | succ k ih =>
    unfold apartTo
    have := rowCnt_le (fun i => bitAt l i k) k
    have := ih (by omega)
    omega

end Go.Proofs.Ytpofmhlmaejmoaa
