/-
  Orders of numbers, as the program tries them; the events, rearranged: plain.
-/
import Derived.Test.YtpofmhlmaejmoaaPast
namespace Go.Proofs.Ytpofmhlmaejmoaa
open Go.RowKit Go.Maps

/-- Each of the numbers is from 0 to below the length of seen, not seen yet, and not twice. -/
def permGo : List Bool → List Int → Bool
  | _, [] => true
  | seen, x :: r => if (0 ≤ x ∧ x < seen.length) ∧ seen.getD x.toNat true = false then permGo (seen.set x.toNat true) r else false
def permB (o : List Int) (c : Nat) : Bool := if o.length = c then permGo (List.replicate c false) o else false

theorem permGo_drop (seen : List Bool) (o : List Int) {k : Nat} (h : k < o.length) :
    permGo seen (o.drop k) = if (0 ≤ o[k] ∧ o[k] < seen.length) ∧ seen.getD o[k].toNat true = false then permGo (seen.set o[k].toNat true) (o.drop (k + 1)) else false := by
  rw [List.drop_eq_getElem_cons h]; rfl

/-- The events, rearranged. -/
def mv (l : List Ev) (o : List Nat) : List Ev := o.map (ev l)

end Go.Proofs.Ytpofmhlmaejmoaa
