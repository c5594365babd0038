/-
  The contract of beaconrykeep.ran.
-/
import Derived.Test.YtpofmhlmaejmoaaRef
namespace Go.Proofs.Ytpofmhlmaejmoaa
open Go.RowKit Go.Maps

set_option maxHeartbeats 400000 in
theorem ran_any (A : Option Addr) (cap : Nat) (l : List Ev) (n : Int) (w : World) (hE : Evs w w.heap.size A l) (hcap : l.length ≤ cap) (hl : l.length ≤ maxLen) :
    Calls Try.prog 23 #[.int .i64 n, .slice A l.length cap] w fun e w' => e = .returned (.bool (checkCode n l == 0)) ∧ Below w.heap.size w w' := by
  go_enter Try.func23, Try.ntmps23
  go_wp2_with fail
  refine (refcheck_any A cap l n _ hE hcap hl).mono ?_
  rintro e w1 ⟨rfl, hB1⟩
  go_wp2_with fail
  go_ret
  exact ⟨rfl, hB1⟩

#print axioms ran_any
end Go.Proofs.Ytpofmhlmaejmoaa
