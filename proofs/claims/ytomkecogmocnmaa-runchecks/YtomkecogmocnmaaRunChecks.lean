/-
  The walk of the law RunChecks: run.Check and the document's check answer alike.
-/
import Derived.Test.YtomkecogmocnmaaRef
namespace Go.Proofs.Ytomkecogmocnmaa
open Go.RowKit Go.Maps

set_option maxHeartbeats 400000 in
theorem runChecks_law (w : World) (n : Int) (_hn : I64 n) (A : Option Addr) (cap : Nat) (l : List Ev) (hE : Evs w w.heap.size A l) (hF : Fits l) (hcap : l.length ≤ cap) (hl : l.length ≤ maxLen) (_hs : l.length ≤ 17592186044416) :
    Calls Try.prog 3 #[.int .i64 n, .slice A l.length cap] w fun e w' => e = .returned (.bool true) ∧ Below w.heap.size w w' := by
  go_enter Try.func3, Try.ntmps3
  go_wp2_with fail
  refine (check_any A cap l n _ hE hF hl).mono ?_
  rintro e w1 ⟨rfl, hB1⟩
  go_wp2_with fail
  refine (refcheck_any A cap l n _ ((hE.below hB1).more hB1.size) hcap hl).mono ?_
  rintro e w2 ⟨rfl, hB2⟩
  go_wp2_with fail
  go_ret
  exact ⟨by simp, hB1.trans (hB2.mono hB1.size)⟩

#print axioms runChecks_law
end Go.Proofs.Ytomkecogmocnmaa
