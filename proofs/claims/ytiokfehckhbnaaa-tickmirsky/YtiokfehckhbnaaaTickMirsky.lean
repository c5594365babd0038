/-
  The walk of the law TickMirsky: the greatest tick is how many events the longest chain has; events of one tick are apart.
-/
import Derived.Test.YtiokfehckhbnaaaTicks
import Derived.Test.YtiokfehckhbnaaaLng
import Derived.Test.YtiokfehckhbnaaaMost
import Derived.Test.YtiokfehckhbnaaaIns
import Derived.Test.YtiokfehckhbnaaaRan
import Derived.Test.YtiokfehckhbnaaaAhd
import Derived.BigQuiet
import Derived.Deep.QuietTactic
import Derived.StillTailTactics
import Derived.Lib.QuietBelow
import Derived.Deep.RegionHeld3
import Derived.Test.YtiokfehckhbnaaaMirIn
import Derived.Test.YtiokfehckhbnaaaMirOut
namespace Go.Proofs.Ytiokfehckhbnaaa
open Go.RowKit Go.Maps

set_option maxHeartbeats 1000000 in
set_option maxRecDepth 100000 in
theorem mirsky_no (w : World) (n : Int) (A : Option Addr) (cap : Nat) (l : List Ev) (hE : Evs w w.heap.size A l) (hF : Fits l) (hcap : l.length ≤ cap) (hl : l.length ≤ maxLen) (i j : Int) (h0 : ¬ checkCode n l = 0) :
    Calls Try.prog 8 #[.int .i64 n, .slice A l.length cap, .int .i64 i, .int .i64 j] w fun e w' => e = .returned (.bool true) ∧ Below w.heap.size w w' := by
  have hr : (checkCode n l == 0) = false := by simp [h0]
  have hr' : (checkCode n l != 0) = true := by simp [h0]
  have h0H := Lib.hid h0
  clear h0
  go_enter Try.func8, Try.ntmps8
  go_wp2_with fail
  refine (tticks_no A cap l n _ hE hF hl h0H.out).mono ?_
  rintro e w1 ⟨rfl, hB1⟩
  go_wp2_with fail
  refine (tlongest_no A cap l n _ ((hE.below hB1).more hB1.size) hF hl h0H.out).mono ?_
  rintro e w2 ⟨rfl, hB2'⟩
  have hB2 := hB1.trans (hB2'.mono hB1.size)
  go_wp2_with fail
  refine (ran_any A cap l n _ ((hE.below hB2).more hB2.size) hcap hl).mono ?_
  rintro e w3 ⟨rfl, hB3'⟩
  have hB3 := hB2.trans (hB3'.mono hB2.size)
  go_wp2_with fail
  go_ret
  exact ⟨rfl, hB3⟩

theorem tickMirsky_law (w : World) (n : Int) (_hn : I64 n) (A : Option Addr) (cap : Nat) (l : List Ev) (hE : Evs w w.heap.size A l) (hF : Fits l) (hcap : l.length ≤ cap) (hl : l.length ≤ maxLen) (_hs : l.length ≤ 17592186044416) (i : Int) (_hi : I64 i) (j : Int) (_hj : I64 j) :
    Calls Try.prog 8 #[.int .i64 n, .slice A l.length cap, .int .i64 i, .int .i64 j] w fun e w' => e = .returned (.bool true) ∧ Below w.heap.size w w' := by
  by_cases h0 : checkCode n l = 0
  · by_cases hij : (0 ≤ i ∧ i < l.length) ∧ (0 ≤ j ∧ j < l.length)
    · exact mirsky_in w n A cap l hE hF hcap i j h0 hij
    · exact mirsky_out w n A cap l hE hF hcap i j h0 hij
  · exact mirsky_no w n A cap l hE hF hcap hl i j h0

#print axioms tickMirsky_law
end Go.Proofs.Ytiokfehckhbnaaa
