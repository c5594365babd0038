/-
  The walk of the law TickTells: tick.Ticks and the document's timestamps are alike.
-/
import Derived.Test.YtiokfehckhbnaaaTicks
import Derived.Test.YtiokfehckhbnaaaRtk
import Derived.Test.YtiokfehckhbnaaaRef
import Derived.Test.YtiokfehckhbnaaaInt
namespace Go.Proofs.Ytiokfehckhbnaaa
open Go.RowKit Go.Maps

set_option maxHeartbeats 1000000 in
theorem ticktells_no (w : World) (n : Int) (A : Option Addr) (cap : Nat) (l : List Ev) (hE : Evs w w.heap.size A l) (hF : Fits l) (hcap : l.length ≤ cap) (hl : l.length ≤ maxLen) (h0 : ¬ checkCode n l = 0) :
    Calls Try.prog 3 #[.int .i64 n, .slice A l.length cap] w fun e w' => e = .returned (.bool true) ∧ Below w.heap.size w w' := by
  have hr : (checkCode n l == 0) = false := by simp [h0]
  have hr' : (checkCode n l != 0) = true := by simp [h0]
  have h0H := Lib.hid h0
  clear h0
  go_enter Try.func3, Try.ntmps3
  go_wp2_with fail
  refine (tticks_no A cap l n _ hE hF hl h0H.out).mono ?_
  rintro e w1 ⟨rfl, hB1⟩
  go_wp2_with fail
  refine (refcheck_any A cap l n _ ((hE.below hB1).more hB1.size) hcap hl).mono ?_
  rintro e w2 ⟨rfl, hB2'⟩
  have hB2 := hB1.trans (hB2'.mono hB1.size)
  go_wp2_with fail
  go_ret
  exact ⟨by simp, hB2⟩

set_option maxHeartbeats 1000000 in
theorem ticktells_ok (w : World) (n : Int) (A : Option Addr) (cap : Nat) (l : List Ev) (hE : Evs w w.heap.size A l) (hF : Fits l) (hcap : l.length ≤ cap) (h0 : checkCode n l = 0) :
    Calls Try.prog 3 #[.int .i64 n, .slice A l.length cap] w fun e w' => e = .returned (.bool true) ∧ Below w.heap.size w w' := by
  have h30 := (check_small h0).2.2
  have hl : l.length ≤ maxLen := by unfold maxLen; omega
  have hr : (checkCode n l != 0) = false := by simp [h0]
  have h0H := Lib.hid h0
  clear h0
  go_enter Try.func3, Try.ntmps3
  go_wp2_with fail
  refine (tticks_ok A cap l n _ hE hF h0H.out).mono ?_
  rintro e w1 ⟨g1, T1, rfl, hR1, hT1, _, _, hB1⟩
  go_wp2_with fail
  refine (refcheck_any A cap l n _ ((hE.below hB1).more hB1.size) hcap hl).mono ?_
  rintro e w2 ⟨rfl, hB2'⟩
  have hR2 : NatRow w2 g1 l.length T1 := Row.below hR1 hB2' (Row.lt hR1)
  have hB2 := hB1.trans (hB2'.mono hB1.size)
  clear hB2' hB1 hR1
  go_wp2_with fail
  refine (refticks_any A cap l _ ((hE.below hB2).more hB2.size) h30).mono ?_
  rintro e w3 ⟨g3, T3, rfl, hR3, hT3, _, _, hB3'⟩
  have hR4 : NatRow w3 g1 l.length T1 := Row.below hR2 hB3' (Row.lt hR2)
  have hB3 := hB2.trans (hB3'.mono hB2.size)
  have hR5 : NatRow w3 g3 l.length T1 := hR3.congr fun j hj => Rank.same hb_lt hT3 hT1 hj
  have hint := ints_same (some ⟨g1, 0, none⟩) (some ⟨g3, 0, none⟩) l.length l.length _ w3 hR4.nums hR5.nums (by simp; omega)
  rw [show ((List.range l.length).map fun j => (T1 j : Int)).length = l.length by simp] at hint
  clear hB3' hB2 hR2 hT1 hT3 hR3 hR4 hR5
  go_wp2_with fail
  refine hint.mono ?_
  rintro e w4 ⟨rfl, hB4'⟩
  have hB4 := hB3.trans (hB4'.mono hB3.size)
  go_wp2_with fail
  go_ret
  exact ⟨rfl, hB4⟩

theorem tickTells_law (w : World) (n : Int) (_hn : I64 n) (A : Option Addr) (cap : Nat) (l : List Ev) (hE : Evs w w.heap.size A l) (hF : Fits l) (hcap : l.length ≤ cap) (hl : l.length ≤ maxLen) (_hs : l.length ≤ 17592186044416) :
    Calls Try.prog 3 #[.int .i64 n, .slice A l.length cap] w fun e w' => e = .returned (.bool true) ∧ Below w.heap.size w w' := by
  by_cases h0 : checkCode n l = 0
  · exact ticktells_ok w n A cap l hE hF hcap h0
  · exact ticktells_no w n A cap l hE hF hcap hl h0

#print axioms tickTells_law
end Go.Proofs.Ytiokfehckhbnaaa
