/-
  Walks of the laws beaconrylaw.WaitAlls and beaconrylaw.WaitAnys.
-/
import Derived.Test.YtilnbebklchikaaWnv
import Derived.Test.YtilnbebklchikaaWrf
namespace Go.Proofs.Ytilnbebklchikaa
open Go.RowKit Go.Maps
set_option linter.unusedVariables false

set_option maxHeartbeats 1600000 in
theorem waitAlls_law (w : World) (A : Option Addr) (cap : Nat) (l : List Nat) (hE : Wds w w.heap.size A l) (hF : WFits l) (hc : l.length ≤ cap) (hl : l.length ≤ maxLen) (hs : l.length ≤ 35184372088832) :
    Calls Try.prog 3 #[.slice A l.length cap] w fun e w' => e = .returned (.bool true) ∧ Below w.heap.size w w' := by
  have hall := Lib.hid (all_any_ cap w A l hE hF hl)
  have hck : Hid (∀ w1, Below w.heap.size w w1 → Calls Try.prog 10 #[.slice A l.length cap] w1 fun e w' => e = .returned (.int .i64 (waitCode l)) ∧ w1 = w') := fun w1 hB => waitCheck_any cap w1 A l ((hE.below hB).more hB.size) hF hl
  by_cases hV : WV l
  · have hst : Hid (∀ w1, Below w.heap.size w w1 → Calls Try.prog 11 #[.slice A l.length cap] w1 fun e w' => e = .returned (.int .u32 (allOut l : Int)) ∧ w1 = w') := fun w1 hB => by
      rw [allOut_ok hV, nev_all hV]
      exact stuckAll_any cap w1 A l ((hE.below hB).more hB.size) hV
    have hcode := (waitCode_iff l).2 hV
    rw [hcode] at hall hck
    generalize allOut l = N at *
    clear hE hF hV hcode
    go_enter Try.func3, Try.ntmps3
    go_wp2_with fail
    refine hall.out.mono ?_
    rintro e w1 ⟨rfl, hB1⟩
    have hck1 := Lib.hid (hck.out w1 hB1)
    have hst1 := Lib.hid (hst.out w1 hB1)
    clear hck hst hall
    go_wp2_with fail
    refine hck1.out.mono ?_
    rintro e w2 ⟨rfl, rfl⟩
    go_wp2_with fail
    refine hst1.out.mono ?_
    rintro e w2 ⟨rfl, rfl⟩
    go_wp2_with fail
    go_ret
    exact ⟨by simp, hB1⟩
  · have hcode : waitCode l ≠ 0 := fun h => hV ((waitCode_iff l).1 h)
    rw [allOut_no hV] at hall
    generalize waitCode l = x at *
    have hx1 : (x != 0) = true := by simpa using hcode
    clear hE hF hV
    go_enter Try.func3, Try.ntmps3
    go_wp2_with fail
    refine hall.out.mono ?_
    rintro e w1 ⟨rfl, hB1⟩
    have hck1 := Lib.hid (hck.out w1 hB1)
    clear hck hall
    go_wp2_with fail
    refine hck1.out.mono ?_
    rintro e w2 ⟨rfl, rfl⟩
    go_wp2_with fail
    go_ret
    exact ⟨by simp, hB1⟩

set_option maxHeartbeats 1600000 in
theorem waitAnys_law (w : World) (A : Option Addr) (cap : Nat) (l : List Nat) (hE : Wds w w.heap.size A l) (hF : WFits l) (hc : l.length ≤ cap) (hl : l.length ≤ maxLen) (hs : l.length ≤ 35184372088832) :
    Calls Try.prog 4 #[.slice A l.length cap] w fun e w' => e = .returned (.bool true) ∧ Below w.heap.size w w' := by
  have hall := Lib.hid (any_any_ cap w A l hE hF hl)
  have hck : Hid (∀ w1, Below w.heap.size w w1 → Calls Try.prog 10 #[.slice A l.length cap] w1 fun e w' => e = .returned (.int .i64 (waitCode l)) ∧ w1 = w') := fun w1 hB => waitCheck_any cap w1 A l ((hE.below hB).more hB.size) hF hl
  by_cases hV : WV l
  · have hst : Hid (∀ w1, Below w.heap.size w w1 → Calls Try.prog 13 #[.slice A l.length cap] w1 fun e w' => e = .returned (.int .u32 (anyOut l : Int)) ∧ w1 = w') := fun w1 hB => by
      rw [anyOut_ok hV, nev_any hV]
      exact stuckAny_any cap w1 A l ((hE.below hB).more hB.size) hV
    have hcode := (waitCode_iff l).2 hV
    rw [hcode] at hall hck
    generalize anyOut l = N at *
    clear hE hF hV hcode
    go_enter Try.func4, Try.ntmps4
    go_wp2_with fail
    refine hall.out.mono ?_
    rintro e w1 ⟨rfl, hB1⟩
    have hck1 := Lib.hid (hck.out w1 hB1)
    have hst1 := Lib.hid (hst.out w1 hB1)
    clear hck hst hall
    go_wp2_with fail
    refine hck1.out.mono ?_
    rintro e w2 ⟨rfl, rfl⟩
    go_wp2_with fail
    refine hst1.out.mono ?_
    rintro e w2 ⟨rfl, rfl⟩
    go_wp2_with fail
    go_ret
    exact ⟨by simp, hB1⟩
  · have hcode : waitCode l ≠ 0 := fun h => hV ((waitCode_iff l).1 h)
    rw [anyOut_no hV] at hall
    generalize waitCode l = x at *
    have hx1 : (x != 0) = true := by simpa using hcode
    clear hE hF hV
    go_enter Try.func4, Try.ntmps4
    go_wp2_with fail
    refine hall.out.mono ?_
    rintro e w1 ⟨rfl, hB1⟩
    have hck1 := Lib.hid (hck.out w1 hB1)
    clear hck hall
    go_wp2_with fail
    refine hck1.out.mono ?_
    rintro e w2 ⟨rfl, rfl⟩
    go_wp2_with fail
    go_ret
    exact ⟨by simp, hB1⟩

#print axioms waitAlls_law
#print axioms waitAnys_law
end Go.Proofs.Ytilnbebklchikaa
