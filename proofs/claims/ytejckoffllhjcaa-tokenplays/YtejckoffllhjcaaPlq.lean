/-
  The contract of beaconrykeep.played.
-/
import Derived.Test.YtejckoffllhjcaaCoq
namespace Go.Proofs.Ytejckoffllhjcaa
open Go.RowKit Go.Maps

set_option maxHeartbeats 800000 in
theorem played_any (w : World) (n m : Int) (C : Bool) (hC : C = true ↔ (1 ≤ n ∧ n ≤ 6 ∧ m ≤ 60)) :
    Calls Try.prog 29 #[.int .i64 n, .int .i64 m] w fun e w' => e = .returned (.bool C) ∧ w' = w := by
  have hCH := Lib.hid hC
  clear hC
  cases C with
  | true =>
    have hh := Lib.hid (hCH.out.1 rfl)
    clear hCH
    go_enter Try.func29, Try.ntmps29
    go_wp2_with fail
    refine (playcheck_any w n m 0 (by rw [if_pos hh.out])).mono ?_
    rintro e w1 ⟨rfl, rfl⟩
    go_wp2_with fail
    go_ret
    exact ⟨rfl, rfl⟩
  | false =>
    have hh : Hid (¬ (1 ≤ n ∧ n ≤ 6 ∧ m ≤ 60)) := fun h => absurd (hCH.out.2 h) (by decide)
    clear hCH
    go_enter Try.func29, Try.ntmps29
    go_wp2_with fail
    refine (playcheck_any w n m 1 (by rw [if_neg hh.out])).mono ?_
    rintro e w1 ⟨rfl, rfl⟩
    go_wp2_with fail
    go_ret
    exact ⟨rfl, rfl⟩

#print axioms played_any
end Go.Proofs.Ytejckoffllhjcaa
