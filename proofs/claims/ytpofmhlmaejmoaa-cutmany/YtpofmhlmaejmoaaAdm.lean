/-
  The contract of run.admit.
-/
import Derived.Test.YtpofmhlmaejmoaaAdv
namespace Go.Proofs.Ytpofmhlmaejmoaa
open Go.RowKit Go.Maps

theorem grown_refl (w : World) (r : Option Nat) : w.grownBy w r := ⟨rfl, rfl, rfl, Nat.le_refl _, fun _ _ _ => rfl⟩

set_option maxHeartbeats 400000 in
theorem admit_any (B c : Nat) (f : Int → Int) (n : Int) (p k m : Int) (w : World) (hM : MapIs Try.prog w 3 77 .i64 B c f) (hc : c < 1000) (hm : I64 m) :
    Calls Try.prog 37 #[.int .i64 n, .agg #[.int .i64 p, .int .i64 k, .int .i64 m], .map (some B)] w fun e w' =>
      e = .returned (.int .i64 (admCode n f ⟨p, k, m⟩)) ∧ MapIs Try.prog w' 3 77 .i64 B (c + 1) (admMap n f ⟨p, k, m⟩) ∧ w.grownBy w' (some B) := by
  have hA := hM.alloc (.cells #[.int .i64 p, .int .i64 k, .int .i64 m] 36)
  have hG := World.grownBy_alloc w (.cells #[.int .i64 p, .int .i64 k, .int .i64 m] 36) (some B)
  by_cases h1 : p < 0 ∨ n ≤ p
  · have e1 : admCode n f ⟨p, k, m⟩ = 2 := by simp [admCode, h1]
    have e2 : admMap n f ⟨p, k, m⟩ = f := by simp [admMap, h1]
    rw [e1, e2]; clear e1 e2
    rcases h1 with h1 | h1
    · go_enter Try.func37, Try.ntmps37
      go_wp2
      go_ret
      exact ⟨rfl, hA.mono (by omega), hG⟩
    · by_cases h0 : p < 0
      all_goals
        go_enter Try.func37, Try.ntmps37
        go_wp2
        go_ret
        exact ⟨rfl, hA.mono (by omega), hG⟩
  · have h2 : ¬ p < 0 := by omega
    have h3 : ¬ n ≤ p := by omega
    by_cases k1 : k = 1
    · have e1 : admCode n f ⟨p, k, m⟩ = 0 := by simp [admCode, h2, h3, k1]
      have e2 : admMap n f ⟨p, k, m⟩ = f := by simp [admMap, h2, h3, k1]
      rw [e1, e2]; clear e1 e2
      subst k1
      go_enter Try.func37, Try.ntmps37
      go_wp2
      go_ret
      exact ⟨rfl, hA.mono (by omega), hG⟩
    by_cases k2 : k = 2
    · have e1 : admCode n f ⟨p, k, m⟩ = advCode f m 0 := by simp [admCode, h2, h3, k2]
      have e2 : admMap n f ⟨p, k, m⟩ = advMap f m 0 1 := by simp [admMap, h2, h3, k2]
      rw [e1, e2]; clear e1 e2 k1
      subst k2
      go_enter Try.func37, Try.ntmps37
      go_wp2_with fail
      refine (advance_any B c f m 0 1 _ hA hc hm (by decide)).mono ?_
      rintro e w1 ⟨rfl, hM1, hG1⟩
      go_wp2_with fail
      go_ret
      exact ⟨rfl, hM1, hG.trans hG1⟩
    by_cases k3 : k = 3
    · have e1 : admCode n f ⟨p, k, m⟩ = advCode f m 1 := by simp [admCode, h2, h3, k3]
      have e2 : admMap n f ⟨p, k, m⟩ = advMap f m 1 2 := by simp [admMap, h2, h3, k3]
      rw [e1, e2]; clear e1 e2 k1 k2
      subst k3
      go_enter Try.func37, Try.ntmps37
      go_wp2_with fail
      refine (advance_any B c f m 1 2 _ hA hc hm (by decide)).mono ?_
      rintro e w1 ⟨rfl, hM1, hG1⟩
      go_wp2_with fail
      go_ret
      exact ⟨rfl, hM1, hG.trans hG1⟩
    · have e1 : admCode n f ⟨p, k, m⟩ = 6 := by simp [admCode, h2, h3, k1, k2, k3]
      have e2 : admMap n f ⟨p, k, m⟩ = f := by simp [admMap, h2, h3, k1, k2, k3]
      rw [e1, e2]; clear e1 e2
      have b1 : (k == 1) = false := by simp [k1]
      have b2 : (k == 2) = false := by simp [k2]
      have b3 : (k == 3) = false := by simp [k3]
      clear k1 k2 k3
      go_enter Try.func37, Try.ntmps37
      go_wp2
      go_ret
      exact ⟨rfl, hA.mono (by omega), hG⟩

#print axioms admit_any
end Go.Proofs.Ytpofmhlmaejmoaa
