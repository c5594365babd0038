/-
  The contract of run.advance.
-/
import Derived.Test.YtpofmhlmaejmoaaRows
import Derived.Test.YtpofmhlmaejmoaaSpec
import Derived.KernelRfl
namespace Go.Proofs.Ytpofmhlmaejmoaa
open Go.RowKit Go.Maps

theorem zero54 (w : World) : (zeroValue 77).run Try.prog w = .ok (.int .i64 0) w := by kernel_rfl

set_option maxHeartbeats 400000 in
theorem advance_any (B n : Nat) (f : Int → Int) (m a b : Int) (w : World) (hM : MapIs Try.prog w 3 77 .i64 B n f) (hn : n < 1000) (hm : I64 m) (hb : (Lit.int .i64 b).wf = true) :
    Calls Try.prog 38 #[.map (some B), .int .i64 m, .int .i64 a, .int .i64 b] w fun e w' =>
      e = .returned (.int .i64 (advCode f m a)) ∧ MapIs Try.prog w' 3 77 .i64 B (n + 1) (advMap f m a b) ∧ w.grownBy w' (some B) := by
  have hmw : (Lit.int .i64 m).wf = true := WalkArith.wf_i64 hm
  by_cases h1 : m < 0
  · have e1 : advCode f m a = 4 := by simp [advCode, h1]
    have e2 : advMap f m a b = f := by unfold advMap; rw [if_neg (by omega)]
    rw [e1, e2]; clear e1 e2
    go_enter Try.func38, Try.ntmps38
    go_wp2
    go_ret
    exact ⟨rfl, hM.mono (by omega), ⟨rfl, rfl, rfl, Nat.le_refl _, fun _ _ _ => rfl⟩⟩
  by_cases h2 : 20 < m
  · have e1 : advCode f m a = 4 := by simp [advCode, h2]
    have e2 : advMap f m a b = f := by unfold advMap; rw [if_neg (by omega)]
    rw [e1, e2]; clear e1 e2
    go_enter Try.func38, Try.ntmps38
    go_wp2
    go_ret
    exact ⟨rfl, hM.mono (by omega), ⟨rfl, rfl, rfl, Nat.le_refl _, fun _ _ _ => rfl⟩⟩
  by_cases h3 : f m = a
  · have e1 : advCode f m a = 0 := by unfold advCode; rw [if_neg (by omega), if_pos h3]
    have e2 : advMap f m a b = put f m b := by unfold advMap; rw [if_pos ⟨by omega, h3⟩]
    rw [e1, e2]; clear e1 e2
    have h3' : (f m != a) = false := by simp [h3]
    have h3h := Lib.hid h3; clear h3
    go_enter Try.func38, Try.ntmps38
    go_wp2_with (first
      | (at_lookup; refine wpList_look rfl _ _ 73 rfl 3 77 .i64 Try.underlying3 Try.underlying73 Try.underlying77 (zero54 _) B n f m rfl hM rfl hmw ?_; intro _)
      | (at_mapUpdate; refine wpList_put rfl _ _ _ 73 rfl 3 77 .i64 Try.underlying3 Try.underlying73 Try.underlying77 B n f m b rfl hM (by unfold maxLen; omega) rfl rfl hmw hb ?_; intro w1 hM1 hg1))
    go_ret
    exact ⟨rfl, hM1, hg1⟩
  · have e1 : advCode f m a = 3 := by unfold advCode; rw [if_neg (by omega), if_neg h3]
    have e2 : advMap f m a b = f := by unfold advMap; rw [if_neg (by intro h; exact h3 h.2)]
    rw [e1, e2]; clear e1 e2
    have h3' : (f m != a) = true := by simp [h3]
    have h3h := Lib.hid h3; clear h3
    go_enter Try.func38, Try.ntmps38
    go_wp2_with (first
      | (at_lookup; refine wpList_look rfl _ _ 73 rfl 3 77 .i64 Try.underlying3 Try.underlying73 Try.underlying77 (zero54 _) B n f m rfl hM rfl hmw ?_; intro _))
    go_ret
    exact ⟨rfl, hM.mono (by omega), ⟨rfl, rfl, rfl, Nat.le_refl _, fun _ _ _ => rfl⟩⟩

#print axioms advance_any
end Go.Proofs.Ytpofmhlmaejmoaa
