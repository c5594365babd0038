/-
  The contract of run.Check.
-/
import Derived.Test.YtpofmhlmaejmoaaAdm
namespace Go.Proofs.Ytpofmhlmaejmoaa
open Go.RowKit Go.Maps

def ChkRel (n : Int) (l : List Ev) (C : Int) (w : World) (k : Nat) (wr : World) : Prop :=
  ∃ f, MapIs Try.prog wr 3 77 .i64 w.heap.size k f ∧ runCode n (l.drop k) f = C ∧ Below w.heap.size w wr

set_option maxHeartbeats 800000 in
theorem check_loop (A : Option Addr) (cap : Nat) (l : List Ev) (n : Int) (w : World) (hE : Evs w w.heap.size A l) (hF : Fits l) (h1 : ¬ n < 1) (h2 : ¬ 6 < n) (h3 : ¬ 30 < l.length) (C : Int) (hC : Hid (runCode n l (fun _ => 0) = C)) :
    Calls Try.prog 32 #[.int .i64 n, .slice A l.length cap] w fun e w' => e = .returned (.int .i64 C) ∧ Below w.heap.size w w' := by
  have hmm := @run_makeMap Try.prog
  go_enter Try.func32, Try.ntmps32
  go_wp2
  go_loopw [23] (fun i wr => ∃ k : Nat, k ≤ l.length ∧ i = .int .i64 k ∧ ChkRel n l C w k wr) (fun i _ => l.length - (intOf i).toNat)
  case atStart => exact ⟨0, Nat.zero_le _, rfl, _, MapIs.made _ _ _ _ _, by simpa using hC.out, (Below.refl _ _).alloc (Nat.le_refl _) _⟩
  case round =>
    obtain ⟨k, hk, rfl, f, hM, hf, hB⟩ := hrel
    by_cases hlt : k < l.length
    · obtain ⟨b, off, rfl, hb, hc⟩ := hE.below hB (by omega)
      obtain ⟨c0, c1, c2⟩ := hc k hlt
      have hmI : I64 l[k].m := (hF l[k] (List.getElem_mem hlt)).2.2
      have hst := Lib.hid (runCode_drop n l k f hlt)
      have hfH := Lib.hid hf
      clear hf
      have hMa := hM.alloc (.cells #[.int .i64 l[k].p, .int .i64 l[k].k, .int .i64 l[k].m] 36)
      go_wp2_with fail
      refine (admit_any w.heap.size k f n l[k].p l[k].k l[k].m _ hMa (by omega) hmI).mono ?_
      rintro e w1 ⟨rfl, hM1, hG1⟩
      have hB1 : Below w.heap.size w w1 := (hB.alloc hB.size _).grown hG1 (by simp; have := hB.size; omega) (fun j hj => by cases hj; exact Nat.le_refl _)
      by_cases h0 : admCode n f ⟨l[k].p, l[k].k, l[k].m⟩ = 0
      · have hb0 : (admCode n f ⟨l[k].p, l[k].k, l[k].m⟩ != 0) = false := by simp [h0]
        have hfin : Hid (runCode n (l.drop (k + 1)) (admMap n f ⟨l[k].p, l[k].k, l[k].m⟩) = C) := by
          have := hst.out
          rw [if_pos h0] at this
          exact this.symm.trans hfH.out
        have h0h := Lib.hid h0
        clear h0
        go_wp2_with fail
        go_roundw
        case rel => exact ⟨k + 1, by omega, by go_num, _, hM1, hfin.out, hB1⟩
        case measure => simp [intOf]; omega
      · have hb0 : (admCode n f ⟨l[k].p, l[k].k, l[k].m⟩ != 0) = true := by simp [h0]
        have hfin : Hid (admCode n f ⟨l[k].p, l[k].k, l[k].m⟩ = C) := by
          have := hst.out
          rw [if_neg h0] at this
          exact this.symm.trans hfH.out
        have h0h := Lib.hid h0
        clear h0
        go_wp2_with fail
        go_ret
        exact ⟨by rw [← hfin.out]; rfl, hB1⟩
    · have hkl : k = l.length := by omega
      have hC0 : C = 0 := by rw [← hf, hkl]; simp [runCode]
      go_wp2
      go_ret
      exact ⟨by rw [hC0]; rfl, hB⟩

set_option maxHeartbeats 400000 in
theorem check_any (A : Option Addr) (cap : Nat) (l : List Ev) (n : Int) (w : World) (hE : Evs w w.heap.size A l) (hF : Fits l) (hl : l.length ≤ maxLen) :
    Calls Try.prog 32 #[.int .i64 n, .slice A l.length cap] w fun e w' => e = .returned (.int .i64 (checkCode n l)) ∧ Below w.heap.size w w' := by
  unfold maxLen at hl
  by_cases h1 : n < 1
  · have e1 : checkCode n l = 1 := by simp [checkCode, h1]
    rw [e1]; clear e1
    go_enter Try.func32, Try.ntmps32
    go_wp2
    go_ret
    exact ⟨rfl, Below.refl _ _⟩
  by_cases h2 : 6 < n
  · have e1 : checkCode n l = 1 := by simp [checkCode, h2]
    rw [e1]; clear e1
    go_enter Try.func32, Try.ntmps32
    go_wp2
    go_ret
    exact ⟨rfl, Below.refl _ _⟩
  by_cases h3 : 30 < l.length
  · have e1 : checkCode n l = 1 := by simp [checkCode, h3]
    rw [e1]; clear e1
    go_enter Try.func32, Try.ntmps32
    go_wp2
    go_ret
    exact ⟨rfl, Below.refl _ _⟩
  · exact check_loop A cap l n w hE hF h1 h2 h3 _ (by unfold Hid checkCode; rw [if_neg (by omega)])

#print axioms check_any
end Go.Proofs.Ytpofmhlmaejmoaa
