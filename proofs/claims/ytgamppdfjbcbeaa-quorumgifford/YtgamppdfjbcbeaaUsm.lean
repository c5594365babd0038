/-
  The contracts of the small functions of package quorum: everybody, includes, areProcesses; the closures of check, isCoterie, includesOne, add.
-/
import Derived.Test.YtgamppdfjbcbeaaUqo
import Derived.Test.YtgamppdfjbcbeaaRowW
import Derived.KernelRfl
namespace Go.Proofs.Ytgamppdfjbcbeaa
open Go.RowKit Go.Maps
set_option linter.unusedVariables false

theorem everybody_any (n : Nat) (w : World) (hn : n ≤ 6) : Calls Try.prog 42 #[.int .i64 (n : Int)] w fun e w' => e = .returned (.int .u32 ((2 ^ n - 1 : Nat) : Int)) ∧ w = w' := by
  have hnI : (n : Int) ≤ 6 := by omega
  have hv := Lib.hid (all_val n hn)
  go_enter Try.func42, Try.ntmps42
  go_wp2_with fail
  go_ret
  exact ⟨by rw [← hv.out]; rfl, rfl⟩

theorem inc_val (s x : Nat) (hs : s < 4294967296) (hx : x < 4294967296) : (bits BinOp.andNot IntKind.u32 (x : Int) (s : Int) == 0) = incB s x := by
  rw [u32_andNot_nat x s hx hs, Bool.eq_iff_iff, incB_iff, ← andNot_zero x s hx hs, beq_iff_eq]
  omega
theorem includes_any (s x : Nat) (w : World) (hs : s < 4294967296) (hx : x < 4294967296) : Calls Try.prog 41 #[.int .u32 (s : Int), .int .u32 (x : Int)] w fun e w' => e = .returned (.bool (incB s x)) ∧ w = w' := by
  have hv := Lib.hid (inc_val s x hs hx)
  go_enter Try.func41, Try.ntmps41
  go_wp2_with fail
  go_ret
  exact ⟨by rw [← hv.out]; rfl, rfl⟩
theorem areProcs_any (x n : Nat) (w : World) (hn : n ≤ 6) (hx : x < 4294967296) : Calls Try.prog 27 #[.int .u32 (x : Int), .int .i64 (n : Int)] w fun e w' => e = .returned (.bool (decide (x < 2 ^ n))) ∧ w = w' := by
  have h1 := pow_lt n (by omega)
  have he := Lib.hid (everybody_any n w hn)
  have hi := Lib.hid (includes_any (2 ^ n - 1) x w (by omega) hx)
  rw [all_inc] at hi
  generalize decide (x < 2 ^ n) = C at *
  generalize 2 ^ n - 1 = y at *
  clear h1
  go_enter Try.func27, Try.ntmps27
  go_wp2_with fail
  refine he.out.mono ?_
  rintro e w1 ⟨rfl, rfl⟩
  go_wp2_with fail
  refine hi.out.mono ?_
  rintro e w1 ⟨rfl, rfl⟩
  go_wp2_with fail
  go_ret
  exact ⟨rfl, rfl⟩

theorem checkCl_any (n b x : Nat) (w : World) (hn : n ≤ 6) (hx : x < 4294967296) (hR : Row w b 3 [.int .i64 (n : Int)]) : Calls Try.prog 38 #[.int .u32 (x : Int), .pointer (some ⟨b, 0, none⟩)] w fun e w' => e = .returned (.bool (badW n x)) ∧ w = w' := by
  have c0 := hR.cell (i := 0) (by simp)
  simp only [List.getElem_cons_zero] at c0
  have ha := Lib.hid (areProcs_any x n w hn hx)
  have hd : Hid (badW n x = ((x : Int) == 0 || !decide (x < 2 ^ n))) := by
    unfold Hid badW
    have : (x == 0) = ((x : Int) == 0) := by rw [Bool.eq_iff_iff, beq_iff_eq, beq_iff_eq]; omega
    rw [this]
  generalize badW n x = C at *
  generalize decide (x < 2 ^ n) = D at *
  clear hR
  by_cases h : x = 0
  · have v1 : ((x : Int) == 0) = true := by rw [beq_iff_eq]; omega
    rw [v1] at hd
    clear h
    go_enter Try.func38, Try.ntmps38
    go_wp2_with fail
    go_ret
    exact ⟨by rw [hd.out]; rfl, rfl⟩
  · have v1 : ((x : Int) == 0) = false := by rw [beq_eq_false_iff_ne]; omega
    rw [v1] at hd
    clear h
    go_enter Try.func38, Try.ntmps38
    go_wp2_with fail
    refine ha.out.mono ?_
    rintro e w1 ⟨rfl, rfl⟩
    go_wp2_with fail
    go_ret
    exact ⟨by rw [hd.out]; rfl, rfl⟩

theorem and_zero_val (s x : Nat) (hs : s < 4294967296) (hx : x < 4294967296) : (bits BinOp.and IntKind.u32 (s : Int) (x : Int) == 0) = (s &&& x == 0) := by
  rw [u32_and_nat s x hs hx, Bool.eq_iff_iff, beq_iff_eq, beq_iff_eq]
  omega
theorem cotCl_any (s b x : Nat) (w : World) (hs : s < 4294967296) (hx : x < 4294967296) (hR : Row w b 27 [.int .u32 (s : Int)]) : Calls Try.prog 40 #[.int .u32 (x : Int), .pointer (some ⟨b, 0, none⟩)] w fun e w' => e = .returned (.bool (clash s x)) ∧ w = w' := by
  have c0 := hR.cell (i := 0) (by simp)
  simp only [List.getElem_cons_zero] at c0
  have h1 := Lib.hid (includes_any s x w hs hx)
  have h2 := Lib.hid (includes_any x s w hx hs)
  have hv := and_zero_val s x hs hx
  have hd : Hid (clash s x = (s &&& x == 0 || (incB s x || incB x s))) := rfl
  generalize (s &&& x == 0) = Z at *
  generalize clash s x = C at *
  generalize incB s x = P at *
  generalize incB x s = Q at *
  clear hR
  cases Z with
  | true =>
    clear h1 h2
    go_enter Try.func40, Try.ntmps40
    go_wp2_with fail
    go_ret
    exact ⟨by rw [hd.out]; rfl, rfl⟩
  | false =>
    cases P with
    | true =>
      clear h2
      go_enter Try.func40, Try.ntmps40
      go_wp2_with fail
      refine h1.out.mono ?_
      rintro e w1 ⟨rfl, rfl⟩
      go_wp2_with fail
      go_ret
      exact ⟨by rw [hd.out]; rfl, rfl⟩
    | false =>
      go_enter Try.func40, Try.ntmps40
      go_wp2_with fail
      refine h1.out.mono ?_
      rintro e w1 ⟨rfl, rfl⟩
      go_wp2_with fail
      refine h2.out.mono ?_
      rintro e w1 ⟨rfl, rfl⟩
      go_wp2_with fail
      go_ret
      exact ⟨by rw [hd.out]; rfl, rfl⟩

theorem incCl_any (s b x : Nat) (w : World) (hs : s < 4294967296) (hx : x < 4294967296) (hR : Row w b 27 [.int .u32 (s : Int)]) : Calls Try.prog 43 #[.int .u32 (x : Int), .pointer (some ⟨b, 0, none⟩)] w fun e w' => e = .returned (.bool (incB s x)) ∧ w = w' := by
  have c0 := hR.cell (i := 0) (by simp)
  simp only [List.getElem_cons_zero] at c0
  have h1 := Lib.hid (includes_any s x w hs hx)
  generalize incB s x = P at *
  clear hR
  go_enter Try.func43, Try.ntmps43
  go_wp2_with fail
  refine h1.out.mono ?_
  rintro e w1 ⟨rfl, rfl⟩
  go_wp2_with fail
  go_ret
  exact ⟨rfl, rfl⟩
theorem addCl_any (s b x : Nat) (w : World) (hs : s < 4294967296) (hx : x < 4294967296) (hR : Row w b 27 [.int .u32 (s : Int)]) : Calls Try.prog 45 #[.int .u32 (x : Int), .pointer (some ⟨b, 0, none⟩)] w fun e w' => e = .returned (.bool (incB x s)) ∧ w = w' := by
  have c0 := hR.cell (i := 0) (by simp)
  simp only [List.getElem_cons_zero] at c0
  have h1 := Lib.hid (includes_any x s w hx hs)
  generalize incB x s = P at *
  clear hR
  go_enter Try.func45, Try.ntmps45
  go_wp2_with fail
  refine h1.out.mono ?_
  rintro e w1 ⟨rfl, rfl⟩
  go_wp2_with fail
  go_ret
  exact ⟨rfl, rfl⟩
#print axioms checkCl_any
#print axioms cotCl_any
#print axioms addCl_any
end Go.Proofs.Ytgamppdfjbcbeaa
