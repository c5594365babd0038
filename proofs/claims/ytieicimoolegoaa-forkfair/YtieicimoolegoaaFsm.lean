/-
  The contracts of the small functions of package fork: everybody, isProcess, has, turn.
-/
import Derived.Test.YtieicimoolegoaaRows
import Derived.Test.YtieicimoolegoaaFrk
import Derived.Test.YtieicimoolegoaaRowW
import Derived.KernelRfl
namespace Go.Proofs.Ytieicimoolegoaa
open Go.RowKit Go.Maps
set_option linter.unusedVariables false

theorem everybody_any (n : Nat) (hn : n ≤ 6) (w : World) : Calls Try.prog 30 #[.int .i64 (n : Int)] w fun e w' => e = .returned (.int .u32 ((2 ^ n - 1 : Nat) : Int)) ∧ w = w' := by
  have hv : Hid (((2 : Int) ^ n % 4294967296 - 1) % 4294967296 = ((2 ^ n - 1 : Nat) : Int)) := by
    unfold Hid
    rw [pow_mod n (by omega)]
    have h1 := pow_lt n (by omega)
    have h2 : 0 < 2 ^ n := Nat.pow_pos (by omega)
    generalize 2 ^ n = y at *
    omega
  have hnI : (n : Int) < 32 := by omega
  go_enter Try.func30, Try.ntmps30
  go_wp2_with fail
  go_ret
  exact ⟨by rw [← hv.out]; rfl, rfl⟩

theorem isproc_any (x n : Int) (w : World) : Calls Try.prog 31 #[.int .i64 x, .int .i64 n] w fun e w' => e = .returned (.bool (inP n x)) ∧ w = w' := by
  by_cases h : 0 ≤ x
  · have v1 : decide (0 ≤ x) = true := decide_eq_true h
    have hd : Hid (inP n x = decide (x < n)) := by unfold Hid inP; rw [v1]; rfl
    go_enter Try.func31, Try.ntmps31
    go_wp2_with fail
    go_ret
    exact ⟨by rw [hd.out]; rfl, rfl⟩
  · have v1 : decide (0 ≤ x) = false := decide_eq_false h
    have hd : Hid (inP n x = false) := by unfold Hid inP; rw [v1]; rfl
    go_enter Try.func31, Try.ntmps31
    go_wp2_with fail
    go_ret
    exact ⟨by rw [hd.out]; rfl, rfl⟩

theorem shr_val (x i : Nat) (hx : x < 4294967296) : (bits BinOp.and IntKind.u32 ((x : Int) / 2 ^ i) 1 == 1) = x.testBit i := by
  have e : (x : Int) / 2 ^ i = ((x / 2 ^ i : Nat) : Int) := by simp
  have hl : x / 2 ^ i < 4294967296 := Nat.lt_of_le_of_lt (Nat.div_le_self _ _) hx
  rw [e, show (1 : Int) = ((1 : Nat) : Int) from rfl, u32_and_nat _ 1 hl (by decide), Nat.and_one_is_mod, Nat.testBit_eq_decide_div_mod_eq]
  rw [Bool.eq_iff_iff]
  simp
  omega
theorem has_any (x i : Nat) (w : World) (hx : x < 4294967296) (hi : i < 32) : Calls Try.prog 32 #[.int .u32 (x : Int), .int .i64 (i : Int)] w fun e w' => e = .returned (.bool (x.testBit i)) ∧ w = w' := by
  have hiI : (i : Int) < 32 := by omega
  go_enter Try.func32, Try.ntmps32
  go_wp2_with fail
  go_ret
  exact ⟨by rw [← shr_val x i hx]; rfl, rfl⟩

theorem results_cell1 {fn : Func} {p : Tmp} {ty : TypeId} (h : fn.results = #[.cell p ty]) (tmps : Array Value) (P : Program) (w : World) :
    (results fn tmps).run P w = ((asAddr (tmps.getD p undef)).run P w).andThen fun a w₁ => (loadVar ty a).run P w₁ := by
  simp only [results, h]
  simp [Sem.run_bind, Result.andThen]
theorem turn_any (x y : Int) (w : World) : Calls Try.prog 37 #[.agg #[.int .i64 x, .int .i64 y]] w fun e w' => e = .returned (.agg #[.int .i64 y, .int .i64 x]) ∧ Below w.heap.size w w' := by
  go_enter Try.func37, Try.ntmps37
  go_wp2_with fail
  have hR := Row.made (w.alloc (.cells #[.int .i64 x, .int .i64 y] 43)) 43 [.int .i64 y, .int .i64 x]
  have d0 := hR.cell (i := 0) (by simp)
  have d1 := hR.cell (i := 1) (by simp)
  simp only [List.getElem_cons_zero, List.getElem_cons_succ] at d0 d1
  rw [show (w.alloc (.cells #[.int .i64 x, .int .i64 y] 43)).heap.size = w.heap.size + 1 by simp] at d0 d1
  have hB := ((Below.refl w.heap.size w).alloc (Nat.le_refl _) (.cells #[.int .i64 x, .int .i64 y] 43)).alloc (by simp) (.cells #[.int .i64 y, .int .i64 x] 43)
  clear hR
  refine bodyPost_ret (v := .agg #[.int .i64 y, .int .i64 x]) ?_ rfl ⟨rfl, hB⟩
  rw [results_cell1 rfl]
  go_simp
#print axioms everybody_any
#print axioms isproc_any
#print axioms has_any
end Go.Proofs.Ytieicimoolegoaa
