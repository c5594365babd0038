/-
  Words of 32 bits: the contract of beaconryref.Bit; how a bit is set.
-/
import Derived.Test.YtjmkmfeibempjaaRows
import Derived.Test.YtjmkmfeibempjaaRowW
import Derived.KernelRfl
import Derived.Laws.BitsAllLaws
namespace Go.Proofs.Ytjmkmfeibempjaa
open Go.RowKit Go.Maps
set_option linter.unusedVariables false

theorem and_pow_bit (x i : Nat) : (x &&& 2 ^ i ≠ 0) ↔ x.testBit i = true := by
  constructor
  · intro h
    obtain ⟨j, hj⟩ := Nat.exists_testBit_of_ne_zero h
    rw [Nat.testBit_and, Nat.testBit_two_pow] at hj
    simp at hj
    rw [hj.2]; exact hj.1
  · intro h e
    have : (x &&& 2 ^ i).testBit i = true := by rw [Nat.testBit_and, h, Nat.testBit_two_pow]; simp
    rw [e] at this
    simp at this

theorem pow_mod (i : Nat) (hi : i < 32) : (2 : Int) ^ i % 4294967296 = ((2 ^ i : Nat) : Int) := by
  have h : (2 : Nat) ^ i < 2 ^ 32 := Nat.pow_lt_pow_right (by omega) hi
  have e : (2 : Int) ^ i = ((2 ^ i : Nat) : Int) := by simp
  rw [e]
  generalize (2 : Nat) ^ i = y at *
  omega
theorem pow_lt (i : Nat) (hi : i < 32) : 2 ^ i < 4294967296 := by
  have h : (2 : Nat) ^ i < 2 ^ 32 := Nat.pow_lt_pow_right (by omega) hi
  omega
theorem bit_val (x i : Nat) (hx : x < 4294967296) (hi : i < 32) : (bits BinOp.and IntKind.u32 (x : Int) (2 ^ i % 4294967296) != 0) = x.testBit i := by
  rw [pow_mod i hi, u32_and_nat x (2 ^ i) hx (pow_lt i hi), Bool.eq_iff_iff]
  rw [← and_pow_bit]
  simp
theorem set_val (x i : Nat) (hx : x < 4294967296) (hi : i < 32) : bits BinOp.or IntKind.u32 (x : Int) (2 ^ i % 4294967296) = ((x ||| 2 ^ i : Nat) : Int) := by
  rw [pow_mod i hi, u32_or_nat x (2 ^ i) hx (pow_lt i hi)]
theorem bit_any (x i : Nat) (w : World) (hx : x < 4294967296) (hi : i < 32) : Calls Try.prog 16 #[.int .u32 (x : Int), .int .i64 (i : Int)] w fun e w' => e = .returned (.bool (x.testBit i)) ∧ w = w' := by
  have hiI : (i : Int) < 32 := by omega
  go_enter Try.func16, Try.ntmps16
  go_wp2_with fail
  go_ret
  exact ⟨by rw [← bit_val x i hx hi]; rfl, rfl⟩
#print axioms bit_any
end Go.Proofs.Ytjmkmfeibempjaa
