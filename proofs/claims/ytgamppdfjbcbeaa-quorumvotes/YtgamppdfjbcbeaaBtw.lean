/-
  Words of 32 bits, over Wrd: the contract of beaconryref.Bit; the bits of a set's word.
-/
import Derived.Test.YtgamppdfjbcbeaaWrd
namespace Go.Proofs.Ytgamppdfjbcbeaa
open Go.RowKit Go.Maps
set_option linter.unusedVariables false

theorem and_pow_bit (x i : Nat) : (x &&& 2 ^ i ≠ 0) ↔ x.testBit i = true := by
  constructor
  · intro h
    obtain ⟨j, hj⟩ := Nat.exists_testBit_of_ne_zero h
    rw [Nat.testBit_and, Nat.testBit_two_pow] at hj
    simp at hj
    rw [hj.2]; exact hj.1
  · intro h e
    have : (x &&& 2 ^ i).testBit i = true := by rw [Nat.testBit_and, h, Nat.testBit_two_pow]; simp
    rw [e] at this
    simp at this
theorem bit_val (x i : Nat) (hx : x < 4294967296) (hi : i < 32) : (bits BinOp.and IntKind.u32 (x : Int) (2 ^ i % 4294967296) != 0) = x.testBit i := by
  rw [pow_mod i hi, u32_and_nat x (2 ^ i) hx (pow_lt i hi), Bool.eq_iff_iff]
  rw [← and_pow_bit]
  simp
theorem and_val (x y : Nat) (hx : x < 4294967296) (hy : y < 4294967296) : bits BinOp.and IntKind.u32 (x : Int) (y : Int) = ((x &&& y : Nat) : Int) := u32_and_nat x y hx hy
theorem bit_any (x i : Nat) (w : World) (hx : x < 4294967296) (hi : i < 32) : Calls Try.prog 37 #[.int .u32 (x : Int), .int .i64 (i : Int)] w fun e w' => e = .returned (.bool (x.testBit i)) ∧ w = w' := by
  have hiI : (i : Int) < 32 := by omega
  go_enter Try.func37, Try.ntmps37
  go_wp2_with fail
  go_ret
  exact ⟨by rw [← bit_val x i hx hi]; rfl, rfl⟩

/-- How many of the first k bits are set. -/
def bcnt (x : Nat) : Nat → Nat
  | 0 => 0
  | k + 1 => bcnt x k + if x.testBit k = true then 1 else 0
theorem bcnt_le (x k : Nat) : bcnt x k ≤ k := by
  induction k with
  | zero => exact Nat.le_refl _
  | succ k ih => rw [bcnt]; split <;> omega
theorem bcnt_zero {x k : Nat} (h : ∀ i, i < k → x.testBit i = false) : bcnt x k = 0 := by
  induction k with
  | zero => rfl
  | succ k ih => rw [bcnt, ih (fun i hi => h i (by omega)), h k (by omega)]; rfl
theorem bcnt_one {x : Nat} (h : ∀ i j, x.testBit i = true → x.testBit j = true → i = j) (k : Nat) : bcnt x k ≤ 1 := by
  induction k with
  | zero => exact Nat.zero_le _
  | succ k ih =>
    rw [bcnt]
    by_cases e : x.testBit k = true
    · rw [if_pos e, bcnt_zero fun i hi => by
        cases hb : x.testBit i with
        | false => rfl
        | true => have := h i k hb e; omega]
      omega
    · rw [if_neg e]; omega
theorem wordB_bit (k : Nat) (f : Nat → Bool) (i : Nat) : (wordB k f).testBit i = (decide (i < k) && f i) := by
  induction k with
  | zero => simp [wordB]
  | succ k ih =>
    rw [wordB]
    by_cases e : i = k
    · subst e
      cases hf : f i with
      | true => simp
      | false => simp [ih]
    · have : (i < k + 1) ↔ (i < k) := by omega
      cases hf : f k with
      | true =>
        rw [if_pos rfl, Nat.testBit_or, ih, Nat.testBit_two_pow]
        have h2 : decide (k = i) = false := by simp; omega
        rw [h2, Bool.or_false]
        simp only [this]
      | false => rw [if_neg (by decide), ih]; simp only [this]
theorem wordB_apart {n : Nat} {f g : Nat → Bool} (h : ∀ i, i < n → f i = true → g i = false) : wordB n f &&& wordB n g = 0 := by
  apply Nat.eq_of_testBit_eq
  intro i
  rw [Nat.testBit_and, wordB_bit, wordB_bit, Nat.zero_testBit]
  by_cases e : i < n
  · cases hf : f i with
    | true => rw [h i e hf]; simp
    | false => simp
  · simp [e]

#print axioms bit_any
#print axioms wordB_apart
end Go.Proofs.Ytgamppdfjbcbeaa
