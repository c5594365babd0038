/-
  Words of 32 bits: how a bit is set; the word of a set. (The part of Bit that reaches no function.)
-/
import Derived.Test.YtgamppdfjbcbeaaRows
import Derived.Test.YtgamppdfjbcbeaaRowW
import Derived.KernelRfl
import Derived.Laws.BitsAllLaws
namespace Go.Proofs.Ytgamppdfjbcbeaa
open Go.RowKit Go.Maps
set_option linter.unusedVariables false

theorem pow_mod (i : Nat) (hi : i < 32) : (2 : Int) ^ i % 4294967296 = ((2 ^ i : Nat) : Int) := by
  have h : (2 : Nat) ^ i < 2 ^ 32 := Nat.pow_lt_pow_right (by omega) hi
  have e : (2 : Int) ^ i = ((2 ^ i : Nat) : Int) := by simp
  rw [e]
  generalize (2 : Nat) ^ i = y at *
  omega
theorem pow_lt (i : Nat) (hi : i < 32) : 2 ^ i < 4294967296 := by
  have h : (2 : Nat) ^ i < 2 ^ 32 := Nat.pow_lt_pow_right (by omega) hi
  omega
theorem set_val (x i : Nat) (hx : x < 4294967296) (hi : i < 32) : bits BinOp.or IntKind.u32 (x : Int) (2 ^ i % 4294967296) = ((x ||| 2 ^ i : Nat) : Int) := by
  rw [pow_mod i hi, u32_or_nat x (2 ^ i) hx (pow_lt i hi)]

/-- The first k of a set, as a word. -/
def wordB : Nat → (Nat → Bool) → Nat
  | 0, _ => 0
  | k + 1, f => if f k = true then wordB k f ||| 2 ^ k else wordB k f
theorem wordB_lt (k : Nat) (f : Nat → Bool) : wordB k f < 2 ^ k := by
  induction k with
  | zero => simp [wordB]
  | succ k ih =>
    have h2 : 2 ^ k < 2 ^ (k + 1) := Nat.pow_lt_pow_right (by omega) (by omega)
    rw [wordB]
    split
    · exact Nat.or_lt_two_pow (by omega) h2
    · omega
theorem wordB_small {k : Nat} (hk : k ≤ 6) (f : Nat → Bool) : wordB k f < 64 := by
  have h1 := wordB_lt k f
  have h2 : 2 ^ k ≤ 2 ^ 6 := Nat.pow_le_pow_right (by omega) hk
  omega
theorem wordB_add (k : Nat) (f : Nat → Bool) (h : f k = true) : wordB (k + 1) f = wordB k f + 2 ^ k := by
  rw [wordB, if_pos h]
  have := Nat.two_pow_add_eq_or_of_lt (wordB_lt k f) 1
  rw [Nat.mul_one] at this
  rw [Nat.or_comm, ← this, Nat.add_comm]
theorem wordB_skip (k : Nat) (f : Nat → Bool) (h : f k = false) : wordB (k + 1) f = wordB k f := by
  rw [wordB, if_neg (by rw [h]; decide)]
theorem wordB_zero (k : Nat) (f : Nat → Bool) : wordB k f = 0 ↔ ∀ i, i < k → f i = false := by
  induction k with
  | zero => simp [wordB]
  | succ k ih =>
    have hp : 0 < 2 ^ k := Nat.pow_pos (by omega)
    cases hf : f k with
    | true =>
      rw [wordB_add k f hf]
      constructor
      · intro h; omega
      · intro h; rw [h k (by omega)] at hf; cases hf
    | false =>
      rw [wordB_skip k f hf, ih]
      constructor
      · intro h i hi
        by_cases e : i = k
        · rw [e]; exact hf
        · exact h i (by omega)
      · intro h i hi; exact h i (by omega)
theorem wordB_congr {k : Nat} {f g : Nat → Bool} (h : ∀ i, i < k → f i = g i) : wordB k f = wordB k g := by
  induction k with
  | zero => rfl
  | succ k ih => rw [wordB, wordB, h k (by omega), ih (fun i hi => h i (by omega))]
#print axioms set_val
#print axioms wordB_zero
end Go.Proofs.Ytgamppdfjbcbeaa
