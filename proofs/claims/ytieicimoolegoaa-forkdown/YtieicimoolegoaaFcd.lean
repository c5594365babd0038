/-
  The code that all functions of package fork begin with. Plain.
-/
import Derived.Test.YtieicimoolegoaaFru
namespace Go.Proofs.Ytieicimoolegoaa
open Go.RowKit Go.Maps
set_option linter.unusedVariables false
open Classical in
/-- The document's first error of the links. -/
noncomputable def fcode (n : Int) (l : List Lk) : Int := if LargeL n l then 1 else if ¬ LOk n l then 2 else if Once l then 0 else 3
section
variable {n : Int} {l : List Lk}
theorem fcode_large (h : LargeL n l) : fcode n l = 1 := by unfold fcode; rw [if_pos h]
theorem fcode_bad (h : ¬ LargeL n l) (h2 : ¬ LOk n l) : fcode n l = 2 := by unfold fcode; rw [if_neg h, if_pos h2]
theorem fcode_twice (h : ¬ LargeL n l) (h2 : LOk n l) (h4 : ¬ Once l) : fcode n l = 3 := by unfold fcode; rw [if_neg h, if_neg (fun h => h h2), if_neg h4]
theorem fcode_ok (h : ¬ LargeL n l) (h2 : LOk n l) (h4 : Once l) : fcode n l = 0 := by unfold fcode; rw [if_neg h, if_neg (fun h => h h2), if_pos h4]
theorem fcode_zero (h : fcode n l = 0) : ¬ LargeL n l ∧ LOk n l ∧ Once l := by
  unfold fcode at h
  split at h
  · omega
  · next h1 =>
    split at h
    · omega
    · next h2 =>
      split at h
      · next h3 => exact ⟨h1, Classical.not_not.1 h2, h3⟩
      · omega
theorem fcode_cases (n : Int) (l : List Lk) : fcode n l = 0 ∨ fcode n l = 1 ∨ fcode n l = 2 ∨ fcode n l = 3 := by
  unfold fcode
  split
  · exact .inr (.inl rfl)
  · split
    · exact .inr (.inr (.inl rfl))
    · split
      · exact .inl rfl
      · exact .inr (.inr (.inr rfl))
theorem fcode_lcode (n : Int) (l : List Lk) : (lcode n l ≠ 0 ∧ fcode n l = lcode n l) ∨ (lcode n l = 0 ∧ ¬ Once l ∧ fcode n l = 3) ∨ (lcode n l = 0 ∧ Once l ∧ fcode n l = 0) := by
  by_cases h : LargeL n l
  · left; rw [lcode_large h, fcode_large h]; exact ⟨by omega, rfl⟩
  · by_cases h2 : LOk n l
    · right
      rw [lcode_ok h h2]
      by_cases h3 : Once l
      · right; exact ⟨rfl, h3, fcode_ok h h2 h3⟩
      · left; exact ⟨rfl, h3, fcode_twice h h2 h3⟩
    · left; rw [lcode_bad h h2, fcode_bad h h2]; exact ⟨by omega, rfl⟩
theorem fcode_FV (h : fcode n l = 0) : n = (n.toNat : Int) ∧ FV n.toNat l := by
  obtain ⟨h1, h2, h3⟩ := fcode_zero h
  unfold LargeL at h1
  have e : n = (n.toNat : Int) := by omega
  exact ⟨e, by omega, by omega, by rw [← e]; exact h2, h3⟩
theorem fcode_len (h : fcode n l = 0) : l.length ≤ 15 := by
  obtain ⟨h1, _, _⟩ := fcode_zero h
  unfold LargeL at h1
  omega
theorem FV_fcode {N : Nat} (h : FV N l) (h15 : l.length ≤ 15) : fcode (N : Int) l = 0 := by
  refine fcode_ok ?_ h.ok h.once
  have := h.one
  have := h.six
  unfold LargeL
  omega
end
#print axioms fcode_FV
end Go.Proofs.Ytieicimoolegoaa
