/-
  The greatest of the first numbers: plain.
-/
import Derived.Test.YtiokfehckhbnaaaChn
namespace Go.Proofs.Ytiokfehckhbnaaa

def maxTo (T : Nat → Nat) : Nat → Nat
  | 0 => 0
  | k + 1 => max (maxTo T k) (T k)
theorem maxTo_most (T : Nat → Nat) (c : Nat) (h1 : ∀ j, j < c → 1 ≤ T j) : Most T c (maxTo T c) := by
  induction c with
  | zero => exact ⟨fun i h => by omega, fun _ => rfl, fun h => by omega⟩
  | succ c ih =>
    have h := ih (fun j hj => h1 j (by omega))
    have hc := h1 c (by omega)
    refine ⟨fun i hi => ?_, fun h => by omega, fun _ => ?_⟩
    · unfold maxTo
      rcases Nat.lt_or_ge i c with h2 | h2
      · have := h.le i h2; omega
      · have : i = c := by omega
        subst this
        omega
    · unfold maxTo
      rcases Nat.le_total (maxTo T c) (T c) with h2 | h2
      · exact ⟨c, by omega, by omega⟩
      · rcases Nat.eq_zero_or_pos c with h3 | h3
        · have := h.zero h3
          exact ⟨c, by omega, by omega⟩
        · obtain ⟨i, h4, h5⟩ := h.some_ h3
          exact ⟨i, by omega, by omega⟩
theorem maxTo_le {T : Nat → Nat} {c B : Nat} (h : ∀ j, j < c → T j ≤ B) : ∀ k, k ≤ c → maxTo T k ≤ B := by
  intro k
  induction k with
  | zero => intro _; exact Nat.zero_le _
  | succ k ih =>
    intro hk
    have := ih (by omega)
    have := h k (by omega)
    unfold maxTo
    omega

#print axioms maxTo_most
end Go.Proofs.Ytiokfehckhbnaaa
