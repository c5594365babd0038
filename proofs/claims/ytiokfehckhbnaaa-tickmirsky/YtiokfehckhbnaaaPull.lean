/-
  Ranks found one after the other, each out of those that come before: plain.
-/
import Derived.Test.YtiokfehckhbnaaaRank
namespace Go.Proofs.Ytiokfehckhbnaaa

structure Done (R : Nat → Nat → Prop) (c N : Nat) (S : Nat → Prop) (A : Nat → Nat) : Prop where
  up : ∀ i j, S j → R i j → A i < A j
  one : ∀ j, S j → 1 ≤ A j
  at_ : ∀ j, S j → A j = 1 ∨ ∃ i, R i j ∧ A j = A i + 1
  le : ∀ j, j < c → A j ≤ N
  zero : ∀ y, ¬ S y → A y = 0
structure Pull (R : Nat → Nat → Prop) (c N : Nat) (S : Nat → Prop) (x : Nat) (Y : Nat → Prop) (A : Nat → Nat) : Prop where
  up : ∀ i j, S j → R i j → A i < A j
  one : ∀ j, S j → 1 ≤ A j
  at_ : ∀ j, S j → A j = 1 ∨ ∃ i, R i j ∧ A j = A i + 1
  le : ∀ j, j < c → A j ≤ N
  zero : ∀ y, ¬ S y → y ≠ x → A y = 0
  low : ∀ i, Y i → R i x → A i ≤ A x
  cur : A x = 0 ∨ ∃ i, R i x ∧ A x = A i

section
variable {R : Nat → Nat → Prop} {c N x y : Nat} {S S' Y Y' : Nat → Prop} {A : Nat → Nat}
theorem Done.begin (R : Nat → Nat → Prop) (c : Nat) (hS : ∀ j, ¬ S j) : Done R c 0 S (fun _ => 0) :=
  ⟨fun _ j h => absurd h (hS j), fun j h => absurd h (hS j), fun j h => absurd h (hS j), fun _ _ => Nat.le_refl _, fun _ _ => rfl⟩
theorem Done.pull (h : Done R c N S A) (hx : ¬ S x) (hY : ∀ i, ¬ Y i) : Pull R c N S x Y A :=
  ⟨h.up, h.one, h.at_, h.le, fun y hy _ => h.zero y hy, fun i hi => absurd hi (hY i), .inl (h.zero x hx)⟩
theorem Pull.skip (h : Pull R c N S x Y A) (hY : ∀ i, Y' i → Y i ∨ i = y) (hs : R y x → A y ≤ A x) : Pull R c N S x Y' A :=
  ⟨h.up, h.one, h.at_, h.le, h.zero, fun i hi hr => by rcases hY i hi with h1 | rfl; exact h.low i h1 hr; exact hs hr, h.cur⟩
theorem Pull.take (h : Pull R c N S x Y A) (hcl : ∀ i j, S j → R i j → S i) (hx : ¬ S x) (hirr : ∀ i, R i x → i ≠ x) (hyc : y < c) (hr : R y x) (hY : ∀ i, Y' i → Y i ∨ i = y) : Pull R c N S x Y' (upd A x (max (A x) (A y))) := by
  have hoth : ∀ z, z ≠ x → upd A x (max (A x) (A y)) z = A z := fun z hz => upd_other A _ hz
  have hsame : upd A x (max (A x) (A y)) x = max (A x) (A y) := upd_same _ _ _
  have hne : ∀ j, S j → j ≠ x := fun j hj e => hx (e ▸ hj)
  refine ⟨fun i j hj hij => ?_, fun j hj => ?_, fun j hj => ?_, fun j hj => ?_, fun z hz hzx => ?_, fun i hi hri => ?_, ?_⟩
  · rw [hoth i (hne i (hcl i j hj hij)), hoth j (hne j hj)]; exact h.up i j hj hij
  · rw [hoth j (hne j hj)]; exact h.one j hj
  · rw [hoth j (hne j hj)]
    rcases h.at_ j hj with h1 | ⟨i, h1, h2⟩
    · exact .inl h1
    · exact .inr ⟨i, h1, by rw [hoth i (hne i (hcl i j hj h1))]; exact h2⟩
  · have h1 := h.le j hj
    have h2 := h.le y hyc
    by_cases e : j = x
    · subst e; rw [hsame]; omega
    · rw [hoth j e]; exact h1
  · rw [hoth z hzx]; exact h.zero z hz hzx
  · rw [hsame, hoth i (hirr i hri)]
    rcases hY i hi with h1 | rfl
    · have := h.low i h1 hri; omega
    · omega
  · rw [hsame]
    rcases Nat.le_total (A y) (A x) with h1 | h1
    · rw [Nat.max_eq_left h1]
      rcases h.cur with h2 | ⟨i, h2, h3⟩
      · exact .inl h2
      · exact .inr ⟨i, h2, by rw [upd_other A _ (hirr i h2)]; exact h3⟩
    · rw [Nat.max_eq_right h1]
      exact .inr ⟨y, hr, by rw [upd_other A _ (hirr y hr)]⟩
theorem Pull.done (h : Pull R c N S x Y A) (hcl : ∀ i j, S j → R i j → S i) (hx : ¬ S x) (hall : ∀ i, R i x → Y i) (hirr : ∀ i, R i x → i ≠ x) (hS : ∀ j, S' j ↔ S j ∨ j = x) : Done R c (N + 1) S' (upd A x (A x + 1)) := by
  have hoth : ∀ z, z ≠ x → upd A x (A x + 1) z = A z := fun z hz => upd_other A _ hz
  have hsame : upd A x (A x + 1) x = A x + 1 := upd_same _ _ _
  have hne : ∀ j, S j → j ≠ x := fun j hj e => hx (e ▸ hj)
  refine ⟨fun i j hj hij => ?_, fun j hj => ?_, fun j hj => ?_, fun j hj => ?_, fun z hz => ?_⟩
  · rcases (hS j).1 hj with h1 | rfl
    · rw [hoth i (hne i (hcl i j h1 hij)), hoth j (hne j h1)]; exact h.up i j h1 hij
    · rw [hsame, hoth i (hirr i hij)]
      have := h.low i (hall i hij) hij
      omega
  · rcases (hS j).1 hj with h1 | rfl
    · rw [hoth j (hne j h1)]; exact h.one j h1
    · rw [hsame]; omega
  · rcases (hS j).1 hj with h0 | rfl
    · rw [hoth j (hne j h0)]
      rcases h.at_ j h0 with h1 | ⟨i, h1, h2⟩
      · exact .inl h1
      · exact .inr ⟨i, h1, by rw [hoth i (hne i (hcl i j h0 h1))]; exact h2⟩
    · rw [hsame]
      rcases h.cur with h2 | ⟨i, h2, h3⟩
      · exact .inl (by omega)
      · exact .inr ⟨i, h2, by rw [hoth i (hirr i h2)]; omega⟩
  · have h1 := h.le j hj
    by_cases e : j = x
    · subst e; rw [hsame]; omega
    · rw [hoth j e]; omega
  · have h1 : ¬ S z := fun hh => hz ((hS z).2 (.inl hh))
    have h2 : z ≠ x := fun hh => hz ((hS z).2 (.inr hh))
    rw [hoth z h2]; exact h.zero z h1 h2
theorem Done.rank (h : Done R c N S A) (hS : ∀ j, j < c → S j) : Rank R c A :=
  ⟨fun i j hj => h.up i j (hS j hj), fun j hj => h.one j (hS j hj), fun j hj => h.at_ j (hS j hj)⟩
end

#print axioms Pull.done
end Go.Proofs.Ytiokfehckhbnaaa
