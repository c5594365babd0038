/-
  Ranks of a relation (one more than the greatest rank of what comes before): plain.
-/
import Derived.Test.YtpofmhlmaejmoaaPast
namespace Go.Proofs.Ytpofmhlmaejmoaa

/-- T is one more than the greatest T of what comes before, or 1. -/
structure Rank (R : Nat → Nat → Prop) (c : Nat) (T : Nat → Nat) : Prop where
  up : ∀ i j, j < c → R i j → T i < T j
  one : ∀ j, j < c → 1 ≤ T j
  at_ : ∀ j, j < c → T j = 1 ∨ ∃ i, R i j ∧ T j = T i + 1

theorem Rank.le {R : Nat → Nat → Prop} {c : Nat} {T T' : Nat → Nat} (hR : ∀ i j, j < c → R i j → i < c) (h : Rank R c T) (h' : Rank R c T') : ∀ n j, j < c → T j = n → T j ≤ T' j := by
  intro n
  induction n using Nat.strongRecOn with
  | ind n ih =>
    intro j hj hn
    rcases h.at_ j hj with h1 | ⟨i, h1, h2⟩
    · have := h'.one j hj; omega
    · have := ih (T i) (by omega) i (hR i j hj h1) rfl
      have := h'.up i j hj h1
      omega
theorem Rank.same {R : Nat → Nat → Prop} {c : Nat} {T T' : Nat → Nat} (hR : ∀ i j, j < c → R i j → i < c) (h : Rank R c T) (h' : Rank R c T') {j : Nat} (hj : j < c) : T j = T' j := by
  have h1 := h.le hR h' _ j hj rfl
  have h2 := h'.le hR h _ j hj rfl
  omega
theorem Rank.trans {R : Nat → Nat → Prop} {c : Nat} {T : Nat → Nat} (hR : ∀ i j, j < c → R i j → i < c) (h : Rank R c T) : Rank (Relation.TransGen R) c T := by
  refine ⟨fun i j hj hh => ?_, h.one, fun j hj => ?_⟩
  · induction hh with
    | single a => exact h.up _ _ hj a
    | tail _ a ih => exact Nat.lt_trans (ih (hR _ _ hj a)) (h.up _ _ hj a)
  · rcases h.at_ j hj with h1 | ⟨i, h1, h2⟩
    · exact .inl h1
    · exact .inr ⟨i, .single h1, h2⟩
theorem Rank.congr {R : Nat → Nat → Prop} {c : Nat} {T T' : Nat → Nat} (hR : ∀ i j, j < c → R i j → i < c) (h : Rank R c T) (e : ∀ j, j < c → T j = T' j) : Rank R c T' := by
  refine ⟨fun i j hj hh => ?_, fun j hj => ?_, fun j hj => ?_⟩
  · rw [← e i (hR i j hj hh), ← e j hj]; exact h.up i j hj hh
  · rw [← e j hj]; exact h.one j hj
  · rw [← e j hj]
    rcases h.at_ j hj with h1 | ⟨i, h1, h2⟩
    · exact .inl h1
    · exact .inr ⟨i, h1, by rw [← e i (hR i j hj h1)]; exact h2⟩
theorem Rank.iff {R R' : Nat → Nat → Prop} {c : Nat} {T : Nat → Nat} (h : Rank R c T) (e : ∀ i j, R i j ↔ R' i j) : Rank R' c T := by
  refine ⟨fun i j hj hh => h.up i j hj ((e i j).2 hh), h.one, fun j hj => ?_⟩
  rcases h.at_ j hj with h1 | ⟨i, h1, h2⟩
  · exact .inl h1
  · exact .inr ⟨i, (e i j).1 h1, h2⟩

/-- While ranks are being found: those below k are found; row j beyond k has the greatest of those before it below k. -/
structure Part (R : Nat → Nat → Prop) (c k : Nat) (A : Nat → Nat) : Prop where
  up : ∀ i j, j < k → R i j → A i < A j
  one : ∀ j, j < k → 1 ≤ A j
  at_ : ∀ j, j < k → A j = 1 ∨ ∃ i, R i j ∧ A j = A i + 1
  le : ∀ j, j < c → A j ≤ k
theorem Part.rank {R : Nat → Nat → Prop} {c : Nat} {A : Nat → Nat} (h : Part R c c A) : Rank R c A := ⟨h.up, h.one, h.at_⟩

/-- A height from the other side. -/
theorem Rank.high {R : Nat → Nat → Prop} {c : Nat} {T D : Nat → Nat} (hR : ∀ i j, j < c → R i j → i < c) (h : Rank R c T) (h' : Rank (fun i j => R j i) c D) : ∀ n j, j < c → T j = n → ∃ i, i < c ∧ T j + D j ≤ D i + 1 := by
  intro n
  induction n using Nat.strongRecOn with
  | ind n ih =>
    intro j hj hn
    rcases h.at_ j hj with h1 | ⟨i, h1, h2⟩
    · exact ⟨j, hj, by omega⟩
    · have hi := hR i j hj h1
      obtain ⟨x, hx, hh⟩ := ih (T i) (by omega) i hi rfl
      have := h'.up j i hi h1
      exact ⟨x, hx, by omega⟩

def upd (A : Nat → Nat) (j v : Nat) : Nat → Nat := fun x => if x = j then v else A x
theorem upd_same (A : Nat → Nat) (j v : Nat) : upd A j v j = v := by simp [upd]
theorem upd_other (A : Nat → Nat) {j x : Nat} (v : Nat) (h : x ≠ j) : upd A j v x = A x := by simp [upd, h]

#print axioms Rank.high
end Go.Proofs.Ytpofmhlmaejmoaa
