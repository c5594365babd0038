/-
  The numbers that a test picks, in their order: plain; and as a slice of ints that the call has made and lengthens.
-/
import Derived.Test.YtejckoffllhjcaaLV
import Derived.Test.YtejckoffllhjcaaIntW
namespace Go.Proofs.Ytejckoffllhjcaa
open Go.RowKit Go.Maps

/-- The numbers below k that P picks. -/
def pickTo (P : Nat → Bool) : Nat → List Int
  | 0 => []
  | k + 1 => if P k = true then pickTo P k ++ [(k : Int)] else pickTo P k
theorem pickTo_len (P : Nat → Bool) (k : Nat) : (pickTo P k).length ≤ k := by
  induction k with
  | zero => exact Nat.le_refl _
  | succ k ih =>
    unfold pickTo
    split
    · simp; omega
    · omega
theorem pickTo_congr {P Q : Nat → Bool} {k : Nat} (h : ∀ i, i < k → P i = Q i) : pickTo P k = pickTo Q k := by
  induction k with
  | zero => rfl
  | succ k ih =>
    have := ih fun i hi => h i (by omega)
    unfold pickTo
    rw [h k (by omega), this]
theorem pickTo_mem (P : Nat → Bool) (k : Nat) (x : Int) : x ∈ pickTo P k ↔ ∃ i : Nat, i < k ∧ P i = true ∧ x = (i : Int) := by
  induction k with
  | zero => simp [pickTo]
  | succ k ih =>
    unfold pickTo
    split
    · rename_i hk
      rw [List.mem_append, ih]
      constructor
      · rintro (⟨i, h1, h2, h3⟩ | h)
        · exact ⟨i, by omega, h2, h3⟩
        · exact ⟨k, by omega, hk, by simpa using h⟩
      · rintro ⟨i, h1, h2, h3⟩
        by_cases e : i = k
        · right; simp [h3, e]
        · exact .inl ⟨i, by omega, h2, h3⟩
    · rename_i hk
      rw [ih]
      constructor
      · rintro ⟨i, h1, h2, h3⟩; exact ⟨i, by omega, h2, h3⟩
      · rintro ⟨i, h1, h2, h3⟩
        by_cases e : i = k
        · rw [e] at h2; exact absurd h2 hk
        · exact ⟨i, by omega, h2, h3⟩
theorem pickTo_sorted (P : Nat → Bool) (k : Nat) : (pickTo P k).Pairwise (· < ·) := by
  induction k with
  | zero => simp [pickTo]
  | succ k ih =>
    unfold pickTo
    split
    · rw [List.pairwise_append]
      refine ⟨ih, by simp, fun a ha b hb => ?_⟩
      obtain ⟨i, h1, _, h3⟩ := (pickTo_mem P k a).1 ha
      have : b = (k : Int) := by simpa using hb
      omega
    · exact ih

def intVals (xs : List Int) : List Value := xs.map fun x => Value.int .i64 x
theorem intVals_len (xs : List Int) : (intVals xs).length = xs.length := by simp [intVals]
/-- The call's own slice v holds the ints xs. -/
abbrev OwnInts (w : World) (B : Nat) (v : Value) (xs : List Int) : Prop := w.ownsRow B 3 1 v xs.length (intVals xs)
theorem OwnInts.nums {w : World} {B : Nat} {v : Value} {xs : List Int} (h : OwnInts w B v xs) : ∃ A cap, v = .slice A xs.length cap ∧ xs.length ≤ cap ∧ cap ≤ maxLen ∧ Nums w w.heap.size A xs := by
  have hlt := h.lt
  have hcells := @World.ownsRow.cells _ _ _ _ _ _ _ h
  rcases h.2 with ⟨h7, h8⟩ | ⟨g, cap, cur, hv, hb', hg', hc1, hc2, _⟩
  · exact ⟨none, 0, by rw [h7, h8], by omega, by unfold maxLen; omega, fun hq => by omega⟩
  · refine ⟨_, cap, hv, hc1, hc2, fun _ => ⟨g, 0, rfl, (hlt g (by rw [hv]; rfl)).2, fun q hq => ?_⟩⟩
    have := hcells (g := g) (by rw [hv]; rfl) q (.int .i64 xs[q]) (by simp [intVals, hq])
    have hadd : (⟨g, 0, none⟩ : Addr).add q = ⟨g, q, none⟩ := by unfold Addr.add; split <;> simp_all
    rw [hadd] at this
    rw [Nat.zero_add]
    exact this
theorem OwnInts.below {w w' : World} {B : Nat} {v : Value} {xs : List Int} (h : OwnInts w B v xs) (hb : Below w.heap.size w w') : OwnInts w' B v xs := by
  have hlt := h.lt
  refine ⟨h.1, ?_⟩
  rcases h.2 with h7 | ⟨g, cap, cur, hv, hb', hg, rest⟩
  · exact .inl h7
  · refine .inr ⟨g, cap, cur, hv, hb', ?_, rest⟩
    rw [hb.block g (by have := (hlt g (by rw [hv]; rfl)).2; exact this)]
    exact hg
theorem OwnInts.push {w : World} {B g cap : Nat} {xs : List Int} {x : Int} (h : w.ownsRow B 3 1 (.slice (some ⟨g, 0, none⟩) (xs.length + 1) cap) (xs.length + 1) (intVals xs ++ [.int .i64 x])) : OwnInts w B (.slice (some ⟨g, 0, none⟩) (xs.length + 1) cap) (xs ++ [x]) := by
  have e : intVals (xs ++ [x]) = intVals xs ++ [.int .i64 x] := by simp [intVals]
  unfold OwnInts
  rw [e, List.length_append]
  exact h

#print axioms OwnInts.push
end Go.Proofs.Ytejckoffllhjcaa
