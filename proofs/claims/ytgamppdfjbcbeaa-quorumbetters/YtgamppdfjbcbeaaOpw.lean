/-
  Opening the laws' arguments: a slice of words of 32 bits.
-/
import Derived.Test.YtgamppdfjbcbeaaOpen
import Derived.Test.YtgamppdfjbcbeaaWme
namespace Go.Proofs.Ytgamppdfjbcbeaa
open Go.ChangeShapes Go.WideShapes Go.ChangeAt Go.RowKit Go.Deep

section
variable {H : Type} {enc : TypeId × Value → H} {P : Program} {w : World} {base : Nat} {held : Bool}
theorem open_words {t i : TypeId} {fuel : Nat} {A : Option Addr} {len cap : Nat} {x : DataW H × List MemPlace} (ht : P.underlying t = some (.slice i)) (hi : P.underlying i = some (.int .u32)) (hc1 : P.cellsOf i = 1)
    (h : DataW.trod enc P w base (fun _ => true) held fuel t [.slice A len cap] = some x) :
    ∃ l : List Nat, l.length = len ∧ len ≤ cap ∧ cap ≤ maxLen ∧ Wds w w.heap.size A l ∧ WFits l ∧ (len = 0 ∨ ∃ el sp, x.1 = .slice el sp ∧ el.length = len) := by
  rcases open_slice ht h with ⟨h0, _⟩ | ⟨a, len', cap', m, n, D, Pl, hcs, hb, hl, hm, hmm, hx, hel⟩
  · simp at h0
    obtain ⟨rfl, rfl, rfl⟩ := h0
    exact ⟨[], rfl, Nat.le_refl _, Nat.zero_le _, fun h => absurd h (by simp), fun i => by rw [wat_out [] (Nat.zero_le _)]; decide, .inl rfl⟩
  · simp at hcs
    obtain ⟨rfl, rfl, rfl⟩ := hcs
    simp at hmm
    subst hmm
    rw [hc1] at hel
    have key : ∀ i, i < m → ∃ y : Nat, w.cell? (a.add i) = some (.int .u32 (y : Int)) ∧ y < 4294967296 := by
      intro i0 hi0
      obtain ⟨cs', hc, ht'⟩ := hel i0 hi0
      obtain ⟨_, hcl, hat⟩ := World.cells?_some hc
      match cs', hcl with
      | [v0], _ =>
        obtain ⟨x0, e0, _, w0⟩ := DataW.trod_int hi ht'
        simp at e0
        subst e0
        have a0 := hat 0 (by omega)
        rw [add_add] at a0
        obtain ⟨b1, b2⟩ := Go.bounds_u32 w0
        refine ⟨x0.toNat, ?_, by omega⟩
        rw [show ((x0.toNat : Nat) : Int) = x0 by omega]
        simpa using a0
    have hget : ∀ i, (hi : i < len) → wat ((List.range len).map fun i => if hi : i < m then Classical.choose (key i hi) else 0) i = Classical.choose (key i (Nat.lt_of_lt_of_le hi hl)) := by
      intro i hi
      have hi' : i < m := Nat.lt_of_lt_of_le hi hl
      rw [wat_get _ (by simpa using hi)]
      simp only [List.getElem_map, List.getElem_range, dif_pos hi']
    refine ⟨(List.range len).map fun i => if hi : i < m then Classical.choose (key i hi) else 0, by simp, hl, hm, ?_, ?_, .inr ⟨_, _, by rw [hx], by simp⟩⟩
    · intro h0
      simp at h0
      obtain ⟨b, off, spot⟩ := a
      have hspot : spot = none := by
        have := (Classical.choose_spec (key 0 (by omega))).1
        simpa [Addr.add] using World.cell?_spot this
      subst hspot
      refine ⟨b, off, rfl, ?_, fun i hi => ?_⟩
      · have := cell_lt (Classical.choose_spec (key 0 (by omega))).1
        simpa [Addr.add] using this
      · have hi2 : i < len := by simpa using hi
        rw [hget i hi2, ← (Classical.choose_spec (key i (Nat.lt_of_lt_of_le hi2 hl))).1, Go.WideShapes.add_plain]
    · intro i
      rcases Nat.lt_or_ge i len with hi | hi
      · rw [hget i hi]
        exact (Classical.choose_spec (key i (Nat.lt_of_lt_of_le hi hl))).2
      · rw [wat_out _ (by simpa using hi)]
        decide
end
#print axioms open_words
end Go.Proofs.Ytgamppdfjbcbeaa
