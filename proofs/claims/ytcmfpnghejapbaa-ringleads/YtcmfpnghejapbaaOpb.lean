/-
  Opening the laws' arguments: a slice of bools.
-/
import Derived.Test.YtcmfpnghejapbaaOpen
import Derived.Test.YtcmfpnghejapbaaEmm
namespace Go.Proofs.Ytcmfpnghejapbaa
open Go.ChangeShapes Go.WideShapes Go.ChangeAt Go.RowKit Go.Deep

section
variable {H : Type} {enc : TypeId × Value → H} {P : Program} {w : World} {base : Nat} {held : Bool}
theorem open_bools {t i : TypeId} {fuel : Nat} {A : Option Addr} {len cap : Nat} {x : DataW H × List MemPlace} (ht : P.underlying t = some (.slice i)) (hi : P.underlying i = some .bool) (hc1 : P.cellsOf i = 1)
    (h : DataW.trod enc P w base (fun _ => true) held fuel t [.slice A len cap] = some x) :
    ∃ l : List Bool, l.length = len ∧ len ≤ cap ∧ cap ≤ maxLen ∧ Bits w w.heap.size A l ∧ (len = 0 ∨ ∃ el sp, x.1 = .slice el sp ∧ el.length = len) := by
  rcases open_slice ht h with ⟨h0, _⟩ | ⟨a, len', cap', m, n, D, Pl, hcs, hb, hl, hm, hmm, hx, hel⟩
  · simp at h0
    obtain ⟨rfl, rfl, rfl⟩ := h0
    exact ⟨[], rfl, Nat.le_refl _, Nat.zero_le _, fun h => absurd h (by simp), .inl rfl⟩
  · simp at hcs
    obtain ⟨rfl, rfl, rfl⟩ := hcs
    simp at hmm
    subst hmm
    rw [hc1] at hel
    have key : ∀ i, i < m → ∃ y : Bool, w.cell? (a.add i) = some (.bool y) := by
      intro i0 hi0
      obtain ⟨cs', hc, ht'⟩ := hel i0 hi0
      obtain ⟨_, hcl, hat⟩ := World.cells?_some hc
      match cs', hcl with
      | [v0], _ =>
        obtain ⟨x0, e0, _⟩ := DataW.trod_bool hi ht'
        simp at e0
        subst e0
        have a0 := hat 0 (by omega)
        rw [add_add] at a0
        exact ⟨x0, by simpa using a0⟩
    refine ⟨(List.range len).map fun i => if hi : i < m then Classical.choose (key i hi) else false, by simp, hl, hm, ?_, .inr ⟨_, _, by rw [hx], by simp⟩⟩
    intro h0
    simp at h0
    obtain ⟨b, off, spot⟩ := a
    have hspot : spot = none := by
      have := Classical.choose_spec (key 0 (by omega))
      simpa [Addr.add] using World.cell?_spot this
    subst hspot
    refine ⟨b, off, rfl, ?_, fun i hi => ?_⟩
    · have := cell_lt (Classical.choose_spec (key 0 (by omega)))
      simpa [Addr.add] using this
    · rw [bat_get _ hi]
      simp at hi
      have hi' : i < m := by omega
      simp only [List.getElem_map, List.getElem_range, dif_pos hi']
      rw [← Classical.choose_spec (key i hi'), Go.WideShapes.add_plain]
end
#print axioms open_bools
end Go.Proofs.Ytcmfpnghejapbaa
