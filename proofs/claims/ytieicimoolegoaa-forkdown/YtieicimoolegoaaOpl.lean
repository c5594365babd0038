/-
  Opening the laws' arguments: a slice of links.
-/
import Derived.Test.YtieicimoolegoaaOpen
import Derived.Test.YtieicimoolegoaaLks
namespace Go.Proofs.Ytieicimoolegoaa
open Go.ChangeShapes Go.WideShapes Go.ChangeAt Go.RowKit Go.Deep

section
variable {H : Type} {enc : TypeId × Value → H} {P : Program} {w : World} {base : Nat} {held : Bool}
theorem open_links {t e i : TypeId} {fuel : Nat} {A : Option Addr} {len cap : Nat} {x : DataW H × List MemPlace} (ht : P.underlying t = some (.slice e)) (he : P.underlying e = some (.array 2 i)) (hi : P.underlying i = some (.int .i64)) (hc1 : P.cellsOf i = 1)
    (hC : P.cellsOf e = 2) (h : DataW.trod enc P w base (fun _ => true) held fuel t [.slice A len cap] = some x) :
    ∃ l : List Lk, l.length = len ∧ len ≤ cap ∧ cap ≤ maxLen ∧ Lks w w.heap.size A l ∧ LFits l ∧ (len = 0 ∨ ∃ el sp, x.1 = .slice el sp ∧ el.length = len) := by
  rcases open_slice ht h with ⟨h0, _⟩ | ⟨a, len', cap', m, n, D, Pl, hcs, hb, hl, hm, hmm, hx, hel⟩
  · simp at h0
    obtain ⟨rfl, rfl, rfl⟩ := h0
    exact ⟨[], rfl, Nat.le_refl _, Nat.zero_le _, fun h => absurd h (by simp), fun e he => (by cases he), .inl rfl⟩
  · simp at hcs
    obtain ⟨rfl, rfl, rfl⟩ := hcs
    simp at hmm
    subst hmm
    rw [hC] at hel
    have key : ∀ i, i < m → ∃ ev : Lk, w.cell? (a.add (i * 2)) = some (.int .i64 ev.a) ∧ w.cell? (a.add (i * 2 + 1)) = some (.int .i64 ev.b) ∧ I64 ev.a ∧ I64 ev.b := by
      intro i0 hi0
      obtain ⟨cs', hc, ht'⟩ := hel i0 hi0
      obtain ⟨ys, n', hn', hy, hlen, hyl, hf⟩ := DataW.trod_array he ht'
      obtain ⟨_, hcl, hat⟩ := World.cells?_some hc
      match cs', hcl with
      | [v0, v1], _ =>
        have g0 := hf 0 (by omega)
        have g1 := hf 1 (by omega)
        rw [hc1] at g0 g1
        match ys, hyl with
        | [y0, y1], _ =>
          simp at g0 g1
          obtain ⟨x0, e0, _, w0⟩ := DataW.trod_int hi g0
          obtain ⟨x1, e1, _, w1⟩ := DataW.trod_int hi g1
          simp at e0 e1
          subst e0 e1
          have a0 := hat 0 (by omega)
          have a1 := hat 1 (by omega)
          rw [add_add] at a0 a1
          exact ⟨⟨x0, x1⟩, by simpa using a0, by simpa using a1, i64_of_wf w0, i64_of_wf w1⟩
    have hlc : len ≤ m := hl
    refine ⟨(List.range len).map fun i => if hi : i < m then Classical.choose (key i hi) else ⟨0, 0⟩, by simp, hl, hm, ?_, ?_, .inr ⟨_, _, by rw [hx], by simp⟩⟩
    · intro h0
      simp at h0
      obtain ⟨b, off, spot⟩ := a
      have hspot : spot = none := by
        have := (Classical.choose_spec (key 0 (by omega))).1
        simpa [Addr.add] using World.cell?_spot this
      subst hspot
      refine ⟨b, off, rfl, ?_, fun i hi => ?_⟩
      · have := cell_lt (Classical.choose_spec (key 0 (by omega))).1
        simpa [Addr.add] using this
      · simp at hi
        have hi' : i < m := by omega
        simp only [List.getElem_map, List.getElem_range, dif_pos hi']
        obtain ⟨k0, k1, _⟩ := Classical.choose_spec (key i hi')
        refine ⟨?_, ?_⟩
        · rw [← k0, Go.WideShapes.add_plain]
        · rw [← k1, Go.WideShapes.add_plain, Nat.add_assoc]
    · intro ev hev
      simp only [List.mem_map, List.mem_range] at hev
      obtain ⟨i, hi, rfl⟩ := hev
      have hi' : i < m := by omega
      simp only [dif_pos hi']
      obtain ⟨_, _, k3⟩ := Classical.choose_spec (key i hi')
      exact k3
end
#print axioms open_links
end Go.Proofs.Ytieicimoolegoaa
