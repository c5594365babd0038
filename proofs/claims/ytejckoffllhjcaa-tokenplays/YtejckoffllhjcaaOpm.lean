/-
  Opening the laws' arguments: a slice of moves.
-/
import Derived.Test.YtejckoffllhjcaaOpen
import Derived.Test.YtejckoffllhjcaaMov
namespace Go.Proofs.Ytejckoffllhjcaa
open Go.ChangeShapes Go.WideShapes Go.ChangeAt Go.RowKit Go.Deep

section
variable {H : Type} {enc : TypeId × Value → H} {P : Program} {w : World} {base : Nat} {held : Bool}

theorem open_moves {t e i : TypeId} {f0 f1 f2 f3 : Field} {fuel : Nat} {A : Option Addr} {len cap : Nat} {x : DataW H × List MemPlace} (ht : P.underlying t = some (.slice e)) (he : P.underlying e = some (.struct #[f0, f1, f2, f3]))
    (hi : P.underlying i = some (.int .i64)) (hf0 : f0.type = i ∧ f0.offset = 0) (hf1 : f1.type = i ∧ f1.offset = 1) (hf2 : f2.type = i ∧ f2.offset = 2) (hf3 : f3.type = i ∧ f3.offset = 3) (hc1 : P.cellsOf i = 1)
    (hC : P.cellsOf e = 4) (h : DataW.trod enc P w base (fun _ => true) held fuel t [.slice A len cap] = some x) :
    ∃ l : List Mv, l.length = len ∧ len ≤ cap ∧ cap ≤ maxLen ∧ Mvs w w.heap.size A l ∧ MFits l ∧ (len = 0 ∨ ∃ el sp, x.1 = .slice el sp ∧ el.length = len) := by
  rcases open_slice ht h with ⟨h0, _⟩ | ⟨a, len', cap', m, n, D, Pl, hcs, hb, hl, hm, hmm, hx, hel⟩
  · simp at h0
    obtain ⟨rfl, rfl, rfl⟩ := h0
    exact ⟨[], rfl, Nat.le_refl _, Nat.zero_le _, fun h => absurd h (by simp), fun e he => (by cases he), .inl rfl⟩
  · simp at hcs
    obtain ⟨rfl, rfl, rfl⟩ := hcs
    simp at hmm
    subst hmm
    rw [hC] at hel
    have key : ∀ i, i < m → ∃ ev : Mv, w.cell? (a.add (i * 4)) = some (.int .i64 ev.k) ∧ w.cell? (a.add (i * 4 + 1)) = some (.int .i64 ev.f) ∧ w.cell? (a.add (i * 4 + 2)) = some (.int .i64 ev.t) ∧ w.cell? (a.add (i * 4 + 3)) = some (.int .i64 ev.v) ∧ I64 ev.k ∧ I64 ev.f ∧ I64 ev.t ∧ I64 ev.v := by
      intro i0 hi0
      obtain ⟨cs', hc, ht'⟩ := hel i0 hi0
      obtain ⟨ys, n', hn', hy, hlen, hyl, hf⟩ := DataW.trod_struct he ht'
      obtain ⟨_, hcl, hat⟩ := World.cells?_some hc
      match cs', hcl with
      | [v0, v1, v2, v3], _ =>
        have g0 := hf 0 f0 rfl
        have g1 := hf 1 f1 rfl
        have g2 := hf 2 f2 rfl
        have g3 := hf 3 f3 rfl
        rw [hf0.1, hf0.2, hc1] at g0
        rw [hf1.1, hf1.2, hc1] at g1
        rw [hf2.1, hf2.2, hc1] at g2
        rw [hf3.1, hf3.2, hc1] at g3
        match ys, hyl with
        | [y0, y1, y2, y3], _ =>
          simp at g0 g1 g2 g3
          obtain ⟨x0, e0, _, w0⟩ := DataW.trod_int hi g0
          obtain ⟨x1, e1, _, w1⟩ := DataW.trod_int hi g1
          obtain ⟨x2, e2, _, w2⟩ := DataW.trod_int hi g2
          obtain ⟨x3, e3, _, w3⟩ := DataW.trod_int hi g3
          simp at e0 e1 e2 e3
          subst e0 e1 e2 e3
          have a0 := hat 0 (by omega)
          have a1 := hat 1 (by omega)
          have a2 := hat 2 (by omega)
          have a3 := hat 3 (by omega)
          rw [add_add] at a0 a1 a2 a3
          exact ⟨⟨x0, x1, x2, x3⟩, by simpa using a0, by simpa using a1, by simpa using a2, by simpa using a3, i64_of_wf w0, i64_of_wf w1, i64_of_wf w2, i64_of_wf w3⟩
    have hlc : len ≤ m := hl
    refine ⟨(List.range len).map fun i => if hi : i < m then Classical.choose (key i hi) else ⟨0, 0, 0, 0⟩, by simp, hl, hm, ?_, ?_, .inr ⟨_, _, by rw [hx], by simp⟩⟩
    · intro h0
      simp at h0
      obtain ⟨b, off, spot⟩ := a
      have hspot : spot = none := by
        have := (Classical.choose_spec (key 0 (by omega))).1
        simpa [Addr.add] using World.cell?_spot this
      subst hspot
      refine ⟨b, off, rfl, ?_, fun i hi => ?_⟩
      · have := cell_lt (Classical.choose_spec (key 0 (by omega))).1
        simpa [Addr.add] using this
      · simp at hi
        have hi' : i < m := by omega
        simp only [List.getElem_map, List.getElem_range, dif_pos hi']
        obtain ⟨k0, k1, k2, k3, _⟩ := Classical.choose_spec (key i hi')
        refine ⟨?_, ?_, ?_, ?_⟩
        · rw [← k0, Go.WideShapes.add_plain]
        · rw [← k1, Go.WideShapes.add_plain, Nat.add_assoc]
        · rw [← k2, Go.WideShapes.add_plain, Nat.add_assoc]
        · rw [← k3, Go.WideShapes.add_plain, Nat.add_assoc]
    · intro ev hev
      simp only [List.mem_map, List.mem_range] at hev
      obtain ⟨i, hi, rfl⟩ := hev
      have hi' : i < m := by omega
      simp only [dif_pos hi']
      obtain ⟨_, _, _, _, k4⟩ := Classical.choose_spec (key i hi')
      exact k4
end
#print axioms open_moves
end Go.Proofs.Ytejckoffllhjcaa
