/-
  Opening the laws' arguments: a slice of events, a slice of ints.
-/
import Derived.Test.YtgamppdfjbcbeaaWords
import Derived.ProofKit
import Derived.OpenShut
import Derived.Deep.Slices
import Derived.ChangeOld
import Derived.ChangeSame
import Derived.SizedLaws
namespace Go.Proofs.Ytgamppdfjbcbeaa
open Go.ChangeShapes Go.WideShapes Go.ChangeAt Go.RowKit Go.Deep

section
variable {H : Type} {enc : TypeId × Value → H} {P : Program} {w : World} {base : Nat} {spare : Nat → Bool} {held : Bool}

/-- A cell that holds something lies in a block that is there, at a plain address. -/
theorem cell_lt {a : Addr} {v : Value} (h : w.cell? a = some v) : a.block < w.heap.size := by
  rcases Nat.lt_or_ge a.block w.heap.size with h1 | h1
  · exact h1
  · unfold World.cell? at h
    rw [Array.getElem?_eq_none h1] at h
    cases h

theorem i64_of_wf {x : Int} (h : (Lit.int .i64 x).wf = true) : I64 x := by
  have := Go.bounds_i64 h
  exact ⟨by omega, by omega⟩

theorem open_events {t e i : TypeId} {f0 f1 f2 : Field} {fuel : Nat} {A : Option Addr} {len cap : Nat} {x : DataW H × List MemPlace} (ht : P.underlying t = some (.slice e)) (he : P.underlying e = some (.struct #[f0, f1, f2]))
    (hi : P.underlying i = some (.int .i64)) (hf0 : f0.type = i ∧ f0.offset = 0) (hf1 : f1.type = i ∧ f1.offset = 1) (hf2 : f2.type = i ∧ f2.offset = 2) (hc1 : P.cellsOf i = 1)
    (hC : P.cellsOf e = 3) (h : DataW.trod enc P w base (fun _ => true) held fuel t [.slice A len cap] = some x) :
    ∃ l : List Ev, l.length = len ∧ len ≤ cap ∧ cap ≤ maxLen ∧ Evs w w.heap.size A l ∧ Fits l ∧ (len = 0 ∨ ∃ el sp, x.1 = .slice el sp ∧ el.length = len) := by
  rcases open_slice ht h with ⟨h0, _⟩ | ⟨a, len', cap', m, n, D, Pl, hcs, hb, hl, hm, hmm, hx, hel⟩
  · simp at h0
    obtain ⟨rfl, rfl, rfl⟩ := h0
    exact ⟨[], rfl, Nat.le_refl _, Nat.zero_le _, fun h => absurd h (by simp), fun e he => (by cases he), .inl rfl⟩
  · simp at hcs
    obtain ⟨rfl, rfl, rfl⟩ := hcs
    simp at hmm
    subst hmm
    rw [hC] at hel
    have key : ∀ i, i < m → ∃ ev : Ev, w.cell? (a.add (i * 3)) = some (.int .i64 ev.p) ∧ w.cell? (a.add (i * 3 + 1)) = some (.int .i64 ev.k) ∧ w.cell? (a.add (i * 3 + 2)) = some (.int .i64 ev.m) ∧ I64 ev.p ∧ I64 ev.k ∧ I64 ev.m := by
      intro i0 hi0
      obtain ⟨cs', hc, ht'⟩ := hel i0 hi0
      obtain ⟨ys, n', hn', hy, hlen, hyl, hf⟩ := DataW.trod_struct he ht'
      obtain ⟨_, hcl, hat⟩ := World.cells?_some hc
      match cs', hcl with
      | [v0, v1, v2], _ =>
        have g0 := hf 0 f0 rfl
        have g1 := hf 1 f1 rfl
        have g2 := hf 2 f2 rfl
        rw [hf0.1, hf0.2, hc1] at g0
        rw [hf1.1, hf1.2, hc1] at g1
        rw [hf2.1, hf2.2, hc1] at g2
        match ys, hyl with
        | [y0, y1, y2], _ =>
          simp at g0 g1 g2
          obtain ⟨x0, e0, _, w0⟩ := DataW.trod_int hi g0
          obtain ⟨x1, e1, _, w1⟩ := DataW.trod_int hi g1
          obtain ⟨x2, e2, _, w2⟩ := DataW.trod_int hi g2
          simp at e0 e1 e2
          subst e0 e1 e2
          have a0 := hat 0 (by omega)
          have a1 := hat 1 (by omega)
          have a2 := hat 2 (by omega)
          rw [add_add] at a0 a1 a2
          exact ⟨⟨x0, x1, x2⟩, by simpa using a0, by simpa using a1, by simpa using a2, i64_of_wf w0, i64_of_wf w1, i64_of_wf w2⟩
    have hlc : len ≤ m := hl
    refine ⟨(List.range len).map fun i => if hi : i < m then Classical.choose (key i hi) else ⟨0, 0, 0⟩, by simp, hl, hm, ?_, ?_, .inr ⟨_, _, by rw [hx], by simp⟩⟩
    · intro h0
      simp at h0
      obtain ⟨b, off, spot⟩ := a
      have hspot : spot = none := by
        have := (Classical.choose_spec (key 0 (by omega))).1
        simpa [Addr.add] using World.cell?_spot this
      subst hspot
      refine ⟨b, off, rfl, ?_, fun i hi => ?_⟩
      · have := cell_lt (Classical.choose_spec (key 0 (by omega))).1
        simpa [Addr.add] using this
      · simp at hi
        have hi' : i < m := by omega
        simp only [List.getElem_map, List.getElem_range, dif_pos hi']
        obtain ⟨k0, k1, k2, _⟩ := Classical.choose_spec (key i hi')
        refine ⟨?_, ?_, ?_⟩
        · rw [← k0, Go.WideShapes.add_plain]
        · rw [← k1, Go.WideShapes.add_plain, Nat.add_assoc]
        · rw [← k2, Go.WideShapes.add_plain, Nat.add_assoc]
    · intro ev hev
      simp only [List.mem_map, List.mem_range] at hev
      obtain ⟨i, hi, rfl⟩ := hev
      have hi' : i < m := by omega
      simp only [dif_pos hi']
      obtain ⟨_, _, _, k3⟩ := Classical.choose_spec (key i hi')
      exact k3

theorem open_nums {t i : TypeId} {fuel : Nat} {A : Option Addr} {len cap : Nat} {x : DataW H × List MemPlace} (ht : P.underlying t = some (.slice i)) (hi : P.underlying i = some (.int .i64)) (hc1 : P.cellsOf i = 1)
    (h : DataW.trod enc P w base (fun _ => true) held fuel t [.slice A len cap] = some x) :
    ∃ l : List Int, l.length = len ∧ len ≤ cap ∧ cap ≤ maxLen ∧ Nums w w.heap.size A l ∧ NumFits l ∧ (len = 0 ∨ ∃ el sp, x.1 = .slice el sp ∧ el.length = len) := by
  rcases open_slice ht h with ⟨h0, _⟩ | ⟨a, len', cap', m, n, D, Pl, hcs, hb, hl, hm, hmm, hx, hel⟩
  · simp at h0
    obtain ⟨rfl, rfl, rfl⟩ := h0
    exact ⟨[], rfl, Nat.le_refl _, Nat.zero_le _, fun h => absurd h (by simp), fun e he => (by cases he), .inl rfl⟩
  · simp at hcs
    obtain ⟨rfl, rfl, rfl⟩ := hcs
    simp at hmm
    subst hmm
    rw [hc1] at hel
    have key : ∀ i, i < m → ∃ y : Int, w.cell? (a.add i) = some (.int .i64 y) ∧ I64 y := by
      intro i0 hi0
      obtain ⟨cs', hc, ht'⟩ := hel i0 hi0
      obtain ⟨_, hcl, hat⟩ := World.cells?_some hc
      match cs', hcl with
      | [v0], _ =>
        obtain ⟨x0, e0, _, w0⟩ := DataW.trod_int hi ht'
        simp at e0
        subst e0
        have a0 := hat 0 (by omega)
        rw [add_add] at a0
        exact ⟨x0, by simpa using a0, i64_of_wf w0⟩
    refine ⟨(List.range len).map fun i => if hi : i < m then Classical.choose (key i hi) else 0, by simp, hl, hm, ?_, ?_, .inr ⟨_, _, by rw [hx], by simp⟩⟩
    · intro h0
      simp at h0
      obtain ⟨b, off, spot⟩ := a
      have hspot : spot = none := by
        have := (Classical.choose_spec (key 0 (by omega))).1
        simpa [Addr.add] using World.cell?_spot this
      subst hspot
      refine ⟨b, off, rfl, ?_, fun i hi => ?_⟩
      · have := cell_lt (Classical.choose_spec (key 0 (by omega))).1
        simpa [Addr.add] using this
      · simp at hi
        have hi' : i < m := by omega
        simp only [List.getElem_map, List.getElem_range, dif_pos hi']
        rw [← (Classical.choose_spec (key i hi')).1, Go.WideShapes.add_plain]
    · intro y hy
      simp only [List.mem_map, List.mem_range] at hy
      obtain ⟨i, hi, rfl⟩ := hy
      have hi' : i < m := by omega
      simp only [dif_pos hi']
      exact (Classical.choose_spec (key i hi')).2

end
#print axioms open_events
#print axioms open_nums
end Go.Proofs.Ytgamppdfjbcbeaa
