/-
  Timestamps as the program finds them, event by event: plain.
-/
import Derived.Test.YtiokfehckhbnaaaStep
namespace Go.Proofs.Ytiokfehckhbnaaa

structure TInv (l : List Ev) (k : Nat) (A : Nat → Nat) : Prop where
  fin : Part (Nxt l) l.length k A
  far : ∀ j, k ≤ j → j < l.length → (∀ i, i < k → Nxt l i j → A i ≤ A j) ∧ (A j = 0 ∨ ∃ i, i < k ∧ Nxt l i j ∧ A j = A i)
structure TMid (l : List Ev) (k q : Nat) (A : Nat → Nat) : Prop where
  fin : Part (Nxt l) l.length (k + 1) A
  far : ∀ j, k < j → j < l.length → (∀ i, i < k → Nxt l i j → A i ≤ A j) ∧ (j ∈ (fol l k).take q → A k ≤ A j) ∧ (A j = 0 ∨ ∃ i, i ≤ k ∧ Nxt l i j ∧ A j = A i)

theorem TInv.start (l : List Ev) : TInv l 0 (fun _ => 0) :=
  ⟨⟨fun _ j h => by omega, fun j h => by omega, fun j h => by omega, fun _ _ => Nat.le_refl _⟩, fun j _ _ => ⟨fun i h => by omega, .inl rfl⟩⟩
theorem TInv.mid {l : List Ev} {k : Nat} {A : Nat → Nat} (h : TInv l k A) (hk : k < l.length) : TMid l k 0 (upd A k (A k + 1)) := by
  have hoth : ∀ x, x ≠ k → upd A k (A k + 1) x = A x := fun x hx => upd_other A _ hx
  have hsame : upd A k (A k + 1) k = A k + 1 := upd_same _ _ _
  obtain ⟨f1, f2⟩ := h.far k (Nat.le_refl _) hk
  refine ⟨⟨fun i j hj hn => ?_, fun j hj => ?_, fun j hj => ?_, fun j hj => ?_⟩, fun j hj hl => ?_⟩
  · have hlt := hn.lt.1
    rw [hoth i (by omega)]
    rcases Nat.lt_or_ge j k with h1 | h1
    · rw [hoth j (by omega)]; exact h.fin.up i j h1 hn
    · have : j = k := by omega
      subst this
      rw [hsame]
      have := f1 i hlt hn
      omega
  · rcases Nat.lt_or_ge j k with h1 | h1
    · rw [hoth j (by omega)]; exact h.fin.one j h1
    · have : j = k := by omega
      subst this
      rw [hsame]; omega
  · rcases Nat.lt_or_ge j k with h1 | h1
    · rw [hoth j (by omega)]
      rcases h.fin.at_ j h1 with h2 | ⟨i, h2, h3⟩
      · exact .inl h2
      · exact .inr ⟨i, h2, by rw [hoth i (by have := h2.lt; omega)]; exact h3⟩
    · have : j = k := by omega
      subst this
      rw [hsame]
      rcases f2 with h2 | ⟨i, h2, h3, h4⟩
      · exact .inl (by omega)
      · exact .inr ⟨i, h3, by rw [hoth i (by omega)]; omega⟩
  · have := h.fin.le j hj
    have := h.fin.le k hk
    by_cases e : j = k
    · subst e; rw [hsame]; omega
    · rw [hoth j e]; omega
  · obtain ⟨g1, g2⟩ := h.far j (by omega) hl
    rw [hoth j (by omega)]
    refine ⟨fun i hi hn => by rw [hoth i (by omega)]; exact g1 i hi hn, fun hh => by simp at hh, ?_⟩
    rcases g2 with g2 | ⟨i, g2, g3, g4⟩
    · exact .inl g2
    · exact .inr ⟨i, by omega, g3, by rw [hoth i (by omega)]; exact g4⟩
theorem TMid.step {l : List Ev} {k q : Nat} {A : Nat → Nat} (h : TMid l k q A) (hq : q < (fol l k).length) : TMid l k (q + 1) (upd A ((fol l k)[q]) (max (A ((fol l k)[q])) (A k))) := by
  have hn0 : Nxt l k ((fol l k)[q]) := (fol_mem l k _).1 (List.getElem_mem hq)
  have htk : (fol l k).take (q + 1) = (fol l k).take q ++ [(fol l k)[q]] := by rw [List.take_succ_eq_append_getElem hq]
  generalize (fol l k)[q] = j0 at *
  have hlt0 := hn0.lt
  have hoth : ∀ x, x ≠ j0 → upd A j0 (max (A j0) (A k)) x = A x := fun x hx => upd_other A _ hx
  have hsame : upd A j0 (max (A j0) (A k)) j0 = max (A j0) (A k) := upd_same _ _ _
  have hlow : ∀ x, x ≤ k → upd A j0 (max (A j0) (A k)) x = A x := fun x hx => hoth x (by omega)
  refine ⟨⟨fun i j hj hn => ?_, fun j hj => ?_, fun j hj => ?_, fun j hj => ?_⟩, fun j hj hl => ?_⟩
  · rw [hlow i (by have := hn.lt; omega), hlow j (by omega)]; exact h.fin.up i j hj hn
  · rw [hlow j (by omega)]; exact h.fin.one j hj
  · rw [hlow j (by omega)]
    rcases h.fin.at_ j hj with h2 | ⟨i, h2, h3⟩
    · exact .inl h2
    · exact .inr ⟨i, h2, by rw [hlow i (by have := h2.lt; omega)]; exact h3⟩
  · have h1 := h.fin.le j hj
    have h2 := h.fin.le k (by omega)
    by_cases e : j = j0
    · subst e; rw [hsame]; omega
    · rw [hoth j e]; exact h1
  · obtain ⟨g1, g2, g3⟩ := h.far j hj hl
    by_cases e : j = j0
    · subst e
      rw [hsame, hlow k (Nat.le_refl _)]
      refine ⟨fun i hi hn => by rw [hlow i (by omega)]; have := g1 i hi hn; omega, fun _ => by omega, ?_⟩
      rcases Nat.le_total (A k) (A j) with h1 | h1
      · rw [Nat.max_eq_left h1]
        rcases g3 with g3 | ⟨i, g3, g4, g5⟩
        · exact .inl g3
        · exact .inr ⟨i, g3, g4, by rw [upd_other A _ (show i ≠ j by omega)]; exact g5⟩
      · rw [Nat.max_eq_right h1]
        exact .inr ⟨k, Nat.le_refl _, hn0, by rw [upd_other A _ (show k ≠ j by omega)]⟩
    · rw [hoth j e, hlow k (Nat.le_refl _)]
      refine ⟨fun i hi hn => by rw [hlow i (by omega)]; exact g1 i hi hn, fun hh => ?_, ?_⟩
      · rw [htk, List.mem_append, List.mem_singleton] at hh
        rcases hh with hh | hh
        · exact g2 hh
        · exact absurd hh e
      · rcases g3 with g3 | ⟨i, g3, g4, g5⟩
        · exact .inl g3
        · exact .inr ⟨i, g3, g4, by rw [hlow i g3]; exact g5⟩
theorem TMid.done {l : List Ev} {k : Nat} {A : Nat → Nat} (h : TMid l k (fol l k).length A) : TInv l (k + 1) A := by
  refine ⟨h.fin, fun j hj hl => ?_⟩
  obtain ⟨g1, g2, g3⟩ := h.far j (by omega) hl
  rw [List.take_length, fol_mem] at g2
  refine ⟨fun i hi hn => ?_, ?_⟩
  · rcases Nat.lt_or_ge i k with h1 | h1
    · exact g1 i h1 hn
    · have : i = k := by omega
      subst this
      exact g2 hn
  · rcases g3 with g3 | ⟨i, g3, g4, g5⟩
    · exact .inl g3
    · exact .inr ⟨i, by omega, g4, g5⟩

theorem nxt_lt {l : List Ev} : ∀ i j, j < l.length → Nxt l i j → i < l.length := fun i j hj h => by have := h.lt; omega
theorem hb_lt {l : List Ev} : ∀ i j, j < l.length → HB l i j → i < l.length := fun i j hj h => by have := h.lt; omega
theorem TInv.rank {l : List Ev} {A : Nat → Nat} (hs : Sole l) (h : TInv l l.length A) : Rank (HB l) l.length A :=
  (h.fin.rank.trans nxt_lt).iff fun i j => (hb_nxt hs i j).symm

#print axioms TMid.step
end Go.Proofs.Ytiokfehckhbnaaa
