/-
  Words for memory: a slice of moves that reads as a list; how long the queues can be.
-/
import Derived.Test.YtejckoffllhjcaaSnp
namespace Go.Proofs.Ytejckoffllhjcaa
open Go.RowKit Go.Maps

def MvFits (m : Mv) : Prop := I64 m.k ∧ I64 m.f ∧ I64 m.t ∧ I64 m.v
def mvVal (m : Mv) : Value := .agg #[.int .i64 m.k, .int .i64 m.f, .int .i64 m.t, .int .i64 m.v]
/-- The moves of a slice whose array begins at A: in memory below block B. -/
def Mvs (w : World) (B : Nat) (A : Option Addr) (l : List Mv) : Prop :=
  0 < l.length → ∃ b off, A = some ⟨b, off, none⟩ ∧ b < B ∧ ∀ i, (hi : i < l.length) →
    w.cell? ⟨b, off + i * 4, none⟩ = some (.int .i64 l[i].k) ∧ w.cell? ⟨b, off + i * 4 + 1, none⟩ = some (.int .i64 l[i].f) ∧ w.cell? ⟨b, off + i * 4 + 2, none⟩ = some (.int .i64 l[i].t) ∧ w.cell? ⟨b, off + i * 4 + 3, none⟩ = some (.int .i64 l[i].v)
def MFits (l : List Mv) : Prop := ∀ m ∈ l, MvFits m
section
variable {w w' : World} {B B' : Nat} {A : Option Addr} {l : List Mv}
theorem Mvs.below (h : Mvs w B A l) (hb : Below B w w') : Mvs w' B A l := by
  intro h0
  obtain ⟨b, off, e, hl, hc⟩ := h h0
  exact ⟨b, off, e, hl, fun i hi => by rw [hb.cell hl, hb.cell hl, hb.cell hl, hb.cell hl]; exact hc i hi⟩
theorem Mvs.more (h : Mvs w B A l) (hB : B ≤ B') : Mvs w B' A l := by
  intro h0
  obtain ⟨b, off, e, hb, hc⟩ := h h0
  exact ⟨b, off, e, by omega, hc⟩
theorem Mvs.take (h : Mvs w B A l) (n : Nat) : Mvs w B A (l.take n) := by
  intro h0
  have hl : (l.take n).length ≤ l.length := by simp; omega
  obtain ⟨b, off, e, hb, hc⟩ := h (by omega)
  exact ⟨b, off, e, hb, fun i hi => by simp only [List.getElem_take]; exact hc i (by omega)⟩
theorem MFits.take (h : MFits l) (n : Nat) : MFits (l.take n) := fun m hm => h m (List.mem_of_mem_take hm)
theorem MFits.at_ (h : MFits l) {i : Nat} (hi : i < l.length) : MvFits (mv l i) := by rw [← mv_get l hi]; exact h _ (List.getElem_mem hi)
end

theorem record_len (n : Nat) (S : St) (i a b : Nat) : ((S.record n i).q a b).length ≤ (S.q a b).length + 1 := by
  show (if a = i ∧ b ≠ i ∧ b < n then _ else _ : List Int).length ≤ _
  split
  · rw [List.length_append]; exact Nat.le_refl _
  · exact Nat.le_succ _
theorem pop_len (S : St) (i j a b : Nat) : ((S.pop i j).q a b).length ≤ (S.q a b).length := by
  simp only [St.pop, up2]
  split
  · next h => rw [h.1, h.2, List.length_tail]; omega
  · exact Nat.le_refl _
theorem take_len (n : Nat) (S : St) (i j a b : Nat) : ((S.take n i j).q a b).length ≤ (S.q a b).length + 1 := by
  have h1 := pop_len S i j a b
  unfold St.take
  split
  · show (((S.pop i j).recIf n j).q a b).length ≤ _
    unfold St.recIf
    split
    · omega
    · have := record_len n (S.pop i j) j a b
      omega
  · have : ((S.pop i j).got i j ((S.q i j).headD 0)).q = (S.pop i j).q := by unfold St.got; split <;> rfl
    rw [this]; omega
theorem step_len (n : Nat) (S : St) (m : Mv) (a b : Nat) : ((stepS n S m).1.q a b).length ≤ (S.q a b).length + 1 := by
  unfold stepS
  split
  · exact Nat.le_succ _
  split
  · split
    · exact Nat.le_succ _
    · split
      · exact Nat.le_succ _
      · exact record_len n S _ a b
  split
  · exact Nat.le_succ _
  split
  · split
    · exact Nat.le_succ _
    · show (up2 S.q m.f.toNat m.t.toNat (S.q m.f.toNat m.t.toNat ++ [m.v]) a b).length ≤ _
      unfold up2
      split
      · next h => rw [h.1, h.2, List.length_append]; exact Nat.le_refl _
      · exact Nat.le_succ _
  · split
    · exact Nat.le_succ _
    · exact take_len n S _ _ a b
theorem stAt_len (n : Nat) (l : List Mv) (k a b : Nat) : ((stAt n l k).q a b).length ≤ k := by
  induction k with
  | zero => exact Nat.le_refl _
  | succ k ih => exact Nat.le_trans (step_len n _ _ a b) (by omega)

/-- Which scripts are played. -/
def Plays (n : Int) (many : Nat) : Prop := 1 ≤ n ∧ n ≤ 6 ∧ many ≤ 60

#print axioms stAt_len
end Go.Proofs.Ytejckoffllhjcaa
