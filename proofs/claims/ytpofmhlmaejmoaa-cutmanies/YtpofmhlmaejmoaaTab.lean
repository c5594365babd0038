/-
  A table of bools in memory: a row of slices, a row of bools each.
-/
import Derived.Test.YtpofmhlmaejmoaaVia
import Derived.Test.YtpofmhlmaejmoaaRowW
namespace Go.Proofs.Ytpofmhlmaejmoaa
open Go.RowKit

def rowOf (f : Nat → Nat → Bool) (c i : Nat) : List Bool := (List.range c).map (f i)
theorem rowOf_len (f : Nat → Nat → Bool) (c i : Nat) : (rowOf f c i).length = c := by simp [rowOf]
theorem rowOf_get (f : Nat → Nat → Bool) {c i j : Nat} (h : j < c) : (rowOf f c i)[j]'(by rw [rowOf_len]; exact h) = f i j := by simp [rowOf]
theorem rowOf_congr {f f' : Nat → Nat → Bool} {c i : Nat} (h : ∀ j, j < c → f i j = f' i j) : rowOf f c i = rowOf f' c i := by
  unfold rowOf
  exact List.map_congr_left (fun j hj => h j (List.mem_range.1 hj))
theorem rowOf_same (f : Nat → Nat → Bool) (c i j : Nat) (v : Bool) : rowOf (upd2 f i j v) c i = (rowOf f c i).set j v := by
  apply List.ext_getElem
  · simp [rowOf]
  · intro b h1 h2
    rw [List.getElem_set]
    by_cases e : j = b
    · subst e; simp [rowOf, upd2]
    · rw [if_neg e]
      have : ¬ b = j := fun h => e h.symm
      simp [rowOf, upd2, this]
theorem rowOf_other (f : Nat → Nat → Bool) {c i a : Nat} (j : Nat) (v : Bool) (h : a ≠ i) : rowOf (upd2 f i j v) c a = rowOf f c a :=
  rowOf_congr fun b _ => by simp [upd2, h]

structure Tab (w : World) (B T c k : Nat) (gs : Nat → Nat) (f : Nat → Nat → Bool) : Prop where
  top : ∃ xs, Row w T 28 xs ∧ xs.length = c ∧ ∀ i, i < k → xs[i]? = some (.slice (some ⟨gs i, 0, none⟩) c c)
  row : ∀ i, i < k → Row w (gs i) 4 (bools (rowOf f c i))
  inj : ∀ i j, i < k → j < k → gs i = gs j → i = j
  low : B ≤ T ∧ ∀ i, i < k → B ≤ gs i

section
variable {w w' : World} {B B' T c k : Nat} {gs : Nat → Nat} {f : Nat → Nat → Bool}

theorem Tab.ne (h : Tab w B T c k gs f) {i : Nat} (hi : i < k) : T ≠ gs i := by
  intro e
  obtain ⟨xs, h1, _⟩ := h.top
  have h2 := h.row i hi
  unfold Row at h1 h2
  rw [← e, h1] at h2
  injection h2 with h2
  injection h2 with _ h2
  exact absurd h2 (by decide)
theorem Tab.topLt (h : Tab w B T c k gs f) : T < w.heap.size := by
  obtain ⟨_, h1, _⟩ := h.top
  exact h1.lt
theorem Tab.slot (h : Tab w B T c k gs f) {i : Nat} (hi : i < k) (hc : i < c) : w.cell? ⟨T, i, none⟩ = some (.slice (some ⟨gs i, 0, none⟩) c c) := by
  obtain ⟨xs, h1, h2, h3⟩ := h.top
  have h4 := h3 i hi
  rw [h1.cell (by omega)]
  rw [List.getElem?_eq_getElem (by omega)] at h4
  exact h4
theorem Tab.cell (h : Tab w B T c k gs f) {i j : Nat} (hi : i < k) (hj : j < c) : w.cell? ⟨gs i, j, none⟩ = some (.bool (f i j)) := by
  rw [(h.row i hi).cell (by simp [bools, rowOf]; exact hj)]
  simp [bools, rowOf]
theorem Tab.frozen (h : Tab w B T c k gs f) {i : Nat} (hi : i < k) (j : Nat) : w.frozen? ⟨gs i, j, none⟩ = false := (h.row i hi).frozen j
theorem Tab.heap (h : Tab w B T c k gs f) (e : w'.heap = w.heap) : Tab w' B T c k gs f := by
  obtain ⟨⟨xs, h1, h2⟩, h3, h4, h5⟩ := h
  exact ⟨⟨xs, h1.block (by rw [e]), h2⟩, fun i hi => (h3 i hi).block (by rw [e]), h4, h5⟩
theorem Tab.below (h : Tab w B T c k gs f) (hb : Below w.heap.size w w') : Tab w' B T c k gs f := by
  obtain ⟨⟨xs, h1, h2⟩, h3, h4, h5⟩ := h
  exact ⟨⟨xs, h1.below hb h1.lt, h2⟩, fun i hi => (h3 i hi).below hb (h3 i hi).lt, h4, h5⟩
theorem Tab.grown (h : Tab w B T c k gs f) (hb : w.grownBy w' none) : Tab w' B T c k gs f := by
  obtain ⟨⟨xs, h1, h2⟩, h3, h4, h5⟩ := h
  exact ⟨⟨xs, h1.grown hb (by simp), h2⟩, fun i hi => (h3 i hi).grown hb (by simp), h4, h5⟩
theorem Tab.congr {f' : Nat → Nat → Bool} (h : Tab w B T c k gs f) (e : ∀ i j, i < k → j < c → f i j = f' i j) : Tab w B T c k gs f' :=
  ⟨h.top, fun i hi => by rw [← rowOf_congr (fun j hj => e i j hi hj)]; exact h.row i hi, h.inj, h.low⟩
theorem Tab.set (h : Tab w B T c k gs f) {i : Nat} (hi : i < k) (j : Nat) (v : Bool) : Tab (w.setCell ⟨gs i, j, none⟩ (.bool v)) B T c k gs (upd2 f i j v) := by
  have hne := h.ne hi
  obtain ⟨⟨xs, h1, h2⟩, h3, h4, h5⟩ := h
  refine ⟨⟨xs, h1.far (p := ⟨gs i, j, none⟩) hne _, h2⟩, fun a ha => ?_, h4, h5⟩
  by_cases e : a = i
  · subst e
    have := (h3 a ha).set j (.bool v)
    rw [rowOf_same]
    unfold bools at this ⊢
    rw [List.map_set]; exact this
  · rw [rowOf_other f j v e]
    exact (h3 a ha).far (p := ⟨gs i, j, none⟩) (fun hh => e (h4 a i ha hi hh)) _

/-- A row more: made, and laid into the table. -/
def gput (gs : Nat → Nat) (k g : Nat) : Nat → Nat := fun i => if i = k then g else gs i
theorem Tab.push {g : Nat} (h : Tab w B T c k gs f) (hk : k < c) (hg : w.heap.size ≤ g) (hgr : w.grownBy w' none) (hr : Row w' g 4 (bools (rowOf f c k))) (hB : B ≤ w.heap.size) :
    Tab (w'.setCell ⟨T, k, none⟩ (.slice (some ⟨g, 0, none⟩) c c)) B T c (k + 1) (gput gs k g) f := by
  have hT := h.topLt
  have h' := h.grown hgr
  have hne : ∀ {i}, i < k → gs i ≠ T := fun {i} hi e => h.ne hi e.symm
  have hlt : ∀ {i}, i < k → gs i < w.heap.size := fun {i} hi => (h.row i hi).lt
  obtain ⟨⟨xs, h1, h2, h3⟩, h4, h5, h6⟩ := h'
  refine ⟨⟨_, h1.set k _, by rw [List.length_set]; exact h2, fun i hi => ?_⟩, fun i hi => ?_, fun i j hi hj e => ?_, h6.1, fun i hi => ?_⟩
  · by_cases e : i = k
    · subst e
      rw [List.getElem?_set_self (by omega)]
      simp [gput]
    · rw [List.getElem?_set_ne (fun h => e h.symm), h3 i (by omega)]
      simp [gput, e]
  · by_cases e : i = k
    · subst e
      have : gput gs i g i = g := by simp [gput]
      rw [this]
      exact hr.far (p := ⟨T, i, none⟩) (by show g ≠ T; omega) _
    · have : gput gs k g i = gs i := by simp [gput, e]
      rw [this]
      exact (h4 i (by omega)).far (p := ⟨T, k, none⟩) (hne (by omega)) _
  · unfold gput at e
    by_cases e1 : i = k
    · by_cases e2 : j = k
      · omega
      · rw [if_pos e1, if_neg e2] at e
        have := hlt (i := j) (by omega)
        omega
    · by_cases e2 : j = k
      · rw [if_neg e1, if_pos e2] at e
        have := hlt (i := i) (by omega)
        omega
      · rw [if_neg e1, if_neg e2] at e
        exact h5 i j (by omega) (by omega) e
  · unfold gput
    split
    · omega
    · exact h6.2 i (by omega)
end

/-- In the first phase: rows below i are done, row i up to j. -/
def part (l : List Ev) (i j : Nat) : Nat → Nat → Bool := fun a b => if a < i then dirB l a b else if a = i ∧ b < j then dirB l a b else false
theorem part_step (l : List Ev) (i j : Nat) : upd2 (part l i j) i j (dirB l i j) = part l i (j + 1) := by
  funext a b
  unfold upd2 part
  by_cases h : a = i ∧ b = j
  · obtain ⟨rfl, rfl⟩ := h
    rw [if_pos ⟨rfl, rfl⟩, if_neg (by omega), if_pos (by omega)]
  · rw [if_neg h]
    by_cases h1 : a < i
    · rw [if_pos h1, if_pos h1]
    · rw [if_neg h1, if_neg h1]
      by_cases h2 : a = i ∧ b < j
      · rw [if_pos h2, if_pos (by omega)]
      · rw [if_neg h2, if_neg (by omega)]
theorem part_new (l : List Ev) (c i : Nat) : rowOf (part l i (i + 1)) c i = List.replicate c false := by
  apply List.ext_getElem
  · simp [rowOf]
  · intro b h1 h2
    have : part l i (i + 1) i b = false := by
      unfold part
      rw [if_neg (by omega)]
      by_cases h : i = i ∧ b < i + 1
      · rw [if_pos h]
        rw [← Bool.not_eq_true, dirB_iff]
        intro hh
        have := hh.1
        omega
      · rw [if_neg h]
    simp [rowOf, this]
theorem part_old (l : List Ev) {i a : Nat} (j b : Nat) (h : a < i) : dirB l a b = part l i j a b := by unfold part; rw [if_pos h]
theorem part_end (l : List Ev) {i a c b : Nat} (h : a < i + 1) (hb : b < c) : part l i c a b = dirB l a b := by
  unfold part
  by_cases h1 : a < i
  · rw [if_pos h1]
  · rw [if_neg h1, if_pos (by omega)]

#print axioms Tab.push
end Go.Proofs.Ytpofmhlmaejmoaa
