/-
  Words for memory: a block of n records of m cells each, known by a function; a row of bools by a function.
-/
import Derived.Test.YtejckoffllhjcaaRowW
import Derived.Test.YtejckoffllhjcaaSnp
import Derived.Laws.OwnMore
namespace Go.Proofs.Ytejckoffllhjcaa
open Go.RowKit Go.Maps

theorem rowG_ne {w : World} {a b : Nat} {t t' : TypeId} {xs ys : List Value} (h : Row w a t xs) (h' : Row w b t' ys) (hne : t ≠ t') : a ≠ b := by
  intro e
  subst e
  unfold Row at h h'
  rw [h] at h'
  injection h' with h'
  injection h' with _ h'
  exact hne h'
theorem divmodG {m i c a b : Nat} (hc : c < m) (hb : b < m) (h : i * m + c = a * m + b) : i = a ∧ c = b := by
  have h1 : (i * m + c) / m = i := by
    rw [Nat.mul_comm, Nat.mul_add_div (by omega), Nat.div_eq_of_lt hc]; omega
  have h2 : (a * m + b) / m = a := by
    rw [Nat.mul_comm, Nat.mul_add_div (by omega), Nat.div_eq_of_lt hb]; omega
  rw [h] at h1
  have e : i = a := h1.symm.trans h2
  subst e
  exact ⟨rfl, by omega⟩
theorem cellG_lt {m n i c : Nat} (hi : i < n) (hc : c < m) : i * m + c < n * m := by
  have : (i + 1) * m ≤ n * m := Nat.mul_le_mul_right m hi
  rw [Nat.succ_mul] at this
  omega

/-- Block P holds n records of m cells. -/
def Grid (w : World) (P : Nat) (t : TypeId) (m n : Nat) (g : Nat → Nat → Value) : Prop :=
  ∃ xs, Row w P t xs ∧ xs.length = n * m ∧ ∀ i c, i < n → c < m → xs[i * m + c]? = some (g i c)
section
variable {w w' : World} {P m n : Nat} {t : TypeId} {g g' : Nat → Nat → Value}
theorem Grid.lt (h : Grid w P t m n g) : P < w.heap.size := by obtain ⟨_, h, _⟩ := h; exact h.lt
theorem Grid.block (h : Grid w P t m n g) (hb : w'.heap[P]? = w.heap[P]?) : Grid w' P t m n g := by obtain ⟨xs, h1, h2⟩ := h; exact ⟨xs, h1.block hb, h2⟩
theorem Grid.frozen (h : Grid w P t m n g) (i : Nat) : w.frozen? ⟨P, i, none⟩ = false := by obtain ⟨_, h1, _⟩ := h; exact h1.frozen i
theorem Grid.row (h : Grid w P t m n g) : ∃ xs, Row w P t xs := by obtain ⟨xs, h1, _⟩ := h; exact ⟨xs, h1⟩
theorem Grid.ne {b : Nat} {t' : TypeId} {ys : List Value} (h : Grid w P t m n g) (hr : Row w b t' ys) (hne : t ≠ t') : P ≠ b := by obtain ⟨xs, h1, _⟩ := h; exact rowG_ne h1 hr hne
theorem Grid.cell (h : Grid w P t m n g) {i c : Nat} (hi : i < n) (hc : c < m) : w.cell? ⟨P, i * m + c, none⟩ = some (g i c) := by
  obtain ⟨xs, h1, h2, h3⟩ := h
  rw [cell_of_row w P (i * m + c) xs.toArray t (0, 0) h1]
  simpa using h3 i c hi hc
theorem Grid.congr (h : Grid w P t m n g) (e : ∀ i c, i < n → c < m → g' i c = g i c) : Grid w P t m n g' := by
  obtain ⟨xs, h1, h2, h3⟩ := h
  exact ⟨xs, h1, h2, fun i c hi hc => by rw [e i c hi hc]; exact h3 i c hi hc⟩
theorem Grid.set (h : Grid w P t m n g) {i c : Nat} (hi : i < n) (hc : c < m) (v : Value) : Grid (w.setCell ⟨P, i * m + c, none⟩ v) P t m n (up2 g i c v) := by
  obtain ⟨xs, h1, h2, h3⟩ := h
  refine ⟨_, h1.set (i * m + c) v, by rw [List.length_set]; exact h2, fun a b ha hb => ?_⟩
  by_cases e : a = i ∧ b = c
  · obtain ⟨rfl, rfl⟩ := e
    rw [up2_same, List.getElem?_set_self (by rw [h2]; exact cellG_lt hi hc)]
  · rw [up2_other _ _ e, List.getElem?_set_ne (fun h => e (by have := divmodG hc hb h; exact ⟨this.1.symm, this.2.symm⟩))]
    exact h3 a b ha hb
/-- 'make([]T, n)' at records. -/
theorem madeG_at {z : Array Value} {n m i c : Nat} (hz : z.size = m) (hi : i < n) (hc : c < m) : (madeCells z (n * m)).toList[i * m + c]? = some (z[c]'(by omega)) := by
  have h := cellG_lt hi hc
  unfold madeCells
  rw [Array.toList_map, List.getElem?_map, Array.toList_range, List.getElem?_range h]
  have h2 : (i * m + c) % m = c := by rw [Nat.mul_comm, Nat.mul_add_mod]; exact Nat.mod_eq_of_lt hc
  simp only [Option.map_some, hz, h2]
  rw [getElem!_pos z c (by omega)]
end
theorem wpList_make_grid {Pg : Program} (w : World) {ops : Array Oper} {rest : List Oper} {o : Oper} {a : Act} {Q : Exit → Act → World → Prop}
    (hg : o.guard = none) (l c : Operand) (t : TypeId) (hop : o.op = Op.makeSlice t l c) (e : TypeId) (i : TypeInfo) (z : Value) (m : Nat) (h1 : Pg.underlying t = some (.slice e)) (h2 : Pg.info? e = some i) (h3 : i.zero = some z) (h4 : i.size = m) (hzc : z.cells.size = m)
    (kl kc : IntKind) (L C : Int) (n : Nat) (hl : a.eval l = .int kl L) (hc : a.eval c = .int kc C) (hL : L = (n : Int)) (hC : C = (n : Int)) (b2 : i.bytes * n ≤ 281474976710656) (b3 : n ≤ maxLen)
    (hK : ∀ w', Grid w' w.heap.size e m n (fun _ c => z.cells.getD c (.bool false)) → w.grownBy w' none → wpList Pg ops Q rest (a.put o.dst (.slice (some ⟨w.heap.size, 0, none⟩) n n)) w') :
    wpList Pg ops Q (o :: rest) a w := by
  refine wpList_make_full w hg l c _ hop w.heap.size e i z m h1 h2 h3 h4 kl kc L C n hl hc hL hC b2 b3 (Nat.le_refl _) ?_
  intro w' hown hgrow
  rcases hown.2 with ⟨h', _⟩ | ⟨g', cap', cur, h', _, hb, _, _, hcs, htake⟩
  · simp at h'
  · simp only [Value.slice.injEq, Option.some.injEq, Addr.mk.injEq, and_true, true_and] at h'
    obtain ⟨rfl, rfl⟩ := h'
    rw [List.take_of_length_le (by rw [Array.length_toList, hcs]; exact Nat.le_refl _)] at htake
    refine hK w' ⟨cur.toList, by unfold Row; rw [hb], by rw [Array.length_toList]; exact hcs, fun i c hi hc => ?_⟩ hgrow
    rw [htake, madeG_at hzc hi hc]
    congr 1
    show z.cells[c] = z.cells.getD c (Value.bool false)
    rw [Array.getD_eq_getD_getElem?, Array.getElem?_eq_getElem (by omega)]
    rfl

/-! A row of bools. -/
def boolG (f : Nat → Bool) (n : Nat) : List Value := (List.range n).map fun j => Value.bool (f j)
theorem boolG_len (f : Nat → Bool) (n : Nat) : (boolG f n).length = n := by simp [boolG]
theorem boolG_get (f : Nat → Bool) {n j : Nat} (h : j < n) : (boolG f n)[j]'(by rw [boolG_len]; exact h) = .bool (f j) := by simp [boolG]
theorem boolG_set (f : Nat → Bool) (n j : Nat) (v : Bool) : (boolG f n).set j (.bool v) = boolG (up1 f j v) n := by
  apply List.ext_getElem
  · simp [boolG]
  · intro b h1 h2
    rw [List.getElem_set]
    by_cases e : j = b
    · subst e; simp [boolG, up1]
    · rw [if_neg e]
      have : ¬ b = j := fun h => e h.symm
      simp [boolG, up1, this]
theorem boolG_zero (n : Nat) : List.replicate n (Value.bool false) = boolG (fun _ => false) n := by
  apply List.ext_getElem
  · simp [boolG]
  · intro b h1 h2; simp [boolG]
abbrev BRowG (w : World) (g n : Nat) (f : Nat → Bool) : Prop := Row w g 4 (boolG f n)
theorem BRowG.at_ {w : World} {g n : Nat} {f : Nat → Bool} (h : BRowG w g n f) {j : Nat} (hj : j < n) : w.cell? ⟨g, j, none⟩ = some (.bool (f j)) := by
  rw [Row.cell h (by rw [boolG_len]; exact hj), boolG_get f hj]
theorem BRowG.put {w : World} {g n : Nat} {f : Nat → Bool} (h : BRowG w g n f) (j : Nat) (v : Bool) : BRowG (w.setCell ⟨g, j, none⟩ (.bool v)) g n (up1 f j v) := by
  have := Row.set h j (.bool v)
  rw [boolG_set] at this
  exact this
theorem BRowG.congr {w : World} {g n : Nat} {f f' : Nat → Bool} (h : BRowG w g n f) (e : ∀ j, j < n → f j = f' j) : BRowG w g n f' := by
  have : boolG f n = boolG f' n := List.map_congr_left fun j hj => by rw [e j (List.mem_range.1 hj)]
  unfold BRowG at *
  rw [← this]; exact h

#print axioms wpList_make_grid
end Go.Proofs.Ytejckoffllhjcaa
