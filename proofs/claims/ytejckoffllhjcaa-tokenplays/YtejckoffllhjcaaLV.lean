/-
  Words for memory: a row of lists of values of one cell that the call has made and lengthens.
-/
import Derived.Test.YtejckoffllhjcaaRowW
import Derived.Deep.AppendLies
namespace Go.Proofs.Ytejckoffllhjcaa
open Go.RowKit Go.Maps

/-- A row of c lists of values of one cell (type et), each in a row of its own (the row of them: type tt). -/
structure LV (tt et : TypeId) (w : World) (B T c : Nat) (vs : Nat → Value) (f : Nat → List Value) : Prop where
  top : ∃ xs, Row w T tt xs ∧ xs.length = c ∧ ∀ i, i < c → xs[i]? = some (vs i)
  row : ∀ i, i < c → w.ownsRow B et 1 (vs i) (f i).length (f i)
  apart : ∀ i j, i < c → j < c → i ≠ j → (vs i).ownBlock = none ∨ (vs i).ownBlock ≠ (vs j).ownBlock
  low : B ≤ T
  ne : et ≠ tt

theorem owns_ne_row {w : World} {B : Nat} {e e' : TypeId} {size n : Nat} {v : Value} {xs ys : List Value} {T : Nat} (h : w.ownsRow B e size v n xs) (hT : Row w T e' ys) (hne : e ≠ e') : v.ownBlock ≠ some T := by
  intro he
  rcases h.2 with ⟨rfl, _⟩ | ⟨g, cap, cur, rfl, _, hg, _⟩
  · cases he
  · have : g = T := by simpa [Value.ownBlock] using he
    subst this
    unfold Row at hT
    rw [hg] at hT
    injection hT with hT
    injection hT with _ ht
    exact hne ht
theorem owns_ne_map {w : World} {B : Nat} {e : TypeId} {size n : Nat} {v : Value} {xs : List Value} {H : Type} {P : Program} {K : TypeId} {R : Value → Option (DataW H × List MemPlace)} {M k : Nat} {D : DataW H} (h : w.ownsRow B e size v n xs) (hM : w.ownsMap P K R M k D) : v.ownBlock ≠ some M := by
  intro he
  rcases h.2 with ⟨rfl, _⟩ | ⟨g, cap, cur, rfl, _, hg, _⟩
  · cases he
  · have : g = M := by simpa [Value.ownBlock] using he
    subst this
    obtain ⟨es, cc, hh, _⟩ := hM
    rw [hg] at hh
    injection hh with hh
    cases hh

section
variable {tt et : TypeId} {w w' : World} {B T c : Nat} {vs : Nat → Value} {f : Nat → List Value}
theorem LV.topLt (h : LV tt et w B T c vs f) : T < w.heap.size := by obtain ⟨_, h1, _⟩ := h.top; exact h1.lt
theorem LV.slot (h : LV tt et w B T c vs f) {i : Nat} (hi : i < c) : w.cell? ⟨T, i, none⟩ = some (vs i) := by
  obtain ⟨xs, h1, h2, h3⟩ := h.top
  have := h3 i hi
  rw [List.getElem?_eq_getElem (by omega)] at this
  rw [h1.cell (by omega)]
  exact this
theorem LV.frozen (h : LV tt et w B T c vs f) (i : Nat) : w.frozen? ⟨T, i, none⟩ = false := by obtain ⟨_, h1, _⟩ := h.top; exact h1.frozen i
theorem LV.neTop (h : LV tt et w B T c vs f) {i : Nat} (hi : i < c) : (vs i).ownBlock ≠ some T := by
  obtain ⟨_, h1, _⟩ := h.top
  exact owns_ne_row (h.row i hi) h1 h.ne
theorem LV.kept (h : LV tt et w B T c vs f) {row : Option Nat} (hg : w.grownBy w' row) (hT : some T ≠ row) (hr : ∀ i, i < c → (vs i).ownBlock = none ∨ (vs i).ownBlock ≠ row) : LV tt et w' B T c vs f := by
  obtain ⟨⟨xs, h1, h2⟩, h3, h4, h5, hne⟩ := h
  exact ⟨⟨xs, h1.grown hg hT, h2⟩, fun i hi => (h3 i hi).kept hg (hr i hi), h4, h5, hne⟩
theorem LV.grown (h : LV tt et w B T c vs f) (hg : w.grownBy w' none) : LV tt et w' B T c vs f := h.kept hg (by simp) (fun i _ => by cases hb : (vs i).ownBlock <;> simp)
theorem LV.alloc (h : LV tt et w B T c vs f) (o : Obj) : LV tt et (w.alloc o) B T c vs f := h.grown (World.grownBy_alloc w o none)
theorem LV.below (h : LV tt et w B T c vs f) (hb : Below w.heap.size w w') : LV tt et w' B T c vs f := by
  obtain ⟨⟨xs, h1, h2⟩, h3, h4, h5, hne⟩ := h
  refine ⟨⟨xs, h1.below hb h1.lt, h2⟩, fun i hi => ?_, h4, h5, hne⟩
  have h6 := h3 i hi
  have hlt := h6.lt
  refine ⟨h6.1, ?_⟩
  rcases h6.2 with h7 | ⟨g, cap, cur, hv, hb', hg, rest⟩
  · exact .inl h7
  · refine .inr ⟨g, cap, cur, hv, hb', ?_, rest⟩
    rw [hb.block g (by have := (hlt g (by rw [hv]; rfl)).2; exact this)]
    exact hg
/-- A store into a block that is none of theirs. -/
theorem LV.far (h : LV tt et w B T c vs f) {p : Addr} (hT : T ≠ p.block) (hr : ∀ i, i < c → (vs i).ownBlock ≠ some p.block) (u : Value) : LV tt et (w.setCell p u) B T c vs f := by
  obtain ⟨⟨xs, h1, h2⟩, h3, h4, h5, hne⟩ := h
  refine ⟨⟨xs, h1.far hT u, h2⟩, fun i hi => ?_, h4, h5, hne⟩
  have h6 := h3 i hi
  refine ⟨h6.1, ?_⟩
  rcases h6.2 with h7 | ⟨g, cap, cur, hv, hb', hg, rest⟩
  · exact .inl h7
  · refine .inr ⟨g, cap, cur, hv, hb', ?_, rest⟩
    rw [Below.heap_setCell w p u g (fun e => hr i hi (by rw [hv]; simp [Value.ownBlock, e]))]
    exact hg
theorem LV.congr {f' : Nat → List Value} (h : LV tt et w B T c vs f) (e : ∀ i, i < c → f i = f' i) : LV tt et w B T c vs f' :=
  ⟨h.top, fun i hi => by rw [← e i hi]; exact h.row i hi, h.apart, h.low, h.ne⟩

def vputV (vs : Nat → Value) (i : Nat) (v : Value) : Nat → Value := fun x => if x = i then v else vs x
def lputV (f : Nat → List Value) (i : Nat) (k : Value) : Nat → List Value := fun x => if x = i then f i ++ [k] else f x

/-- 'x[i] = append(x[i], k)'. -/
theorem LV.push (h : LV tt et w B T c vs f) {i g cap : Nat} {k : Value} (hi : i < c) (hown : w'.ownsRow B et 1 (.slice (some ⟨g, 0, none⟩) ((f i).length + 1) cap) ((f i).length + 1) (f i ++ [k]))
    (hg : w.grownBy w' (vs i).ownBlock) (hat : (vs i).ownBlock = some g ∨ w.heap.size ≤ g) :
    LV tt et (w'.setCell ⟨T, i, none⟩ (.slice (some ⟨g, 0, none⟩) ((f i).length + 1) cap)) B T c (vputV vs i (.slice (some ⟨g, 0, none⟩) ((f i).length + 1) cap)) (lputV f i k) := by
  have hT := h.topLt
  have hneT : g ≠ T := by
    rcases hat with h1 | h1
    · intro e; exact h.neTop hi (by rw [h1, e])
    · omega
  have hoth : ∀ x, x < c → x ≠ i → (vs x).ownBlock = none ∨ (vs x).ownBlock ≠ some g := by
    intro x hx hne
    rcases hat with h1 | h1
    · rw [← h1]; exact h.apart x i hx hi hne
    · right
      intro e
      have := ((h.row x hx).lt g e).2
      omega
  have hset : ∀ {v : Value} {n : Nat} {xs : List Value}, w'.ownsRow B et 1 v n xs → v.ownBlock ≠ some T → (w'.setCell ⟨T, i, none⟩ (.slice (some ⟨g, 0, none⟩) ((f i).length + 1) cap)).ownsRow B et 1 v n xs := by
    intro v n xs h6 hne
    refine ⟨h6.1, ?_⟩
    rcases h6.2 with h7 | ⟨g', cap', cur, hv, hb', hg', rest⟩
    · exact .inl h7
    · refine .inr ⟨g', cap', cur, hv, hb', ?_, rest⟩
      rw [Below.heap_setCell w' ⟨T, i, none⟩ _ g' (fun e => hne (by rw [hv]; simp [Value.ownBlock]; exact e))]
      exact hg'
  obtain ⟨⟨xs, h1, h2, h3⟩, h4, h5, h6, hnn⟩ := h
  have h1' : Row w' T tt xs := h1.grown hg (fun e => owns_ne_row (h4 i hi) h1 hnn e.symm)
  refine ⟨⟨_, h1'.set i _, by rw [List.length_set]; exact h2, fun x hx => ?_⟩, fun x hx => ?_, fun x y hx hy hne => ?_, h6, hnn⟩
  · by_cases e : x = i
    · subst e
      rw [List.getElem?_set_self (by omega)]
      simp [vputV]
    · rw [List.getElem?_set_ne (fun h => e h.symm), h3 x hx]
      simp [vputV, e]
  · by_cases e : x = i
    · subst e
      simp only [vputV, lputV, if_pos, List.length_append, List.length_singleton]
      exact hset hown (by simp [Value.ownBlock]; exact hneT)
    · simp only [vputV, lputV, if_neg e]
      refine hset ((h4 x hx).kept hg ?_) (owns_ne_row (h4 x hx) h1 hnn)
      exact h5 x i hx hi e
  · by_cases e1 : x = i
    · by_cases e2 : y = i
      · omega
      · simp only [vputV, if_pos e1, if_neg e2]
        right
        rcases hoth y hy e2 with h | h
        · rw [h]; simp [Value.ownBlock]
        · intro hh; exact h (by rw [← hh]; rfl)
    · by_cases e2 : y = i
      · simp only [vputV, if_neg e1, if_pos e2]
        rcases hoth x hx e1 with h | h
        · exact .inl h
        · exact .inr h
      · simp only [vputV, if_neg e1, if_neg e2]
        exact h5 x y hx hy hne

/-- One of the lists, as a slice that is read. -/
theorem LV.shape (h : LV tt et w B T c vs f) {i : Nat} (hi : i < c) : ∃ A cap, vs i = .slice A (f i).length cap ∧ (f i).length ≤ cap ∧ cap ≤ maxLen ∧ ∀ q, (hq : q < (f i).length) → ∃ g, A = some ⟨g, 0, none⟩ ∧ B ≤ g ∧ g < w.heap.size ∧ (vs i).ownBlock = some g ∧ w.cell? ⟨g, q, none⟩ = some (f i)[q] := by
  have h6 := h.row i hi
  have hlt := h6.lt
  have hcells := @World.ownsRow.cells _ _ _ _ _ _ _ h6
  rcases h6.2 with ⟨h7, h8⟩ | ⟨g, cap, cur, hv, hb', hg', hc1, hc2, _⟩
  · exact ⟨none, 0, by rw [h7, h8], by omega, by unfold maxLen; omega, fun q hq => by omega⟩
  · refine ⟨_, cap, hv, hc1, hc2, fun q hq => ⟨g, rfl, hb', (hlt g (by rw [hv]; rfl)).2, by rw [hv]; rfl, ?_⟩⟩
    have := hcells (g := g) (by rw [hv]; rfl) q (f i)[q] (by simp [hq])
    have hadd : (⟨g, 0, none⟩ : Addr).add q = ⟨g, q, none⟩ := by unfold Addr.add; split <;> simp_all
    rw [hadd] at this
    exact this
end

theorem LV.cellAt {tt et : TypeId} {w : World} {B T c : Nat} {vs : Nat → Value} {f : Nat → List Value} (h : LV tt et w B T c vs f) {i : Nat} (hi : i < c) {A : Option Addr} {n cap : Nat} (hv : vs i = .slice A n cap) {q : Nat} (hq : q < (f i).length) : ∃ g, A = some ⟨g, 0, none⟩ ∧ B ≤ g ∧ g < w.heap.size ∧ w.cell? ⟨g, q, none⟩ = some (f i)[q] := by
  obtain ⟨A2, cap2, h1, _, _, h2⟩ := h.shape hi
  obtain ⟨g, h3, h4, h5, _, h6⟩ := h2 q hq
  rw [hv] at h1
  injection h1 with h7
  exact ⟨g, h7.trans h3, h4, h5, h6⟩
theorem LV.off {tt et : TypeId} {w : World} {B T c : Nat} {vs : Nat → Value} {f : Nat → List Value} (h : LV tt et w B T c vs f) {g : Nat} (hg : g < B) : ∀ i, i < c → (vs i).ownBlock ≠ some g := fun i hi e => by
  have := ((h.row i hi).lt g e).1
  omega
theorem LV.heap {tt et : TypeId} {w w' : World} {B T c : Nat} {vs : Nat → Value} {f : Nat → List Value} (h : LV tt et w B T c vs f) (e : w'.heap = w.heap) : LV tt et w' B T c vs f := by
  obtain ⟨⟨xs, h1, h2⟩, h3, h4, h5, hne⟩ := h
  refine ⟨⟨xs, h1.block (by rw [e]), h2⟩, fun i hi => ?_, h4, h5, hne⟩
  have h6 := h3 i hi
  refine ⟨h6.1, ?_⟩
  rcases h6.2 with h7 | ⟨g, cap, cur, hv, hb', hg, rest⟩
  · exact .inl h7
  · exact .inr ⟨g, cap, cur, hv, hb', by rw [e]; exact hg, rest⟩


section
variable {tt et : TypeId} {W0 w2 : World} {B T c i g cap : Nat} {k : Value} {vs : Nat → Value} {f : Nat → List Value} {o : Obj} {u : Value}
theorem cell_allocV {w : World} {p : Addr} {v : Value} (o : Obj) (h : w.cell? p = some v) (hp : p.block < w.heap.size) : (w.alloc o).cell? p = some v := (World.cell?_alloc_lt w o p hp).trans h
theorem newsV {w : World} {g : Nat} (x : Value) (t : TypeId) (h : g = w.heap.size) : ∀ j u, [x][j]? = some u → (w.alloc (.cells #[x] t)).cell? ((⟨g, 0, none⟩ : Addr).add j) = some u := by
  subst h
  exact World.news_of_block (cs := #[x]) (fr := (0, 0)) (heap_alloc_new w _)
theorem LV.app (h : LV tt et W0 B T c vs f) (hi : i < c) (hown : w2.ownsRow B et 1 (.slice (some ⟨g, 0, none⟩) ((f i).length + 1) cap) ((f i).length + 1) (f i ++ [k]))
    (hg : (W0.alloc o).grownBy w2 (vs i).ownBlock) (hat : (vs i).ownBlock = some g ∨ g = (W0.alloc o).heap.size) :
    LV tt et (w2.setCell ⟨T, i, none⟩ (.slice (some ⟨g, 0, none⟩) ((f i).length + 1) cap)) B T c (vputV vs i (.slice (some ⟨g, 0, none⟩) ((f i).length + 1) cap)) (lputV f i k) :=
  (h.alloc o).push hi hown hg (by rcases hat with h | h; exact .inl h; exact .inr (by omega))
theorem LV.appSlot (h : LV tt et W0 B T c vs f) (hi : i < c) (hg : (W0.alloc o).grownBy w2 (vs i).ownBlock) : w2.cell? ⟨T, i, none⟩ = some (vs i) := hg.cell ((h.alloc o).slot hi) (fun e => h.neTop hi e.symm)
theorem LV.appFrozen (h : LV tt et W0 B T c vs f) (hi : i < c) (hg : (W0.alloc o).grownBy w2 (vs i).ownBlock) : w2.frozen? ⟨T, i, none⟩ = false :=
  (World.frozen?_of_block (hg.block T (h.alloc o).topLt (fun e => h.neTop hi e.symm))).trans ((h.alloc o).frozen i)
theorem LV.appCell {b x : Nat} {v : Value} (hg : (W0.alloc o).grownBy w2 (vs i).ownBlock) (hc : W0.cell? ⟨b, x, none⟩ = some v) (hb : b < W0.heap.size) (hne : some b ≠ (vs i).ownBlock) : w2.cell? ⟨b, x, none⟩ = some v :=
  hg.cell (cell_allocV o hc hb) hne
theorem LV.appBelow {w : World} {b : Nat} (hB : Below b w W0) (hb : b ≤ B) (hs : b ≤ W0.heap.size) (h : LV tt et W0 B T c vs f) (hi : i < c) (hg : (W0.alloc o).grownBy w2 (vs i).ownBlock) (u : Value) : Below b w (w2.setCell ⟨T, i, none⟩ u) :=
  ((hB.alloc hs o).grown hg (Nat.le_trans hs (by simp)) (fun j hj => Nat.le_trans hb ((h.row i hi).lt j hj).1)).setCell (p := ⟨T, i, none⟩) (Nat.le_trans hb h.low) u
end

#print axioms LV.push
end Go.Proofs.Ytejckoffllhjcaa
