/-
  Words for memory: a row of numbers that a function gives; a row of lists of numbers that the call has made and lengthens; a map with int keys that tells what it lacks.
-/
import Derived.Test.YtiokfehckhbnaaaRowW
import Derived.Test.YtiokfehckhbnaaaRank
import Derived.Deep.AppendLies
namespace Go.Proofs.Ytiokfehckhbnaaa
open Go.RowKit Go.Maps

/-- The first c numbers of A, as a row's cells. -/
def natRow (A : Nat → Nat) (c : Nat) : List Value := (List.range c).map fun j => Value.int .i64 (A j : Int)
theorem natRow_len (A : Nat → Nat) (c : Nat) : (natRow A c).length = c := by simp [natRow]
theorem natRow_get (A : Nat → Nat) {c j : Nat} (h : j < c) : (natRow A c)[j]'(by rw [natRow_len]; exact h) = .int .i64 (A j : Int) := by simp [natRow]
theorem natRow_congr {A A' : Nat → Nat} {c : Nat} (h : ∀ j, j < c → A j = A' j) : natRow A c = natRow A' c := by
  unfold natRow
  exact List.map_congr_left fun j hj => by rw [h j (List.mem_range.1 hj)]
theorem natRow_set (A : Nat → Nat) (c j v : Nat) : (natRow A c).set j (.int .i64 (v : Int)) = natRow (upd A j v) c := by
  apply List.ext_getElem
  · simp [natRow]
  · intro b h1 h2
    rw [List.getElem_set]
    by_cases e : j = b
    · subst e; simp [natRow, upd]
    · rw [if_neg e]
      have : ¬ b = j := fun h => e h.symm
      simp [natRow, upd, this]
theorem natRow_zero (c : Nat) : List.replicate c (Value.int .i64 0) = natRow (fun _ => 0) c := by
  apply List.ext_getElem
  · simp [natRow]
  · intro b h1 h2; simp [natRow]

def natVals (xs : List Nat) : List Value := xs.map fun (x : Nat) => Value.int .i64 (x : Int)
theorem natRow_vals (A : Nat → Nat) (c : Nat) : natRow A c = natVals ((List.range c).map A) := by simp [natRow, natVals]

/-- A row of ints that a function gives. -/
abbrev NatRow (w : World) (g c : Nat) (A : Nat → Nat) : Prop := Row w g 3 (natRow A c)
section
variable {w w' : World} {g c : Nat} {A : Nat → Nat}
theorem NatRow.at_ (h : NatRow w g c A) {j : Nat} (hj : j < c) : w.cell? ⟨g, j, none⟩ = some (.int .i64 (A j : Int)) := by
  rw [Row.cell h (by rw [natRow_len]; exact hj), natRow_get A hj]
theorem NatRow.put (h : NatRow w g c A) (j v : Nat) : NatRow (w.setCell ⟨g, j, none⟩ (.int .i64 (v : Int))) g c (upd A j v) := by
  have := Row.set h j (.int .i64 (v : Int))
  rw [natRow_set] at this
  exact this
theorem NatRow.congr {A' : Nat → Nat} (h : NatRow w g c A) (e : ∀ j, j < c → A j = A' j) : NatRow w g c A' := by
  unfold NatRow at *
  rw [← natRow_congr e]; exact h
theorem NatRow.heap (h : NatRow w g c A) (e : w'.heap = w.heap) : NatRow w' g c A := Row.block h (by rw [e])
theorem NatRow.nums (h : NatRow w g c A) : Nums w w.heap.size (some ⟨g, 0, none⟩) ((List.range c).map fun j => (A j : Int)) := by
  intro _
  refine ⟨g, 0, rfl, Row.lt h, fun i hi => ?_⟩
  have hi' : i < c := by simpa using hi
  rw [Nat.zero_add, h.at_ hi']
  simp
end

/-- A row of c lists of numbers, each in a row of its own. -/
structure Lists (w : World) (B T c : Nat) (vs : Nat → Value) (f : Nat → List Nat) : Prop where
  top : ∃ xs, Row w T 23 xs ∧ xs.length = c ∧ ∀ i, i < c → xs[i]? = some (vs i)
  row : ∀ i, i < c → w.ownsRow B 3 1 (vs i) (f i).length (natVals (f i))
  apart : ∀ i j, i < c → j < c → i ≠ j → (vs i).ownBlock = none ∨ (vs i).ownBlock ≠ (vs j).ownBlock
  low : B ≤ T

theorem owns_ne_row {w : World} {B : Nat} {e e' : TypeId} {size n : Nat} {v : Value} {xs ys : List Value} {T : Nat} (h : w.ownsRow B e size v n xs) (hT : Row w T e' ys) (hne : e ≠ e') : v.ownBlock ≠ some T := by
  intro he
  rcases h.2 with ⟨rfl, _⟩ | ⟨g, cap, cur, rfl, _, hg, _⟩
  · cases he
  · have : g = T := by simpa [Value.ownBlock] using he
    subst this
    unfold Row at hT
    rw [hg] at hT
    injection hT with hT
    injection hT with _ ht
    exact hne ht
theorem owns_ne_map {w : World} {B : Nat} {e : TypeId} {size n : Nat} {v : Value} {xs : List Value} {H : Type} {P : Program} {K : TypeId} {R : Value → Option (DataW H × List MemPlace)} {M k : Nat} {D : DataW H} (h : w.ownsRow B e size v n xs) (hM : w.ownsMap P K R M k D) : v.ownBlock ≠ some M := by
  intro he
  rcases h.2 with ⟨rfl, _⟩ | ⟨g, cap, cur, rfl, _, hg, _⟩
  · cases he
  · have : g = M := by simpa [Value.ownBlock] using he
    subst this
    obtain ⟨es, cc, hh, _⟩ := hM
    rw [hg] at hh
    injection hh with hh
    cases hh

section
variable {w w' : World} {B T c : Nat} {vs : Nat → Value} {f : Nat → List Nat}
theorem Lists.topLt (h : Lists w B T c vs f) : T < w.heap.size := by obtain ⟨_, h1, _⟩ := h.top; exact h1.lt
theorem Lists.slot (h : Lists w B T c vs f) {i : Nat} (hi : i < c) : w.cell? ⟨T, i, none⟩ = some (vs i) := by
  obtain ⟨xs, h1, h2, h3⟩ := h.top
  have := h3 i hi
  rw [List.getElem?_eq_getElem (by omega)] at this
  rw [h1.cell (by omega)]
  exact this
theorem Lists.frozen (h : Lists w B T c vs f) (i : Nat) : w.frozen? ⟨T, i, none⟩ = false := by obtain ⟨_, h1, _⟩ := h.top; exact h1.frozen i
theorem Lists.neTop (h : Lists w B T c vs f) {i : Nat} (hi : i < c) : (vs i).ownBlock ≠ some T := by
  obtain ⟨_, h1, _⟩ := h.top
  exact owns_ne_row (h.row i hi) h1 (by decide)
theorem Lists.kept (h : Lists w B T c vs f) {row : Option Nat} (hg : w.grownBy w' row) (hT : some T ≠ row) (hr : ∀ i, i < c → (vs i).ownBlock = none ∨ (vs i).ownBlock ≠ row) : Lists w' B T c vs f := by
  obtain ⟨⟨xs, h1, h2⟩, h3, h4, h5⟩ := h
  exact ⟨⟨xs, h1.grown hg hT, h2⟩, fun i hi => (h3 i hi).kept hg (hr i hi), h4, h5⟩
theorem Lists.grown (h : Lists w B T c vs f) (hg : w.grownBy w' none) : Lists w' B T c vs f := h.kept hg (by simp) (fun i _ => by cases hb : (vs i).ownBlock <;> simp)
theorem Lists.alloc (h : Lists w B T c vs f) (o : Obj) : Lists (w.alloc o) B T c vs f := h.grown (World.grownBy_alloc w o none)
theorem Lists.below (h : Lists w B T c vs f) (hb : Below w.heap.size w w') : Lists w' B T c vs f := by
  obtain ⟨⟨xs, h1, h2⟩, h3, h4, h5⟩ := h
  refine ⟨⟨xs, h1.below hb h1.lt, h2⟩, fun i hi => ?_, h4, h5⟩
  have h6 := h3 i hi
  have hlt := h6.lt
  refine ⟨h6.1, ?_⟩
  rcases h6.2 with h7 | ⟨g, cap, cur, hv, hb', hg, rest⟩
  · exact .inl h7
  · refine .inr ⟨g, cap, cur, hv, hb', ?_, rest⟩
    rw [hb.block g (by have := (hlt g (by rw [hv]; rfl)).2; exact this)]
    exact hg
/-- A store into a block that is none of theirs. -/
theorem Lists.far (h : Lists w B T c vs f) {p : Addr} (hT : T ≠ p.block) (hr : ∀ i, i < c → (vs i).ownBlock ≠ some p.block) (u : Value) : Lists (w.setCell p u) B T c vs f := by
  obtain ⟨⟨xs, h1, h2⟩, h3, h4, h5⟩ := h
  refine ⟨⟨xs, h1.far hT u, h2⟩, fun i hi => ?_, h4, h5⟩
  have h6 := h3 i hi
  refine ⟨h6.1, ?_⟩
  rcases h6.2 with h7 | ⟨g, cap, cur, hv, hb', hg, rest⟩
  · exact .inl h7
  · refine .inr ⟨g, cap, cur, hv, hb', ?_, rest⟩
    rw [Below.heap_setCell w p u g (fun e => hr i hi (by rw [hv]; simp [Value.ownBlock, e]))]
    exact hg
theorem Lists.congr {f' : Nat → List Nat} (h : Lists w B T c vs f) (e : ∀ i, i < c → f i = f' i) : Lists w B T c vs f' :=
  ⟨h.top, fun i hi => by rw [← e i hi]; exact h.row i hi, h.apart, h.low⟩

def vput (vs : Nat → Value) (i : Nat) (v : Value) : Nat → Value := fun x => if x = i then v else vs x
def lput (f : Nat → List Nat) (i k : Nat) : Nat → List Nat := fun x => if x = i then f i ++ [k] else f x

/-- 'x[i] = append(x[i], k)'. -/
theorem Lists.push (h : Lists w B T c vs f) {i k g cap : Nat} (hi : i < c) (hown : w'.ownsRow B 3 1 (.slice (some ⟨g, 0, none⟩) ((f i).length + 1) cap) ((f i).length + 1) (natVals (f i) ++ [.int .i64 (k : Int)]))
    (hg : w.grownBy w' (vs i).ownBlock) (hat : (vs i).ownBlock = some g ∨ w.heap.size ≤ g) :
    Lists (w'.setCell ⟨T, i, none⟩ (.slice (some ⟨g, 0, none⟩) ((f i).length + 1) cap)) B T c (vput vs i (.slice (some ⟨g, 0, none⟩) ((f i).length + 1) cap)) (lput f i k) := by
  have hT := h.topLt
  have hneT : g ≠ T := by
    rcases hat with h1 | h1
    · intro e; exact h.neTop hi (by rw [h1, e])
    · omega
  have hoth : ∀ x, x < c → x ≠ i → (vs x).ownBlock = none ∨ (vs x).ownBlock ≠ some g := by
    intro x hx hne
    rcases hat with h1 | h1
    · rw [← h1]; exact h.apart x i hx hi hne
    · right
      intro e
      have := ((h.row x hx).lt g e).2
      omega
  have hset : ∀ {v : Value} {n : Nat} {xs : List Value}, w'.ownsRow B 3 1 v n xs → v.ownBlock ≠ some T → (w'.setCell ⟨T, i, none⟩ (.slice (some ⟨g, 0, none⟩) ((f i).length + 1) cap)).ownsRow B 3 1 v n xs := by
    intro v n xs h6 hne
    refine ⟨h6.1, ?_⟩
    rcases h6.2 with h7 | ⟨g', cap', cur, hv, hb', hg', rest⟩
    · exact .inl h7
    · refine .inr ⟨g', cap', cur, hv, hb', ?_, rest⟩
      rw [Below.heap_setCell w' ⟨T, i, none⟩ _ g' (fun e => hne (by rw [hv]; simp [Value.ownBlock]; exact e))]
      exact hg'
  obtain ⟨⟨xs, h1, h2, h3⟩, h4, h5, h6⟩ := h
  have h1' : Row w' T 23 xs := h1.grown hg (fun e => owns_ne_row (h4 i hi) h1 (by decide) e.symm)
  refine ⟨⟨_, h1'.set i _, by rw [List.length_set]; exact h2, fun x hx => ?_⟩, fun x hx => ?_, fun x y hx hy hne => ?_, h6⟩
  · by_cases e : x = i
    · subst e
      rw [List.getElem?_set_self (by omega)]
      simp [vput]
    · rw [List.getElem?_set_ne (fun h => e h.symm), h3 x hx]
      simp [vput, e]
  · by_cases e : x = i
    · subst e
      simp only [vput, lput, if_pos, List.length_append, List.length_singleton]
      have e2 : natVals (f x ++ [k]) = natVals (f x) ++ [.int .i64 (k : Int)] := by simp [natVals]
      rw [e2]
      exact hset hown (by simp [Value.ownBlock]; exact hneT)
    · simp only [vput, lput, if_neg e]
      refine hset ((h4 x hx).kept hg ?_) (owns_ne_row (h4 x hx) h1 (by decide))
      exact h5 x i hx hi e
  · by_cases e1 : x = i
    · by_cases e2 : y = i
      · omega
      · simp only [vput, if_pos e1, if_neg e2]
        right
        rcases hoth y hy e2 with h | h
        · rw [h]; simp [Value.ownBlock]
        · intro hh; exact h (by rw [← hh]; rfl)
    · by_cases e2 : y = i
      · simp only [vput, if_neg e1, if_pos e2]
        rcases hoth x hx e1 with h | h
        · exact .inl h
        · exact .inr h
      · simp only [vput, if_neg e1, if_neg e2]
        exact h5 x y hx hy hne

/-- One of the lists, as a slice that is read. -/
theorem Lists.shape (h : Lists w B T c vs f) {i : Nat} (hi : i < c) : ∃ A cap, vs i = .slice A (f i).length cap ∧ (f i).length ≤ cap ∧ cap ≤ maxLen ∧ ∀ q, (hq : q < (f i).length) → ∃ g, A = some ⟨g, 0, none⟩ ∧ B ≤ g ∧ g < w.heap.size ∧ (vs i).ownBlock = some g ∧ w.cell? ⟨g, q, none⟩ = some (.int .i64 ((f i)[q] : Nat)) := by
  have h6 := h.row i hi
  have hlt := h6.lt
  have hcells := @World.ownsRow.cells _ _ _ _ _ _ _ h6
  rcases h6.2 with ⟨h7, h8⟩ | ⟨g, cap, cur, hv, hb', hg', hc1, hc2, _⟩
  · exact ⟨none, 0, by rw [h7, h8], by omega, by unfold maxLen; omega, fun q hq => by omega⟩
  · refine ⟨_, cap, hv, hc1, hc2, fun q hq => ⟨g, rfl, hb', (hlt g (by rw [hv]; rfl)).2, by rw [hv]; rfl, ?_⟩⟩
    have := hcells (g := g) (by rw [hv]; rfl) q (.int .i64 ((f i)[q] : Nat)) (by simp [natVals, hq])
    have hadd : (⟨g, 0, none⟩ : Addr).add q = ⟨g, q, none⟩ := by unfold Addr.add; split <;> simp_all
    rw [hadd] at this
    exact this
end

theorem Lists.cellAt {w : World} {B T c : Nat} {vs : Nat → Value} {f : Nat → List Nat} (h : Lists w B T c vs f) {i : Nat} (hi : i < c) {A : Option Addr} {n cap : Nat} (hv : vs i = .slice A n cap) {q : Nat} (hq : q < (f i).length) : ∃ g, A = some ⟨g, 0, none⟩ ∧ B ≤ g ∧ g < w.heap.size ∧ w.cell? ⟨g, q, none⟩ = some (.int .i64 ((f i)[q] : Nat)) := by
  obtain ⟨A2, cap2, h1, _, _, h2⟩ := h.shape hi
  obtain ⟨g, h3, h4, h5, _, h6⟩ := h2 q hq
  rw [hv] at h1
  injection h1 with h7
  exact ⟨g, h7.trans h3, h4, h5, h6⟩
theorem Lists.off {w : World} {B T c : Nat} {vs : Nat → Value} {f : Nat → List Nat} (h : Lists w B T c vs f) {g : Nat} (hg : g < B) : ∀ i, i < c → (vs i).ownBlock ≠ some g := fun i hi e => by
  have := ((h.row i hi).lt g e).1
  omega
theorem Lists.heap {w w' : World} {B T c : Nat} {vs : Nat → Value} {f : Nat → List Nat} (h : Lists w B T c vs f) (e : w'.heap = w.heap) : Lists w' B T c vs f := by
  obtain ⟨⟨xs, h1, h2⟩, h3, h4, h5⟩ := h
  refine ⟨⟨xs, h1.block (by rw [e]), h2⟩, fun i hi => ?_, h4, h5⟩
  have h6 := h3 i hi
  refine ⟨h6.1, ?_⟩
  rcases h6.2 with h7 | ⟨g, cap, cur, hv, hb', hg, rest⟩
  · exact .inl h7
  · exact .inr ⟨g, cap, cur, hv, hb', by rw [e]; exact hg, rest⟩

/-- Block B is a map of at most n entries, ints to ints, that reads as the function f. -/
def MapO (P : Program) (w : World) (K E : TypeId) (B n : Nat) (f : Int → Option Nat) : Prop :=
  ∃ D : DataW Unit, w.ownsMap P K (plainElem P E) B n D ∧ ∀ k, (Lit.int .i64 k).wf = true → D.atKey (.int .i64 k) (.lit (.int .i64 0)) = .lit (.int .i64 ((f k).getD 0 : Nat)) ∧ Maps.has D (.int .i64 k) = (f k).isSome
def putO (f : Int → Option Nat) (k : Int) (v : Nat) : Int → Option Nat := fun x => if x = k then some v else f x
section
variable {P : Program} {w w' : World} {K E : TypeId} {B n : Nat} {f : Int → Option Nat}
theorem MapO.lt (h : MapO P w K E B n f) : B < w.heap.size := by obtain ⟨_, h, _⟩ := h; exact h.lt
theorem MapO.made (P : Program) (w : World) (K E : TypeId) : MapO P (w.alloc (.map #[] 0)) K E w.heap.size 0 (fun _ => none) :=
  ⟨.map [], World.ownsMap_made _ _ _ _, fun _ _ => ⟨rfl, rfl⟩⟩
theorem MapO.mono (h : MapO P w K E B n f) {n' : Nat} (hn : n ≤ n') : MapO P w K E B n' f := by obtain ⟨D, h1, h2⟩ := h; exact ⟨D, h1.mono hn, h2⟩
theorem MapO.kept {row : Option Nat} (h : MapO P w K E B n f) (hg : w.grownBy w' row) (hne : some B ≠ row) : MapO P w' K E B n f := by obtain ⟨D, h1, h2⟩ := h; exact ⟨D, h1.kept hg hne, h2⟩
theorem MapO.block (h : MapO P w K E B n f) (hb : w'.heap[B]? = w.heap[B]?) : MapO P w' K E B n f := by
  obtain ⟨D, ⟨es, c, h1, h3⟩, h2⟩ := h
  exact ⟨D, ⟨es, c, hb.trans h1, h3⟩, h2⟩
theorem MapO.alloc (h : MapO P w K E B n f) (o : Obj) : MapO P (w.alloc o) K E B n f := h.kept (World.grownBy_alloc w o none) (by simp)
theorem MapO.far (h : MapO P w K E B n f) {p : Addr} (hp : B ≠ p.block) (u : Value) : MapO P (w.setCell p u) K E B n f := h.block (Below.heap_setCell w p u B hp)
theorem MapO.congr {f' : Int → Option Nat} (h : MapO P w K E B n f) (e : ∀ k, f k = f' k) : MapO P w K E B n f' := by
  obtain ⟨D, h1, h2⟩ := h
  exact ⟨D, h1, fun k hk => by rw [← e k]; exact h2 k hk⟩
theorem MapO.ne_own {e : TypeId} {size m b : Nat} {v : Value} {xs : List Value} (h : MapO P w K E B n f) (ho : w.ownsRow b e size v m xs) : some B ≠ v.ownBlock := by
  obtain ⟨D, h1, _⟩ := h
  exact fun hh => owns_ne_map ho h1 hh.symm

theorem wpList_lookO {ops : Array Oper} {rest : List Oper} {o : Oper} {a : Act} {Q : Exit → Act → World → Prop}
    (hg : o.guard = none) (m x : Operand) (t : TypeId) (hop : o.op = Op.lookup t m x false) (K E : TypeId)
    (hK : P.underlying K = some (.int .i64)) (ht : P.underlying t = some (.map K E)) (he : P.underlying E = some (.int .i64)) (hz : (zeroValue E).run P w = .ok (.int .i64 0) w) (B n : Nat) (f : Int → Option Nat) (k : Int) (i : Nat)
    (hm : a.eval m = .map (some B)) (hown : MapO P w K E B n f) (hx : a.eval x = .int .i64 k) (hk : (Lit.int .i64 k).wf = true) (hf : f k = some i)
    (hh : wpList P ops Q rest (a.put o.dst (.int .i64 (i : Int))) w) :
    wpList P ops Q (o :: rest) a w := by
  obtain ⟨D, h1, h2⟩ := hown
  refine wpList_lookup_own_int w hg m x t hop K E .i64 (int_keyed hK) ht he hz B n D hm h1 _ _ hx (keyOf_int_mk hK hk) ?_
  intro c hat hwc
  rw [(h2 k hk).1, hf] at hat
  have e : ((i : Nat) : Int) = c := by injection hat with hat; injection hat
  rw [← e]
  exact hh
theorem wpList_lookOk {ops : Array Oper} {rest : List Oper} {o : Oper} {a : Act} {Q : Exit → Act → World → Prop}
    (hg : o.guard = none) (m x : Operand) (t : TypeId) (hop : o.op = Op.lookup t m x true) (K E : TypeId)
    (hK : P.underlying K = some (.int .i64)) (ht : P.underlying t = some (.map K E)) (he : P.underlying E = some (.int .i64)) (hz : (zeroValue E).run P w = .ok (.int .i64 0) w) (B n : Nat) (f : Int → Option Nat) (k : Int) (y : Option Nat)
    (hm : a.eval m = .map (some B)) (hown : MapO P w K E B n f) (hx : a.eval x = .int .i64 k) (hk : (Lit.int .i64 k).wf = true) (hf : f k = y)
    (hh : wpList P ops Q rest (a.put o.dst (.tuple #[.int .i64 (y.getD 0 : Nat), .bool y.isSome])) w) :
    wpList P ops Q (o :: rest) a w := by
  obtain ⟨D, h1, h2⟩ := hown
  refine wpList_lookup_own_ok_int w hg m x t hop K E .i64 (int_keyed hK) ht he hz B n D hm h1 _ _ hx (keyOf_int_mk hK hk) ?_
  intro c hat hwc
  rw [(h2 k hk).1, hf] at hat
  have e : ((y.getD 0 : Nat) : Int) = c := by injection hat with hat; injection hat
  rw [← e, (h2 k hk).2, hf]
  exact hh
theorem wpList_putO {ops : Array Oper} {rest : List Oper} {o : Oper} {a : Act} {Q : Exit → Act → World → Prop}
    (hg : o.guard = none) (m x v : Operand) (t : TypeId) (hop : o.op = Op.mapUpdate t m x v) (K E : TypeId)
    (hK : P.underlying K = some (.int .i64)) (ht : P.underlying t = some (.map K E)) (he : P.underlying E = some (.int .i64)) (B n : Nat) (f : Int → Option Nat) (k : Int) (y : Nat)
    (hm : a.eval m = .map (some B)) (hown : MapO P w K E B n f) (hn : n < maxLen) (hx : a.eval x = .int .i64 k) (hv : a.eval v = .int .i64 (y : Int)) (hk : (Lit.int .i64 k).wf = true) (hy : (Lit.int .i64 (y : Int)).wf = true)
    (hh : ∀ w', MapO P w' K E B (n + 1) (putO f k y) → w.grownBy w' (some B) → wpList P ops Q rest (a.put o.dst undef) w') :
    wpList P ops Q (o :: rest) a w := by
  obtain ⟨D, h1, h2⟩ := hown
  refine wpList_mapUpdate_own w hg m x v t hop K E (int_keyed hK) ht _ B n D hm h1 hn _ _ _ hx hv (keyOf_int_mk hK hk) _ [] (plainElem_int he hy) ?_
  intro w1 hown1 hgrow1
  refine hh w1 ⟨_, hown1, fun k' hk' => ?_⟩ hgrow1
  have hkey := (int_keyed hK).key (keyOf_int_mk hK hk)
  by_cases e : k' = k
  · subst e
    rw [atKey_put_same (isMap_of D h1) hkey, has_put_same (isMap_of D h1) hkey]
    simp [putO]
  · rw [atKey_put_other (by intro h; apply e; injection h), has_put_other (by intro h; apply e; injection h)]
    simp only [putO, if_neg e]
    exact h2 k' hk'
end

#print axioms wpList_putO
end Go.Proofs.Ytiokfehckhbnaaa
