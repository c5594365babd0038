/-
  Letters: what is on each channel; the list in memory.
-/
import Derived.Test.YtejckoffllhjcaaSnp
import Derived.Test.YtejckoffllhjcaaPck
import Derived.Test.YtejckoffllhjcaaRows
import Derived.KernelRfl
import Derived.Laws.OwnMore
import Derived.Deep.AppendLies
namespace Go.Proofs.Ytejckoffllhjcaa
open Go.RowKit Go.Maps

structure Lt where
  f : Int
  t : Int
  v : Int
def lt0 : Lt := ⟨0, 0, 0⟩
def lt_ (L : List Lt) (k : Nat) : Lt := (L[k]?).getD lt0
theorem lt_get (L : List Lt) {k : Nat} (h : k < L.length) : L[k] = lt_ L k := by simp [lt_, h]
/-- What is on the channel from i to j. -/
def vals (L : List Lt) (i j : Int) : List Int := (L.filter fun x => decide (x.f = i ∧ x.t = j)).map (·.v)
theorem vals_append (L M : List Lt) (i j : Int) : vals (L ++ M) i j = vals L i j ++ vals M i j := by simp [vals]
theorem vals_one (i j x a b : Int) : vals [⟨i, j, x⟩] a b = if a = i ∧ b = j then [x] else [] := by
  unfold vals
  by_cases h : a = i ∧ b = j
  · rw [if_pos h]; simp [h.1, h.2]
  · rw [if_neg h]
    have : ¬ (i = a ∧ j = b) := fun e => h ⟨e.1.symm, e.2.symm⟩
    simp [this]
theorem vals_none {L : List Lt} {i j : Int} (h : ∀ k, k < L.length → ¬ ((lt_ L k).f = i ∧ (lt_ L k).t = j)) : vals L i j = [] := by
  unfold vals
  rw [List.filter_eq_nil_iff.2 (fun x hx => ?_)]
  · rfl
  · obtain ⟨k, hk, rfl⟩ := List.getElem_of_mem hx
    have := h k hk
    rw [← lt_get L hk] at this
    simpa using this
theorem lt_split (L : List Lt) {k : Nat} (hk : k < L.length) : L = L.take k ++ lt_ L k :: L.drop (k + 1) := by
  rw [← lt_get L hk, List.getElem_cons_drop]
  exact (List.take_append_drop k L).symm
theorem lt_take (L : List Lt) {k m : Nat} (h : m < k) : lt_ (L.take k) m = lt_ L m := by
  unfold lt_
  rw [List.getElem?_take, if_pos h]
/-- The first letter is taken off. -/
theorem vals_first {L : List Lt} {k : Nat} {i j : Int} (hk : k < L.length) (hm : (lt_ L k).f = i ∧ (lt_ L k).t = j) (hb : ∀ m, m < k → ¬ ((lt_ L m).f = i ∧ (lt_ L m).t = j)) (a b : Int) :
    vals L a b = if a = i ∧ b = j then (lt_ L k).v :: vals (L.take k ++ L.drop (k + 1)) a b else vals (L.take k ++ L.drop (k + 1)) a b := by
  have h0 : vals (L.take k) i j = [] := vals_none fun m hm' => by
    have hml : m < k := by simp at hm'; omega
    rw [lt_take L hml]
    exact hb m hml
  have e : vals L a b = vals (L.take k) a b ++ (vals [lt_ L k] a b ++ vals (L.drop (k + 1)) a b) := by
    rw [← vals_append, ← vals_append, List.singleton_append, ← lt_split L hk]
  have e1 : vals [lt_ L k] a b = if a = i ∧ b = j then [(lt_ L k).v] else [] := by
    have := vals_one i j (lt_ L k).v a b
    rw [← this, ← hm.1, ← hm.2]
  rw [e, e1, vals_append]
  by_cases h : a = i ∧ b = j
  · rw [if_pos h, if_pos h, h.1, h.2, h0]; simp
  · rw [if_neg h, if_neg h]; simp
/-- The letters are just the queues. -/
def LS (n : Nat) (L : List Lt) (S : St) : Prop := ∀ i j, i < n → j < n → i ≠ j → S.q i j = vals L (i : Int) (j : Int)
theorem LS.begin (n : Nat) : LS n [] St.begin := fun _ _ _ _ _ => rfl
theorem LS.put {n : Nat} {L : List Lt} {S : St} (h : LS n L S) (i j : Nat) (x : Int) : LS n (L ++ [⟨(i : Int), (j : Int), x⟩]) (S.put i j x) := fun a b ha hb hab => by
  rw [vals_append, vals_one, ← h a b ha hb hab]
  show up2 S.q i j (S.q i j ++ [x]) a b = _
  by_cases e : a = i ∧ b = j
  · obtain ⟨rfl, rfl⟩ := e
    rw [up2_same, if_pos ⟨rfl, rfl⟩]
  · rw [up2_other _ _ e, if_neg (by omega)]
    simp
theorem LS.same {n : Nat} {L : List Lt} {S T : St} (h : LS n L S) (e : T.q = S.q) : LS n L T := fun a b ha hb hab => by rw [e]; exact h a b ha hb hab
theorem LS.pop {n : Nat} {L : List Lt} {S : St} (h : LS n L S) {i j k : Nat} (hi : i < n) (hj : j < n) (hne : i ≠ j) (hk : k < L.length) (hm : (lt_ L k).f = i ∧ (lt_ L k).t = j) (hb : ∀ m, m < k → ¬ ((lt_ L m).f = i ∧ (lt_ L m).t = j)) :
    S.q i j = (lt_ L k).v :: vals (L.take k ++ L.drop (k + 1)) (i : Int) (j : Int) ∧ LS n (L.take k ++ L.drop (k + 1)) (S.pop i j) := by
  have hf := vals_first hk hm hb
  have h1 : S.q i j = (lt_ L k).v :: vals (L.take k ++ L.drop (k + 1)) (i : Int) (j : Int) := by rw [h i j hi hj hne, hf, if_pos ⟨rfl, rfl⟩]
  refine ⟨h1, fun a b ha hb hab => ?_⟩
  show up2 S.q i j (S.q i j).tail a b = _
  by_cases e : a = i ∧ b = j
  · obtain ⟨rfl, rfl⟩ := e
    rw [up2_same, h1]; rfl
  · rw [up2_other _ _ e, h a b ha hb hab, hf, if_neg (by omega)]
def marksL (i : Nat) : Nat → List Lt
  | 0 => []
  | m + 1 => if m ≠ i then marksL i m ++ [⟨(i : Int), (m : Int), 0⟩] else marksL i m
theorem marksL_len (i m : Nat) : (marksL i m).length ≤ m := by
  induction m with
  | zero => exact Nat.le_refl _
  | succ m ih =>
    rw [marksL]
    split
    · rw [List.length_append, List.length_singleton]; omega
    · omega
theorem LS.marks {n : Nat} {L : List Lt} {S : St} (h : LS n L S) (i m : Nat) : LS n (L ++ marksL i m) (S.marks i m) := by
  induction m with
  | zero => rw [St.marks_zero, marksL, List.append_nil]; exact h
  | succ m ih =>
    rw [marksL]
    by_cases e : m = i
    · subst e
      rw [if_neg (by simp), St.marks_skip]; exact ih
    · rw [if_pos e, ← St.marks_put S e, ← List.append_assoc]
      exact ih.put i m 0
theorem LS.record {n : Nat} {L : List Lt} {S : St} (h : LS n L S) (i : Nat) : LS n (L ++ marksL i n) (S.record n i) := LS.marks (S := S.rec0 i) (h.same rfl) i n

/-! In memory. -/
theorem infoLt : (Try.prog.info? 52).map (fun i => (i.zero, i.size, i.bytes)) = some (some (.agg #[.int .i64 0, .int .i64 0, .int .i64 0]), 3, 24) := by kernel_rfl
def cellsL (m : Lt) : List Value := [.int .i64 m.f, .int .i64 m.t, .int .i64 m.v]
def flatL (l : List Lt) : List Value := l.flatMap cellsL
theorem flatL_len (l : List Lt) : (flatL l).length = l.length * 3 := by
  unfold flatL
  induction l with
  | nil => rfl
  | cons f r ih => rw [List.flatMap_cons, List.length_append, ih, List.length_cons]; show 3 + _ = _; omega
theorem flatL_append (l r : List Lt) : flatL (l ++ r) = flatL l ++ flatL r := by
  unfold flatL
  rw [List.flatMap_append]
theorem flatL_one (m : Lt) : flatL [m] = cellsL m := by simp [flatL]
theorem flatL_at (l : List Lt) {i j : Nat} (hi : i < l.length) (hj : j < 3) : (flatL l)[i * 3 + j]? = (cellsL l[i])[j]? := by
  induction l generalizing i with
  | nil => simp at hi
  | cons f r ih =>
    have e : flatL (f :: r) = cellsL f ++ flatL r := by unfold flatL; rw [List.flatMap_cons]
    rw [e]
    cases i with
    | zero =>
      rw [List.getElem?_append_left (by show 0 * 3 + j < 3; omega), Nat.zero_mul, Nat.zero_add]
      rfl
    | succ i =>
      rw [List.getElem?_append_right (by show 3 ≤ _; omega)]
      have : (i + 1) * 3 + j - (cellsL f).length = i * 3 + j := by show (i + 1) * 3 + j - 3 = _; omega
      rw [this, ih (by simpa using hi)]
      rfl
theorem flatL_one' (l : List Lt) : ∀ u ∈ flatL l, u.oneCell' = true := by
  intro u hu
  obtain ⟨m, _, hm⟩ := List.mem_flatMap.1 hu
  simp [cellsL] at hm
  rcases hm with rfl | rfl | rfl <;> rfl
/-- A slice of letters that the call has made. -/
def OwnL (w : World) (B : Nat) (v : Value) (l : List Lt) : Prop := w.ownsRow B 52 3 v l.length (flatL l)
section
variable {w w' : World} {B : Nat} {v : Value} {l : List Lt} {m : Lt}
theorem OwnL.push {g cap : Nat} (h : w.ownsRow B 52 3 (.slice (some ⟨g, 0, none⟩) (l.length + 1) cap) (l.length + 1) (flatL l ++ cellsL m)) : OwnL w B (.slice (some ⟨g, 0, none⟩) (l.length + 1) cap) (l ++ [m]) := by
  unfold OwnL
  rw [flatL_append, flatL_one, List.length_append]
  exact h
theorem OwnL.alloc (h : OwnL w B v l) (o : Obj) : OwnL (w.alloc o) B v l := World.ownsRow.alloc h o
theorem OwnL.lt (h : OwnL w B v l) : ∀ b, v.ownBlock = some b → B ≤ b ∧ b < w.heap.size := fun b hb => World.ownsRow.lt h b hb
/-- Letters that are read: each in its cells. -/
def LtsAt (w : World) (A : Option Addr) (l : List Lt) : Prop := ∀ i, i < l.length → ∃ g, A = some ⟨g, 0, none⟩ ∧ g < w.heap.size ∧ w.cell? ⟨g, i * 3, none⟩ = some (.int .i64 (lt_ l i).f) ∧ w.cell? ⟨g, i * 3 + 1, none⟩ = some (.int .i64 (lt_ l i).t) ∧ w.cell? ⟨g, i * 3 + 2, none⟩ = some (.int .i64 (lt_ l i).v)
theorem OwnL.shape (h : OwnL w B v l) : ∃ A cap, v = .slice A l.length cap ∧ l.length ≤ cap ∧ cap ≤ maxLen ∧ LtsAt w A l := by
  have hlt := World.ownsRow.lt h
  rcases h.2 with ⟨h7, h8⟩ | ⟨g, cap, cur, hv, hb', hg', hc1, hc2, hc3, hc4⟩
  · exact ⟨none, 0, by rw [h7, h8], by omega, by unfold maxLen; omega, fun i hi => by omega⟩
  · refine ⟨_, cap, hv, hc1, hc2, fun i hi => ⟨g, rfl, (hlt g (by rw [hv]; rfl)).2, ?_⟩⟩
    have key : ∀ j, j < 3 → w.cell? ⟨g, i * 3 + j, none⟩ = (cellsL l[i])[j]? := fun j hj => by
      rw [cell_of_row w g (i * 3 + j) cur 52 (0, 0) hg', ← flatL_at l hi hj, ← hc4, List.getElem?_take, if_pos (by omega)]
      simp
    rw [lt_get l hi] at key
    exact ⟨key 0 (by omega), key 1 (by omega), key 2 (by omega)⟩
theorem LtsAt.below {A : Option Addr} (h : LtsAt w A l) (hb : Below w.heap.size w w') : LtsAt w' A l := fun i hi => by
  obtain ⟨g, h1, h2, h3, h4, h5⟩ := h i hi
  exact ⟨g, h1, Nat.lt_of_lt_of_le h2 hb.size, (hb.cell h2).trans h3, (hb.cell h2).trans h4, (hb.cell h2).trans h5⟩
end
theorem newsL {w : World} {g : Nat} (m : Lt) (h : g = w.heap.size) : ∀ j u, (cellsL m)[j]? = some u → (w.alloc (.cells #[.int .i64 m.f, .int .i64 m.t, .int .i64 m.v] 52)).cell? ((⟨g, 0, none⟩ : Addr).add j) = some u := by
  subst h
  exact World.news_of_block (cs := #[.int .i64 m.f, .int .i64 m.t, .int .i64 m.v]) (fr := (0, 0)) (heap_alloc_new w _)
/-- A part of the letters, as cells behind an address. -/
theorem LtsAt.news {w : World} {g : Nat} {l : List Lt} (h : LtsAt w (some ⟨g, 0, none⟩) l) (a b : Nat) (hab : a + b ≤ l.length) : ∀ j u, (flatL ((l.drop a).take b))[j]? = some u → w.cell? ((⟨g, a * 3, none⟩ : Addr).add j) = some u := by
  intro j u hj
  have hlen : ((l.drop a).take b).length = b := by simp; omega
  have hlt : j < b * 3 := by
    rcases Nat.lt_or_ge j (b * 3) with h1 | h1
    · exact h1
    · rw [List.getElem?_eq_none (by rw [flatL_len, hlen]; exact h1)] at hj; cases hj
  have hadd : (⟨g, a * 3, none⟩ : Addr).add j = ⟨g, a * 3 + j, none⟩ := by unfold Addr.add; split <;> simp_all
  rw [hadd]
  have hi : j / 3 < ((l.drop a).take b).length := by omega
  have hjj : j = j / 3 * 3 + j % 3 := by omega
  have hr : j % 3 < 3 := by omega
  rw [hjj, flatL_at _ hi hr] at hj
  obtain ⟨g', e, _, c0, c1, c2⟩ := h (a + j / 3) (by omega)
  simp only [Option.some.injEq, Addr.mk.injEq] at e
  obtain ⟨rfl, _⟩ := e
  have el : ((l.drop a).take b)[j / 3] = lt_ l (a + j / 3) := by
    rw [← lt_get l (by omega)]
    simp
  rw [el] at hj
  generalize j % 3 = r at *
  generalize j / 3 = i at *
  subst hjj
  have e1 : a * 3 + (i * 3 + r) = (a + i) * 3 + r := by omega
  rw [e1]
  have : r = 0 ∨ r = 1 ∨ r = 2 := by omega
  rcases this with rfl | rfl | rfl
  · rw [Nat.add_zero, c0, ← hj]; rfl
  · rw [c1, ← hj]; rfl
  · rw [c2, ← hj]; rfl

#print axioms LtsAt.news
end Go.Proofs.Ytejckoffllhjcaa
