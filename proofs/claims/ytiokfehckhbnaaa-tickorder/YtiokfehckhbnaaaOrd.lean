/-
  The order of events by timestamps, and by processes: plain.
-/
import Derived.Test.YtiokfehckhbnaaaTks
import Derived.Test.YtiokfehckhbnaaaLin
namespace Go.Proofs.Ytiokfehckhbnaaa

/-- Earlier by timestamp, or by process at one timestamp. -/
def early (l : List Ev) (T : Nat → Nat) (x y : Nat) : Bool := decide (T x < T y ∨ (T x = T y ∧ (ev l x).p < (ev l y).p))

def cntTo (lt : Nat → Nat → Bool) (i : Nat) : Nat → Nat
  | 0 => 0
  | k + 1 => cntTo lt i k + if lt k i then 1 else 0

theorem cntTo_le (lt : Nat → Nat → Bool) (i k : Nat) : cntTo lt i k ≤ k := by
  induction k with
  | zero => exact Nat.le_refl _
  | succ k ih => unfold cntTo; split <;> omega
theorem cntTo_lt {lt : Nat → Nat → Bool} {i k : Nat} (h : lt i i = false) (hi : i < k) : cntTo lt i k < k := by
  induction k with
  | zero => omega
  | succ k ih =>
    unfold cntTo
    rcases Nat.lt_or_ge i k with h1 | h1
    · have := ih h1; split <;> omega
    · have : i = k := by omega
      subst this
      have := cntTo_le lt i i
      rw [h]; simp; omega
theorem cntTo_mono {lt : Nat → Nat → Bool} {a b : Nat} (k : Nat) (h : ∀ j, j < k → lt j a = true → lt j b = true) : cntTo lt a k ≤ cntTo lt b k := by
  induction k with
  | zero => exact Nat.le_refl _
  | succ k ih =>
    have h1 := ih (fun j hj => h j (by omega))
    have h2 := h k (by omega)
    unfold cntTo
    cases h3 : lt k a
    · simp; split <;> omega
    · rw [h2 h3]; simp; omega
theorem cntTo_more {lt : Nat → Nat → Bool} {a b x : Nat} (k : Nat) (h : ∀ j, j < k → lt j a = true → lt j b = true) (hx : x < k) (h1 : lt x a = false) (h2 : lt x b = true) : cntTo lt a k < cntTo lt b k := by
  induction k with
  | zero => omega
  | succ k ih =>
    unfold cntTo
    rcases Nat.lt_or_ge x k with h3 | h3
    · have h4 := ih (fun j hj => h j (by omega)) h3
      have h5 := h k (by omega)
      cases h6 : lt k a
      · simp; split <;> omega
      · rw [h5 h6]; simp; omega
    · have : x = k := by omega
      subst this
      have := cntTo_mono (a := a) (b := b) x (fun j hj => h j (by omega))
      rw [h1, h2]; simp; omega

theorem cntTo_countP (lt : Nat → Nat → Bool) (i k : Nat) : cntTo lt i k = (List.range k).countP (fun j => lt j i) := by
  induction k with
  | zero => rfl
  | succ k ih =>
    rw [List.range_succ, List.countP_append, cntTo, ih]
    simp [List.countP_cons]

theorem pos_of_sorted {lt : Nat → Nat → Bool} {s : List Nat} {c : Nat} (hp : s.Perm (List.range c)) (hs : s.Pairwise (fun a b => lt a b = true)) (hirr : ∀ x, lt x x = false) (has : ∀ x y, lt x y = true → lt y x = false) {q : Nat} (hq : q < s.length) : cntTo lt s[q] c = q := by
  rw [cntTo_countP, ← hp.countP_eq]
  have hsplit : s = s.take q ++ (s[q] :: s.drop (q + 1)) := by rw [← List.drop_eq_getElem_cons hq, List.take_append_drop]
  have h1 : (s.take q).countP (fun j => lt j s[q]) = q := by
    rw [List.countP_eq_length.2]
    · simp; omega
    · intro a ha
      obtain ⟨i, hi, rfl⟩ := List.getElem_of_mem ha
      rw [List.getElem_take]
      have hi' : i < q := by simp at hi; omega
      exact (List.pairwise_iff_getElem.1 hs) i q (by omega) hq hi'
  have h2 : (s[q] :: s.drop (q + 1)).countP (fun j => lt j s[q]) = 0 := by
    rw [List.countP_eq_zero]
    intro a ha
    rw [List.mem_cons] at ha
    rcases ha with rfl | ha
    · rw [hirr]; simp
    · obtain ⟨i, hi, rfl⟩ := List.getElem_of_mem ha
      rw [List.getElem_drop]
      have hi' : q + 1 + i < s.length := by simp at hi; omega
      have := (List.pairwise_iff_getElem.1 hs) q (q + 1 + i) hq hi' (by omega)
      rw [has _ _ this]; simp
  have h3 : s.countP (fun j => lt j s[q]) = (s.take q ++ (s[q] :: s.drop (q + 1))).countP (fun j => lt j s[q]) := by rw [← hsplit]
  rw [h3, List.countP_append, h1, h2]
  omega

section
variable {n : Int} {l : List Ev} {T : Nat → Nat}
theorem early_irr (l : List Ev) (T : Nat → Nat) (x : Nat) : early l T x x = false := by simp [early]
theorem early_asym {x y : Nat} (h : early l T x y = true) : early l T y x = false := by
  simp only [early, decide_eq_true_eq, decide_eq_false_iff_not] at *
  omega
theorem early_trans {x y z : Nat} (h : early l T x y = true) (h' : early l T y z = true) : early l T x z = true := by
  simp only [early, decide_eq_true_eq] at *
  omega
/-- Two events are not alike. -/
theorem early_total (hT : Rank (HB l) l.length T) {x y : Nat} (hx : x < l.length) (hy : y < l.length) (hne : x ≠ y) : early l T x y = true ∨ early l T y x = true := by
  simp only [early, decide_eq_true_eq]
  have key : ∀ a b, a < b → b < l.length → T a = T b → (ev l a).p ≠ (ev l b).p := by
    intro a b hab hb he hp
    have := hT.up a b hb (.of ⟨hab, hb, .inl hp⟩)
    omega
  by_cases he : T x = T y
  · have hp : (ev l x).p ≠ (ev l y).p := by
      rcases Nat.lt_or_ge x y with h1 | h1
      · exact key x y h1 hy he
      · exact fun hh => key y x (by omega) hx he.symm hh.symm
    omega
  · omega
theorem early_hb (hT : Rank (HB l) l.length T) {x y : Nat} (hy : y < l.length) (h : HB l x y) : early l T x y = true := by
  simp only [early, decide_eq_true_eq]
  exact .inl (hT.up x y hy h)

theorem cnt_inj (hT : Rank (HB l) l.length T) {x y : Nat} (hx : x < l.length) (hy : y < l.length) (hne : x ≠ y) : cntTo (early l T) x l.length ≠ cntTo (early l T) y l.length := by
  rcases early_total hT hx hy hne with h | h
  · have := cntTo_more (lt := early l T) (a := x) (b := y) (x := x) l.length (fun j _ hj => early_trans hj h) hx (early_irr l T x) h
    omega
  · have := cntTo_more (lt := early l T) (a := y) (b := x) (x := y) l.length (fun j _ hj => early_trans hj h) hy (early_irr l T y) h
    omega

/-- Sorted by 'not later', all events: strictly. -/
theorem strict_of (hT : Rank (HB l) l.length T) {s : List Nat} (hp : s.Perm (List.range l.length)) (hs : s.Pairwise (fun a b => early l T b a = false)) : s.Pairwise (fun a b => early l T a b = true) := by
  have hnd : s.Nodup := hp.nodup_iff.2 List.nodup_range
  rw [List.pairwise_iff_getElem] at hs ⊢
  intro i j hi hj hij
  have h1 := hs i j hi hj hij
  have hmi : s[i] < l.length := List.mem_range.1 (hp.mem_iff.1 (List.getElem_mem hi))
  have hmj : s[j] < l.length := List.mem_range.1 (hp.mem_iff.1 (List.getElem_mem hj))
  have hne : s[i] ≠ s[j] := fun e => by
    have := (List.pairwise_iff_getElem.1 hnd) i j hi hj hij
    exact this e
  rcases early_total hT hmi hmj hne with h | h
  · exact h
  · rw [h] at h1; cases h1

/-- By rising timestamps it is an execution in which the same happens before the same. -/
theorem ext_of (hT : Rank (HB l) l.length T) {s : List Nat} (hp : s.Perm (List.range l.length)) (hs : s.Pairwise (fun a b => early l T a b = true)) : Ext l s := by
  intro a b hab hb hh
  have hlen : s.length = l.length := by have := hp.length_eq; simpa using this
  have ha : a < s.length := by omega
  have h1 := (List.pairwise_iff_getElem.1 hs) a b ha hb hab
  have e1 : s.getD a 0 = s[a] := by simp [ha]
  have e2 : s.getD b 0 = s[b] := by simp [hb]
  rw [e1, e2] at hh
  have hma : s[a] < l.length := List.mem_range.1 (hp.mem_iff.1 (List.getElem_mem ha))
  have h2 := early_hb hT hma hh
  rw [early_asym h1] at h2
  cases h2
end

#print axioms ext_of
end Go.Proofs.Ytiokfehckhbnaaa
