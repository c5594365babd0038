/-
  Plain facts on lists of events: counting, and that run.Check's way (a state a message) and the document's (counting what stands ahead) answer alike.
-/
import Derived.Test.YtpofmhlmaejmoaaSpec
namespace Go.Proofs.Ytpofmhlmaejmoaa

def cnt (kd m : Int) (l : List Ev) : Nat := (l.filter fun o => o.k == kd && o.m == m).length

theorem cnt_le (kd m : Int) (l : List Ev) : cnt kd m l ≤ l.length := List.length_filter_le _ _
theorem cnt_snoc (kd m : Int) (l : List Ev) (e : Ev) : cnt kd m (l ++ [e]) = cnt kd m l + if e.k = kd ∧ e.m = m then 1 else 0 := by
  unfold cnt
  rw [List.filter_append, List.length_append]
  by_cases h1 : e.k = kd <;> by_cases h2 : e.m = m <;> simp [h1, h2]
theorem take_snoc (l : List Ev) (k : Nat) (h : k < l.length) : l.take (k + 1) = l.take k ++ [l[k]] := List.take_succ_eq_append_getElem h
theorem cnt_take (kd m : Int) (l : List Ev) (k : Nat) (h : k < l.length) : cnt kd m (l.take (k + 1)) = cnt kd m (l.take k) + if l[k].k = kd ∧ l[k].m = m then 1 else 0 := by
  rw [take_snoc l k h, cnt_snoc]

/-- The code of an event behind others, by counting. -/
def refCode (n : Int) (pre : List Ev) (e : Ev) : Int :=
  if e.p < 0 ∨ n ≤ e.p then 2 else if e.k < 1 ∨ 3 < e.k then 6 else if e.k = 1 then 0 else if e.m < 0 ∨ 20 < e.m then 4
  else if (e.k = 2 ∧ 0 < cnt 2 e.m pre) ∨ (e.k = 3 ∧ (cnt 2 e.m pre = 0 ∨ 0 < cnt 3 e.m pre)) then 3 else 0

/-- The states tell what has been sent and taken. -/
def Inv (pre : List Ev) (f : Int → Int) : Prop :=
  ∀ m, 0 ≤ m → m ≤ 20 → (f m = 0 ∧ cnt 2 m pre = 0 ∧ cnt 3 m pre = 0) ∨ (f m = 1 ∧ 0 < cnt 2 m pre ∧ cnt 3 m pre = 0) ∨ (f m = 2 ∧ 0 < cnt 2 m pre ∧ 0 < cnt 3 m pre)

theorem Inv.nil : Inv [] (fun _ => 0) := fun _ _ _ => Or.inl ⟨rfl, rfl, rfl⟩

theorem Inv.code {pre : List Ev} {f : Int → Int} (h : Inv pre f) (n : Int) (e : Ev) : refCode n pre e = admCode n f e := by
  unfold refCode admCode
  by_cases h1 : e.p < 0 ∨ n ≤ e.p
  · simp only [if_pos h1]
  simp only [if_neg h1]
  by_cases k1 : e.k = 1
  · rw [if_neg (by omega), if_pos k1, if_pos k1]
  by_cases k2 : e.k = 2
  · rw [if_neg (by omega), if_neg k1, if_neg k1, if_pos k2]
    unfold advCode
    by_cases hm : e.m < 0 ∨ 20 < e.m
    · simp only [if_pos hm]
    simp only [if_neg hm]
    have := h e.m (by omega) (by omega)
    by_cases hf : f e.m = 0
    · rw [if_pos hf, if_neg (by omega)]
    · rw [if_neg hf, if_pos (by omega)]
  by_cases k3 : e.k = 3
  · rw [if_neg (by omega), if_neg k1, if_neg k1, if_neg k2, if_pos k3]
    unfold advCode
    by_cases hm : e.m < 0 ∨ 20 < e.m
    · simp only [if_pos hm]
    simp only [if_neg hm]
    have := h e.m (by omega) (by omega)
    by_cases hf : f e.m = 1
    · rw [if_pos hf, if_neg (by omega)]
    · rw [if_neg hf, if_pos (by omega)]
  · rw [if_pos (by omega), if_neg k1, if_neg k2, if_neg k3]

theorem Inv.step {pre : List Ev} {f : Int → Int} (h : Inv pre f) (n : Int) (e : Ev) (hc : admCode n f e = 0) : Inv (pre ++ [e]) (admMap n f e) := by
  intro m hm0 hm1
  have h0 := h m hm0 hm1
  rw [cnt_snoc, cnt_snoc]
  unfold admCode at hc
  unfold admMap
  by_cases h1 : e.p < 0 ∨ n ≤ e.p
  · rw [if_pos h1] at hc; omega
  rw [if_neg h1] at hc ⊢
  by_cases k1 : e.k = 1
  · rw [if_pos k1, if_neg (by omega), if_neg (by omega)]; exact h0
  rw [if_neg k1] at hc ⊢
  by_cases k2 : e.k = 2
  · rw [if_pos k2] at hc ⊢
    unfold advCode at hc
    by_cases hm : e.m < 0 ∨ 20 < e.m
    · rw [if_pos hm] at hc; omega
    rw [if_neg hm] at hc
    by_cases hf : f e.m = 0
    · unfold advMap
      rw [if_pos ⟨by omega, hf⟩]
      by_cases he : m = e.m
      · subst he; rw [put_same, if_pos ⟨k2, rfl⟩, if_neg (by omega)]; omega
      · rw [put_other _ _ he, if_neg (by omega), if_neg (by omega)]; exact h0
    · rw [if_neg hf] at hc; omega
  rw [if_neg k2] at hc ⊢
  by_cases k3 : e.k = 3
  · rw [if_pos k3] at hc ⊢
    unfold advCode at hc
    by_cases hm : e.m < 0 ∨ 20 < e.m
    · rw [if_pos hm] at hc; omega
    rw [if_neg hm] at hc
    by_cases hf : f e.m = 1
    · unfold advMap
      rw [if_pos ⟨by omega, hf⟩]
      by_cases he : m = e.m
      · subst he; rw [put_same, if_neg (by omega), if_pos ⟨k3, rfl⟩]; omega
      · rw [put_other _ _ he, if_neg (by omega), if_neg (by omega)]; exact h0
    · rw [if_neg hf] at hc; omega
  · rw [if_neg k3] at hc; omega

#print axioms Inv.step
end Go.Proofs.Ytpofmhlmaejmoaa
