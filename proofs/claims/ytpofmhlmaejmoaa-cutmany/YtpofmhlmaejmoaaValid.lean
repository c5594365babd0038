/-
  Which lists of events are executions, said of their places: plain.
-/
import Derived.Test.YtpofmhlmaejmoaaPast
namespace Go.Proofs.Ytpofmhlmaejmoaa

theorem cnt_zero (kd m : Int) (l : List Ev) : cnt kd m l = 0 ↔ ∀ i, i < l.length → ¬ ((ev l i).k = kd ∧ (ev l i).m = m) := by
  induction l using snoc_ind with
  | h0 => exact ⟨fun _ i h => absurd h (by simp), fun _ => rfl⟩
  | h1 l e ih =>
    rw [cnt_snoc]
    constructor
    · intro h i hi
      by_cases hc : e.k = kd ∧ e.m = m
      · rw [if_pos hc] at h; omega
      · rw [if_neg hc] at h
        rw [List.length_append, List.length_singleton] at hi
        rcases Nat.lt_or_ge i l.length with h1 | h1
        · rw [ev_left l e h1]; exact ih.1 (by omega) i h1
        · have : i = l.length := by omega
          subst this
          rw [ev_last]; exact hc
    · intro h
      have h1 := h l.length (by simp)
      rw [ev_last] at h1
      rw [if_neg h1]
      have := ih.2 (fun i hi => by have := h i (by simp; omega); rwa [ev_left l e hi] at this)
      omega

theorem runCode_zero (n : Int) : ∀ (l pre : List Ev) (f : Int → Int), Inv pre f → (runCode n l f = 0 ↔ ∀ k, (h : k < l.length) → refCode n (pre ++ l.take k) l[k] = 0) := by
  intro l
  induction l with
  | nil => exact fun pre f _ => ⟨fun _ k h => absurd h (by simp), fun _ => rfl⟩
  | cons e r ih =>
    intro pre f hI
    have hc := hI.code n e
    unfold runCode
    by_cases h0 : admCode n f e = 0
    · rw [if_pos h0, ih (pre ++ [e]) _ (hI.step n e h0)]
      constructor
      · intro h k hk
        cases k with
        | zero => simp [hc, h0]
        | succ k =>
          have := h k (by simpa using hk)
          simpa using this
      · intro h k hk
        have := h (k + 1) (by simpa using hk)
        simpa using this
    · rw [if_neg h0]
      constructor
      · intro h; exact absurd h h0
      · intro h
        have := h 0 (by simp)
        simp [hc] at this
        exact absurd this h0

structure Good (n : Int) (l : List Ev) : Prop where
  proc : ∀ j, j < l.length → 0 ≤ (ev l j).p ∧ (ev l j).p < n
  kind : ∀ j, j < l.length → (ev l j).k = 1 ∨ (ev l j).k = 2 ∨ (ev l j).k = 3
  msg : ∀ j, j < l.length → (ev l j).k ≠ 1 → 0 ≤ (ev l j).m ∧ (ev l j).m ≤ 20
  send : ∀ j, j < l.length → (ev l j).k = 2 → ∀ i, i < j → ¬ ((ev l i).k = 2 ∧ (ev l i).m = (ev l j).m)
  sent : ∀ j, j < l.length → (ev l j).k = 3 → ∃ i, i < j ∧ (ev l i).k = 2 ∧ (ev l i).m = (ev l j).m
  take : ∀ j, j < l.length → (ev l j).k = 3 → ∀ i, i < j → ¬ ((ev l i).k = 3 ∧ (ev l i).m = (ev l j).m)

theorem cnt_pre (kd m : Int) (l : List Ev) {j : Nat} (hj : j < l.length) : cnt kd m (l.take j) = 0 ↔ ∀ i, i < j → ¬ ((ev l i).k = kd ∧ (ev l i).m = m) := by
  rw [cnt_zero]
  constructor
  · intro h i hi
    have := h i (by simp; omega)
    rwa [ev_take l hi] at this
  · intro h i hi
    have hi' : i < j := by simp at hi; omega
    rw [ev_take l hi']; exact h i hi'

theorem refCode_zero (n : Int) (pre : List Ev) (e : Ev) : refCode n pre e = 0 ↔
    (0 ≤ e.p ∧ e.p < n) ∧ (e.k = 1 ∨ e.k = 2 ∨ e.k = 3) ∧ (e.k ≠ 1 → 0 ≤ e.m ∧ e.m ≤ 20) ∧ (e.k = 2 → cnt 2 e.m pre = 0) ∧ (e.k = 3 → ¬ cnt 2 e.m pre = 0 ∧ cnt 3 e.m pre = 0) := by
  unfold refCode
  by_cases h1 : e.p < 0 ∨ n ≤ e.p
  · rw [if_pos h1]; omega
  rw [if_neg h1]
  by_cases h2 : e.k < 1 ∨ 3 < e.k
  · rw [if_pos h2]; omega
  rw [if_neg h2]
  by_cases h3 : e.k = 1
  · rw [if_pos h3]; omega
  rw [if_neg h3]
  by_cases h4 : e.m < 0 ∨ 20 < e.m
  · rw [if_pos h4]; omega
  rw [if_neg h4]
  by_cases h5 : (e.k = 2 ∧ 0 < cnt 2 e.m pre) ∨ (e.k = 3 ∧ (cnt 2 e.m pre = 0 ∨ 0 < cnt 3 e.m pre))
  · rw [if_pos h5]; omega
  · rw [if_neg h5]; omega

theorem good_iff (n : Int) (l : List Ev) : runCode n l (fun _ => 0) = 0 ↔ Good n l := by
  rw [runCode_zero n l [] _ Inv.nil]
  have key : (∀ k, (h : k < l.length) → refCode n ([] ++ l.take k) l[k] = 0) ↔ ∀ k, k < l.length → refCode n (l.take k) (ev l k) = 0 := by
    constructor
    · intro h k hk; rw [ev_get l hk]; simpa using h k hk
    · intro h k hk; have := h k hk; rw [ev_get l hk] at this; simpa using this
  rw [key]
  constructor
  · intro h
    refine ⟨fun j hj => ((refCode_zero _ _ _).1 (h j hj)).1, fun j hj => ((refCode_zero _ _ _).1 (h j hj)).2.1, fun j hj => ((refCode_zero _ _ _).1 (h j hj)).2.2.1, fun j hj hk => ?_, fun j hj hk => ?_, fun j hj hk => ?_⟩
    · exact (cnt_pre 2 _ l hj).1 (((refCode_zero _ _ _).1 (h j hj)).2.2.2.1 hk)
    · have := (((refCode_zero _ _ _).1 (h j hj)).2.2.2.2 hk).1
      rw [cnt_pre 2 _ l hj] at this
      refine Classical.byContradiction fun hn => this fun i hi hh => hn ⟨i, hi, hh.1, hh.2⟩
    · exact (cnt_pre 3 _ l hj).1 (((refCode_zero _ _ _).1 (h j hj)).2.2.2.2 hk).2
  · intro g k hk
    rw [refCode_zero]
    refine ⟨g.proc k hk, g.kind k hk, g.msg k hk, fun h => (cnt_pre 2 _ l hk).2 (g.send k hk h), fun h => ⟨fun hc => ?_, (cnt_pre 3 _ l hk).2 (g.take k hk h)⟩⟩
    obtain ⟨i, h1, h2⟩ := g.sent k hk h
    exact (cnt_pre 2 _ l hk).1 hc i h1 h2

theorem check_good {n : Int} {l : List Ev} : checkCode n l = 0 ↔ (1 ≤ n ∧ n ≤ 6 ∧ l.length ≤ 30) ∧ Good n l := by
  unfold checkCode
  by_cases hc : n < 1 ∨ 6 < n ∨ 30 < l.length
  · rw [if_pos hc]; constructor
    · intro h; omega
    · intro h; omega
  · rw [if_neg hc, good_iff]
    constructor
    · intro h; exact ⟨by omega, h⟩
    · intro h; exact h.2

theorem Good.sole {n : Int} {l : List Ev} (g : Good n l) : Sole l := fun i j hij hj hi2 hj2 hm => g.send j hj hj2 i hij ⟨hi2, hm⟩

theorem Good.front {n : Int} {l : List Ev} (g : Good n l) (m : Nat) : Good n (l.take m) := by
  have hl : ∀ j, j < (l.take m).length → j < l.length ∧ j < m := fun j hj => by simp at hj; omega
  have he : ∀ i, i < m → ev (l.take m) i = ev l i := fun i hi => ev_take l hi
  refine ⟨fun j hj => ?_, fun j hj => ?_, fun j hj => ?_, fun j hj => ?_, fun j hj => ?_, fun j hj => ?_⟩ <;> obtain ⟨h1, h2⟩ := hl j hj <;> rw [he j h2]
  · exact g.proc j h1
  · exact g.kind j h1
  · exact g.msg j h1
  · intro hk i hi; rw [he i (by omega)]; exact g.send j h1 hk i hi
  · intro hk
    obtain ⟨i, hi, h⟩ := g.sent j h1 hk
    exact ⟨i, hi, by rw [he i (by omega)]; exact h⟩
  · intro hk i hi; rw [he i (by omega)]; exact g.take j h1 hk i hi

theorem check_front {n : Int} {l : List Ev} (h : checkCode n l = 0) (m : Nat) : checkCode n (l.take m) = 0 := by
  rw [check_good] at h ⊢
  exact ⟨⟨h.1.1, h.1.2.1, by simp; omega⟩, h.2.front m⟩

/-- The program's bit is what happens before what. -/
theorem bit_hb {n : Int} {l : List Ev} (h : checkCode n l = 0) (i : Nat) {j : Nat} (hj : j < l.length) : bitAt l i j = true ↔ HB l i j :=
  (tells l ((check_good.1 h).2.sole)).res i j hj

theorem bit_none {n : Int} {l : List Ev} (h : checkCode n l = 0) {i j : Nat} (hj : j < l.length) (hn : ¬ HB l i j) : bitAt l i j = false := by
  rw [← Bool.not_eq_true, bit_hb h i hj]; exact hn

#print axioms bit_hb
end Go.Proofs.Ytpofmhlmaejmoaa
