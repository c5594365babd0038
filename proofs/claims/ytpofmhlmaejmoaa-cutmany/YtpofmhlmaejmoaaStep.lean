/-
  The direct followers of an event, as the program lists them; happens-before is what these steps imply: plain.
-/
import Derived.Test.YtpofmhlmaejmoaaRank
import Derived.Test.YtpofmhlmaejmoaaValid
namespace Go.Proofs.Ytpofmhlmaejmoaa

/-- The last number below k at which P holds. -/
def lastOf (P : Nat → Bool) : Nat → Option Nat
  | 0 => none
  | k + 1 => if P k then some k else lastOf P k

theorem lastOf_some {P : Nat → Bool} {k i : Nat} (h : lastOf P k = some i) : i < k ∧ P i = true ∧ ∀ j, i < j → j < k → P j = false := by
  induction k with
  | zero => cases h
  | succ k ih =>
    unfold lastOf at h
    by_cases hp : P k = true
    · rw [if_pos hp] at h
      injection h with h
      subst h
      exact ⟨by omega, hp, fun j h1 h2 => by omega⟩
    · rw [if_neg hp] at h
      obtain ⟨h1, h2, h3⟩ := ih h
      refine ⟨by omega, h2, fun j h4 h5 => ?_⟩
      rcases Nat.lt_or_ge j k with h6 | h6
      · exact h3 j h4 h6
      · have : j = k := by omega
        subst this
        simpa using hp
theorem lastOf_none {P : Nat → Bool} {k : Nat} (h : lastOf P k = none) : ∀ j, j < k → P j = false := by
  induction k with
  | zero => intro j hj; omega
  | succ k ih =>
    unfold lastOf at h
    by_cases hp : P k = true
    · rw [if_pos hp] at h; cases h
    · rw [if_neg hp] at h
      intro j hj
      rcases Nat.lt_or_ge j k with h6 | h6
      · exact ih h j h6
      · have : j = k := by omega
        subst this
        simpa using hp
theorem lastOf_ge {P : Nat → Bool} {k i : Nat} (hi : i < k) (hp : P i = true) : ∃ j, lastOf P k = some j ∧ i ≤ j := by
  rcases h : lastOf P k with _ | j
  · have := lastOf_none h i hi
    rw [hp] at this; cases this
  · refine ⟨j, rfl, ?_⟩
    obtain ⟨_, _, h3⟩ := lastOf_some h
    rcases Nat.lt_or_ge j i with h1 | h1
    · have := h3 i h1 hi
      rw [hp] at this; cases this
    · exact h1

def ofProc (l : List Ev) (p : Int) (i : Nat) : Bool := decide ((ev l i).p = p)
def isSend (l : List Ev) (m : Int) (i : Nat) : Bool := decide ((ev l i).k = 2 ∧ (ev l i).m = m)
def latest (l : List Ev) (k : Nat) (p : Int) : Option Nat := lastOf (ofProc l p) k
def sends (l : List Ev) (k : Nat) (m : Int) : Option Nat := lastOf (isSend l m) k
def prev (l : List Ev) (k : Nat) : Option Nat := latest l k (ev l k).p
def sender (l : List Ev) (k : Nat) : Option Nat := if (ev l k).k = 3 then sends l k (ev l k).m else none

theorem latest_succ (l : List Ev) (k : Nat) (p : Int) : latest l (k + 1) p = if p = (ev l k).p then some k else latest l k p := by
  unfold latest
  rw [lastOf]
  unfold ofProc
  by_cases h : p = (ev l k).p
  · rw [if_pos h, if_pos (by simp [h])]
  · rw [if_neg h, if_neg (by simp; exact fun hh => h hh.symm)]
theorem sends_succ (l : List Ev) (k : Nat) (m : Int) : sends l (k + 1) m = if (ev l k).k = 2 ∧ m = (ev l k).m then some k else sends l k m := by
  unfold sends
  rw [lastOf]
  unfold isSend
  by_cases h : (ev l k).k = 2 ∧ m = (ev l k).m
  · rw [if_pos h, if_pos (by simp [h.1, h.2])]
  · rw [if_neg h, if_neg (by simp; exact fun h1 h2 => h ⟨h1, h2.symm⟩)]

/-- What event j adds to the followers of event i. -/
def con1 (l : List Ev) (i j : Nat) : List Nat := if prev l j = some i then [j] else []
def con2 (l : List Ev) (i j : Nat) : List Nat := if sender l j = some i then [j] else []
def folTo (l : List Ev) : Nat → Nat → List Nat
  | 0, _ => []
  | k + 1, i => folTo l k i ++ con1 l i k ++ con2 l i k
def fol (l : List Ev) (i : Nat) : List Nat := folTo l l.length i

def Nxt (l : List Ev) (i j : Nat) : Prop := j < l.length ∧ (prev l j = some i ∨ sender l j = some i)

theorem folTo_mem (l : List Ev) (k i j : Nat) : j ∈ folTo l k i ↔ j < k ∧ (prev l j = some i ∨ sender l j = some i) := by
  induction k with
  | zero => simp [folTo]
  | succ k ih =>
    unfold folTo
    rw [List.mem_append, List.mem_append, ih]
    unfold con1 con2
    constructor
    · rintro ((h | h) | h)
      · exact ⟨by omega, h.2⟩
      · by_cases hp : prev l k = some i
        · rw [if_pos hp, List.mem_singleton] at h; subst h; exact ⟨by omega, .inl hp⟩
        · rw [if_neg hp] at h; cases h
      · by_cases hp : sender l k = some i
        · rw [if_pos hp, List.mem_singleton] at h; subst h; exact ⟨by omega, .inr hp⟩
        · rw [if_neg hp] at h; cases h
    · rintro ⟨h1, h2⟩
      rcases Nat.lt_or_ge j k with h3 | h3
      · exact .inl (.inl ⟨h3, h2⟩)
      · have : j = k := by omega
        subst this
        rcases h2 with h2 | h2
        · exact .inl (.inr (by rw [if_pos h2]; simp))
        · exact .inr (by rw [if_pos h2]; simp)
theorem fol_mem (l : List Ev) (i j : Nat) : j ∈ fol l i ↔ Nxt l i j := folTo_mem l l.length i j
theorem folTo_len (l : List Ev) (k i : Nat) : (folTo l k i).length ≤ 2 * k := by
  induction k with
  | zero => simp [folTo]
  | succ k ih =>
    have h1 : (con1 l i k).length ≤ 1 := by unfold con1; split <;> simp
    have h2 : (con2 l i k).length ≤ 1 := by unfold con2; split <;> simp
    simp only [folTo, List.length_append]
    omega
theorem folTo_sorted (l : List Ev) (k i : Nat) : (folTo l k i).Pairwise (· ≤ ·) := by
  induction k with
  | zero => simp [folTo]
  | succ k ih =>
    have hlt : ∀ x ∈ folTo l k i, x ≤ k := fun x hx => by have := ((folTo_mem l k i x).1 hx).1; omega
    have h1 : ∀ x ∈ con1 l i k, x = k := by unfold con1; intro x hx; split at hx <;> simp at hx; exact hx
    have h2 : ∀ x ∈ con2 l i k, x = k := by unfold con2; intro x hx; split at hx <;> simp at hx; exact hx
    have p1 : (con1 l i k).Pairwise (· ≤ ·) := by unfold con1; split <;> simp
    have p2 : (con2 l i k).Pairwise (· ≤ ·) := by unfold con2; split <;> simp
    unfold folTo
    rw [List.pairwise_append, List.pairwise_append]
    refine ⟨⟨ih, p1, fun a ha b hb => by rw [h1 b hb]; exact hlt a ha⟩, p2, fun a ha b hb => ?_⟩
    rw [h2 b hb]
    rcases List.mem_append.1 ha with ha | ha
    · exact hlt a ha
    · rw [h1 a ha]; exact Nat.le_refl _

theorem prev_dir {l : List Ev} {i j : Nat} (hj : j < l.length) (h : prev l j = some i) : Dir l i j := by
  obtain ⟨h1, h2, _⟩ := lastOf_some h
  exact ⟨h1, hj, .inl (by simpa [ofProc] using h2)⟩
theorem sender_dir {l : List Ev} {i j : Nat} (hj : j < l.length) (h : sender l j = some i) : Dir l i j := by
  unfold sender at h
  by_cases hk : (ev l j).k = 3
  · rw [if_pos hk] at h
    obtain ⟨h1, h2, _⟩ := lastOf_some h
    have h2 : (ev l i).k = 2 ∧ (ev l i).m = (ev l j).m := by simpa [isSend] using h2
    exact ⟨h1, hj, .inr ⟨h2.1, hk, h2.2⟩⟩
  · rw [if_neg hk] at h; cases h
theorem Nxt.dir {l : List Ev} {i j : Nat} (h : Nxt l i j) : Dir l i j := by
  rcases h.2 with h1 | h1
  · exact prev_dir h.1 h1
  · exact sender_dir h.1 h1
theorem Nxt.lt {l : List Ev} {i j : Nat} (h : Nxt l i j) : i < j ∧ j < l.length := ⟨h.dir.1, h.1⟩

theorem proc_steps {l : List Ev} : ∀ j i, i < j → j < l.length → (ev l i).p = (ev l j).p → Relation.TransGen (Nxt l) i j := by
  intro j
  induction j using Nat.strongRecOn with
  | ind j ih =>
    intro i hij hj hp
    obtain ⟨x, h1, h2⟩ := lastOf_ge (P := ofProc l (ev l j).p) hij (by simp [ofProc, hp])
    obtain ⟨h3, h4, _⟩ := lastOf_some h1
    have h4 : (ev l x).p = (ev l j).p := by simpa [ofProc] using h4
    rcases Nat.lt_or_ge i x with h5 | h5
    · exact .tail (ih x h3 i h5 (by omega) (hp.trans h4.symm)) ⟨hj, .inl h1⟩
    · have : i = x := by omega
      subst this
      exact .single ⟨hj, .inl h1⟩
theorem dir_steps {l : List Ev} (hs : Sole l) {i j : Nat} (h : Dir l i j) : Relation.TransGen (Nxt l) i j := by
  obtain ⟨h1, h2, (h3 | ⟨h3, h4, h5⟩)⟩ := h
  · exact proc_steps _ _ h1 h2 h3
  · obtain ⟨x, h6, h7⟩ := lastOf_ge (P := isSend l (ev l j).m) h1 (by simp [isSend, h3, h5])
    obtain ⟨h8, h9, _⟩ := lastOf_some h6
    have h9 : (ev l x).k = 2 ∧ (ev l x).m = (ev l j).m := by simpa [isSend] using h9
    have hx : i = x := by
      rcases Nat.lt_or_ge i x with h10 | h10
      · exact absurd (h5.trans h9.2.symm) (hs i x h10 (by omega) h3 h9.1)
      · omega
    subst hx
    refine .single ⟨h2, .inr ?_⟩
    unfold sender
    rw [if_pos h4]
    exact h6
theorem hb_nxt {l : List Ev} (hs : Sole l) (i j : Nat) : HB l i j ↔ Relation.TransGen (Nxt l) i j := by
  constructor
  · intro h
    induction h with
    | single a => exact dir_steps hs a
    | tail _ a ih => exact Relation.TransGen.trans ih (dir_steps hs a)
  · intro h
    induction h with
    | single a => exact .single a.dir
    | tail _ a ih => exact .tail ih a.dir

/-- A receipt has its sender. -/
theorem Good.sends {n : Int} {l : List Ev} (g : Good n l) {k : Nat} (hk : k < l.length) (h3 : (ev l k).k = 3) : ∃ i, i < k ∧ sends l k (ev l k).m = some i := by
  obtain ⟨i, h1, h2, h4⟩ := g.sent k hk h3
  obtain ⟨x, h6, h7⟩ := lastOf_ge (P := isSend l (ev l k).m) h1 (by simp [isSend, h2, h4])
  exact ⟨x, (lastOf_some h6).1, h6⟩

#print axioms hb_nxt
end Go.Proofs.Ytpofmhlmaejmoaa
