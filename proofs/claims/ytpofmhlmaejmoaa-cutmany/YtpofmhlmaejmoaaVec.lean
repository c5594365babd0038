/-
  Vector timestamps: counting what an event knows of a process; what one event adds; and that they tell what happens before what: plain.
-/
import Derived.Test.YtpofmhlmaejmoaaStep
namespace Go.Proofs.Ytpofmhlmaejmoaa

/-- How many events below k, of process p, are in a set. -/
def pcnt (l : List Ev) (S : Nat → Bool) (p : Int) : Nat → Nat
  | 0 => 0
  | k + 1 => pcnt l S p k + if S k = true ∧ (ev l k).p = p then 1 else 0

theorem pcnt_le (l : List Ev) (S : Nat → Bool) (p : Int) (k : Nat) : pcnt l S p k ≤ k := by
  induction k with
  | zero => exact Nat.le_refl _
  | succ k ih => unfold pcnt; split <;> omega
theorem pcnt_none (l : List Ev) (p : Int) (k : Nat) : pcnt l (fun _ => false) p k = 0 := by
  induction k with
  | zero => rfl
  | succ k ih => unfold pcnt; rw [ih]; simp
theorem pcnt_mono {l : List Ev} {S S' : Nat → Bool} {p : Int} {k : Nat} (h : ∀ i, i < k → (ev l i).p = p → S i = true → S' i = true) : pcnt l S p k ≤ pcnt l S' p k := by
  induction k with
  | zero => exact Nat.le_refl _
  | succ k ih =>
    have := ih fun i hi => h i (by omega)
    have hk := h k (by omega)
    unfold pcnt
    by_cases h1 : S k = true ∧ (ev l k).p = p
    · rw [if_pos h1, if_pos ⟨hk h1.2 h1.1, h1.2⟩]; omega
    · rw [if_neg h1]; omega
theorem pcnt_congr {l : List Ev} {S S' : Nat → Bool} {p : Int} {k : Nat} (h : ∀ i, i < k → (ev l i).p = p → (S i = true ↔ S' i = true)) : pcnt l S p k = pcnt l S' p k :=
  Nat.le_antisymm (pcnt_mono fun i h1 h2 => (h i h1 h2).1) (pcnt_mono fun i h1 h2 => (h i h1 h2).2)
theorem pcnt_lt {l : List Ev} {S S' : Nat → Bool} {p : Int} {k x : Nat} (h : ∀ i, i < k → (ev l i).p = p → S i = true → S' i = true) (hx : x < k) (hp : (ev l x).p = p) (h1 : S x = false) (h2 : S' x = true) : pcnt l S p k < pcnt l S' p k := by
  induction k with
  | zero => omega
  | succ k ih =>
    unfold pcnt
    by_cases e : x = k
    · subst e
      have := pcnt_mono (l := l) (S := S) (S' := S') (p := p) (k := x) fun i hi => h i (by omega)
      rw [if_neg (by simp [h1]), if_pos ⟨h2, hp⟩]
      omega
    · have := ih (fun i hi => h i (by omega)) (by omega)
      by_cases h3 : S k = true ∧ (ev l k).p = p
      · rw [if_pos h3, if_pos ⟨h k (by omega) h3.2 h3.1, h3.2⟩]; omega
      · rw [if_neg h3]; omega
theorem pcnt_more {l : List Ev} {S : Nat → Bool} {p : Int} {a : Nat} (h : ∀ i, a ≤ i → S i = false) : ∀ b, a ≤ b → pcnt l S p b = pcnt l S p a := by
  intro b
  induction b with
  | zero => intro hb; have : a = 0 := by omega
            rw [this]
  | succ b ih =>
    intro hb
    by_cases e : a = b + 1
    · rw [e]
    · have hab : a ≤ b := by omega
      have h1 := h b hab
      show pcnt l S p b + (if S b = true ∧ (ev l b).p = p then 1 else 0) = _
      rw [if_neg (by simp [h1]), ih hab, Nat.add_zero]
theorem pcnt_one {l : List Ev} {S : Nat → Bool} {x : Nat} (hx : S x = false) (p : Int) (k : Nat) : pcnt l (fun i => decide (i = x) || S i) p k = pcnt l S p k + if x < k ∧ (ev l x).p = p then 1 else 0 := by
  induction k with
  | zero => simp [pcnt]
  | succ k ih =>
    unfold pcnt
    rw [ih]
    by_cases e : k = x
    · subst e
      by_cases hp : (ev l k).p = p
      · simp [hp, hx]
      · simp [hp]
    · have h1 : (x < k + 1 ∧ (ev l x).p = p) ↔ (x < k ∧ (ev l x).p = p) := by constructor <;> (rintro ⟨a, b⟩; exact ⟨by omega, b⟩)
      simp only [h1, e, decide_false, Bool.false_or]
      omega

/-- With an event, those of its process that were earlier. -/
def Pre (l : List Ev) (S : Nat → Bool) : Prop := ∀ i i', i' < i → i < l.length → (ev l i').p = (ev l i).p → S i = true → S i' = true

theorem pcnt_or {l : List Ev} {S S' : Nat → Bool} (h : Pre l S) (h' : Pre l S') (p : Int) : pcnt l (fun i => S i || S' i) p l.length = max (pcnt l S p l.length) (pcnt l S' p l.length) := by
  by_cases hc : ∃ i, i < l.length ∧ (ev l i).p = p ∧ S i = true ∧ S' i = false
  · obtain ⟨i, h1, h2, h3, h4⟩ := hc
    have key : ∀ x, x < l.length → (ev l x).p = p → S' x = true → S x = true := by
      intro x hx hp hs
      rcases Nat.lt_trichotomy x i with h5 | h5 | h5
      · exact h i x h5 h1 (by rw [hp, h2]) h3
      · rw [h5]; exact h3
      · have := h' x i h5 hx (by rw [hp, h2]) hs
        rw [h4] at this; cases this
    have e1 : pcnt l (fun i => S i || S' i) p l.length = pcnt l S p l.length := pcnt_congr fun x hx hp => by
      rw [Bool.or_eq_true]
      constructor
      · rintro (h6 | h6)
        · exact h6
        · exact key x hx hp h6
      · exact .inl
    have e2 := pcnt_mono (k := l.length) key
    rw [e1]; omega
  · have key : ∀ x, x < l.length → (ev l x).p = p → S x = true → S' x = true := by
      intro x hx hp hs
      cases h5 : S' x with
      | true => rfl
      | false => exact absurd ⟨x, hx, hp, hs, h5⟩ hc
    have e1 : pcnt l (fun i => S i || S' i) p l.length = pcnt l S' p l.length := pcnt_congr fun x hx hp => by
      rw [Bool.or_eq_true]
      constructor
      · rintro (h6 | h6)
        · exact key x hx hp h6
        · exact h6
      · exact .inr
    have e2 := pcnt_mono (k := l.length) key
    rw [e1]; omega

/-- Event i is event j, or happens before it. -/
def knows (l : List Ev) (j i : Nat) : Bool := decide (i = j) || bitAt l i j
theorem knows_iff {l : List Ev} (hs : Sole l) {j : Nat} (hj : j < l.length) (i : Nat) : knows l j i = true ↔ i = j ∨ HB l i j := by
  unfold knows
  rw [Bool.or_eq_true, decide_eq_true_eq]
  have := (tells l hs).res i j hj
  unfold bitAt
  rw [this]
theorem knows_le {l : List Ev} (hs : Sole l) {j : Nat} (hj : j < l.length) {i : Nat} (h : knows l j i = true) : i ≤ j := by
  rcases (knows_iff hs hj i).1 h with h | h
  · omega
  · have := h.lt; omega
theorem knows_self (l : List Ev) (j : Nat) : knows l j j = true := by simp [knows]
theorem knows_trans {l : List Ev} (hs : Sole l) {i j k : Nat} (hk : k < l.length) (h1 : knows l k j = true) (h2 : knows l j i = true) : knows l k i = true := by
  have hj : j < l.length := by have := knows_le hs hk h1; omega
  rw [knows_iff hs hk] at h1 ⊢
  rw [knows_iff hs hj] at h2
  rcases h1 with rfl | h1
  · exact h2
  · rcases h2 with rfl | h2
    · exact .inr h1
    · exact .inr (h2.trans h1)
theorem knows_proc {l : List Ev} (hs : Sole l) {i j : Nat} (hij : i < j) (hj : j < l.length) (hp : (ev l i).p = (ev l j).p) : knows l j i = true :=
  (knows_iff hs hj i).2 (.inr (.of ⟨hij, hj, .inl hp⟩))
theorem knows_pre {l : List Ev} (hs : Sole l) {j : Nat} (hj : j < l.length) : Pre l (knows l j) :=
  fun _ _ h1 h2 h3 h4 => knows_trans hs hj h4 (knows_proc hs h1 h2 h3)

/-- The number of events of process p that event j knows. -/
def vec (l : List Ev) (j : Nat) (p : Int) : Nat := pcnt l (knows l j) p l.length
theorem vec_le (l : List Ev) (j : Nat) (p : Int) : vec l j p ≤ l.length := pcnt_le _ _ _ _
theorem vec_upto {l : List Ev} (hs : Sole l) {j : Nat} (hj : j < l.length) (p : Int) : vec l j p = pcnt l (knows l j) p (j + 1) :=
  pcnt_more (fun i hi => by
    rw [← Bool.not_eq_true]
    intro h
    have := knows_le hs hj h
    omega) _ (by omega)

/-- What there is of an event that may be lacking. -/
def knowsO (l : List Ev) (o : Option Nat) (i : Nat) : Bool := match o with | none => false | some j => knows l j i
def vecO (l : List Ev) (o : Option Nat) (p : Int) : Nat := match o with | none => 0 | some j => vec l j p
theorem vecO_eq (l : List Ev) (o : Option Nat) (p : Int) : vecO l o p = pcnt l (knowsO l o) p l.length := by
  cases o with
  | none => exact (pcnt_none _ _ _).symm
  | some j => rfl
theorem vecO_le (l : List Ev) (o : Option Nat) (p : Int) : vecO l o p ≤ l.length := by rw [vecO_eq]; exact pcnt_le _ _ _ _
theorem knowsO_pre {l : List Ev} (hs : Sole l) {o : Option Nat} (ho : ∀ j, o = some j → j < l.length) : Pre l (knowsO l o) := by
  cases o with
  | none => intro _ _ _ _ _ h; cases h
  | some j => exact knows_pre hs (ho j rfl)

theorem knows_step {l : List Ev} (hs : Sole l) {k : Nat} (hk : k < l.length) (i : Nat) : knows l k i = (decide (i = k) || (knowsO l (prev l k) i || knowsO l (sender l k) i)) := by
  rw [Bool.eq_iff_iff, Bool.or_eq_true, Bool.or_eq_true, decide_eq_true_eq, knows_iff hs hk]
  have e : HB l i k ↔ knowsO l (prev l k) i = true ∨ knowsO l (sender l k) i = true := by
    constructor
    · intro h
      have h := (hb_nxt hs i k).1 h
      obtain ⟨j, hj, hn⟩ : ∃ j, (i = j ∨ Relation.TransGen (Nxt l) i j) ∧ Nxt l j k := by
        cases h with
        | single a => exact ⟨i, .inl rfl, a⟩
        | tail a b => exact ⟨_, .inr a, b⟩
      have hjl : j < l.length := by have := hn.lt; omega
      have hkn : knows l j i = true := (knows_iff hs hjl i).2 (by
        rcases hj with h1 | h1
        · exact .inl h1
        · exact .inr ((hb_nxt hs i j).2 h1))
      rcases hn.2 with h1 | h1
      · left; rw [h1]; exact hkn
      · right; rw [h1]; exact hkn
    · have one : ∀ o : Option Nat, (∀ j, o = some j → Dir l j k) → knowsO l o i = true → HB l i k := by
        intro o ho h
        cases o with
        | none => cases h
        | some j =>
          have hd := ho j rfl
          exact HB.join ((knows_iff hs (by have := hd.1; omega) i).1 h) hd
      rintro (h | h)
      · exact one _ (fun j hj => prev_dir hk hj) h
      · exact one _ (fun j hj => sender_dir hk hj) h
  rw [e]

/-- What an event knows: the more that one of the two before it knows, and itself. -/
theorem vec_step {l : List Ev} (hs : Sole l) {k : Nat} (hk : k < l.length) (p : Int) : vec l k p = max (vecO l (prev l k) p) (vecO l (sender l k) p) + if (ev l k).p = p then 1 else 0 := by
  have h1 : ∀ j, prev l k = some j → j < k := fun j hj => (prev_dir hk hj).1
  have h2 : ∀ j, sender l k = some j → j < k := fun j hj => (sender_dir hk hj).1
  have no : ∀ o : Option Nat, (∀ j, o = some j → j < k) → knowsO l o k = false := by
    intro o ho
    rw [← Bool.not_eq_true]
    intro h
    cases o with
    | none => cases h
    | some j =>
      have := ho j rfl
      have := knows_le hs (by omega) h
      omega
  unfold vec
  rw [show knows l k = fun i => decide (i = k) || (knowsO l (prev l k) i || knowsO l (sender l k) i) from funext (knows_step hs hk)]
  rw [pcnt_one (S := fun i => knowsO l (prev l k) i || knowsO l (sender l k) i) (by rw [no _ h1, no _ h2]; rfl), pcnt_or (knowsO_pre hs fun j hj => by have := h1 j hj; omega) (knowsO_pre hs fun j hj => by have := h2 j hj; omega), ← vecO_eq, ← vecO_eq]
  simp [hk]

/-- One number decides. -/
theorem knows_vec {l : List Ev} (hs : Sole l) {i j : Nat} (hi : i < l.length) (hj : j < l.length) : knows l j i = true ↔ vec l i (ev l i).p ≤ vec l j (ev l i).p := by
  constructor
  · intro h
    exact pcnt_mono fun x _ _ hx => knows_trans hs hj h hx
  · intro h
    cases hk : knows l j i with
    | true => rfl
    | false =>
      have := pcnt_lt (l := l) (S := knows l j) (S' := knows l i) (p := (ev l i).p) (k := l.length) (x := i) (fun x hx hp hkx => by
        rcases Nat.lt_trichotomy x i with h5 | h5 | h5
        · exact knows_proc hs h5 hi hp
        · rw [h5]; exact knows_self l i
        · have := knows_pre hs hj x i h5 hx hp.symm hkx
          rw [hk] at this; cases this) hi rfl hk (knows_self l i)
      unfold vec at h
      omega

/-- Vectors tell what happens before what. -/
theorem hb_vec {n : Nat} {l : List Ev} (g : Good n l) {i j : Nat} (hi : i < l.length) (hj : j < l.length) : HB l i j ↔ (∀ p : Nat, p < n → vec l i p ≤ vec l j p) ∧ ∃ p : Nat, p < n ∧ vec l i p < vec l j p := by
  have hs := g.sole
  have pr : ∀ x, x < l.length → ∃ p : Nat, p < n ∧ (ev l x).p = (p : Int) := fun x hx => by
    obtain ⟨h1, h2⟩ := g.proc x hx
    exact ⟨(ev l x).p.toNat, by omega, by omega⟩
  constructor
  · intro h
    have hk : knows l j i = true := (knows_iff hs hj i).2 (.inr h)
    refine ⟨fun p _ => pcnt_mono fun x _ _ hx => knows_trans hs hj hk hx, ?_⟩
    obtain ⟨p, hp, he⟩ := pr j hj
    refine ⟨p, hp, pcnt_lt (x := j) (fun x _ _ hx => knows_trans hs hj hk hx) hj he ?_ (knows_self l j)⟩
    rw [← Bool.not_eq_true]
    intro h2
    have := knows_le hs hi h2
    have := h.lt
    omega
  · rintro ⟨h1, p, _, h2⟩
    obtain ⟨q, hq, he⟩ := pr i hi
    have h3 := h1 q hq
    rw [← he] at h3
    rcases (knows_iff hs hj i).1 ((knows_vec hs hi hj).2 h3) with rfl | h4
    · omega
    · exact h4

#print axioms hb_vec
end Go.Proofs.Ytpofmhlmaejmoaa
