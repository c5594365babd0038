/-
  Edge reversal: cycles stay, as sinks are turned; many times; who was turned how often. Plain.
-/
import Derived.Test.YtieicimoolegoaaFrk
namespace Go.Proofs.Ytieicimoolegoaa
open Go.RowKit Go.Maps
set_option linter.unusedVariables false
section
variable {N : Nat} {l : List Lk}
/-- From no link of s does a link lead. -/
def Snk (l : List Lk) (s : Nat) : Prop := ∀ k, k < l.length → s.testBit (la l k) = false
theorem lowN_Snk (h : FV N l) : Snk l (lowN N l) := fun k hk => by
  rw [← Bool.not_eq_true, lowN_bit h.six h.ok]
  rintro ⟨_, h2⟩
  exact h2 k hk rfl
theorem pow_Snk {i : Nat} (h : ∀ k, k < l.length → la l k ≠ i) : Snk l (2 ^ i) := fun k hk => by
  rw [← Bool.not_eq_true, pow_bit]
  exact h k hk
theorem Edg_len {l : List Lk} {i j : Nat} (e : Edg l i j) : ∃ k, k < l.length ∧ la l k = i ∧ lb l k = j := e
/-- A link behind the reversal: another one's reverse, or as it was. -/
theorem rev_Edg {s : Nat} {i j : Nat} : Edg (revL s l) i j ↔ (Edg l j i ∧ s.testBit i = true) ∨ (Edg l i j ∧ s.testBit j = false) := by
  constructor
  · rintro ⟨k, hk, e1, e2⟩
    rw [revL_len] at hk
    cases e : s.testBit (lb l k) with
    | true =>
      have := revL_on hk e
      left
      refine ⟨⟨k, hk, ?_, ?_⟩, ?_⟩
      · omega
      · omega
      · rw [← e1, this.1]; exact e
    | false =>
      have := revL_off hk e
      right
      refine ⟨⟨k, hk, ?_, ?_⟩, ?_⟩
      · omega
      · omega
      · rw [← e2, this.2]; exact e
  · rintro (⟨⟨k, hk, e1, e2⟩, e⟩ | ⟨⟨k, hk, e1, e2⟩, e⟩)
    · have := revL_on (s := s) hk (by rw [e2]; exact e)
      exact ⟨k, by rw [revL_len]; exact hk, by omega, by omega⟩
    · have := revL_off (s := s) hk (by rw [e2]; exact e)
      exact ⟨k, by rw [revL_len]; exact hk, by omega, by omega⟩
theorem Snk.of {s i j : Nat} (h : Snk l s) (e : Edg l i j) : s.testBit i = false := by
  obtain ⟨k, hk, e1, _⟩ := e
  rw [← e1]; exact h k hk
/-- No link leads to s, behind the reversal. -/
theorem Snk.rev {s i j : Nat} (h : Snk l s) (e : Edg (revL s l) i j) : s.testBit j = false := by
  rcases rev_Edg.1 e with ⟨e1, _⟩ | ⟨_, e2⟩
  · exact h.of e1
  · exact e2
theorem Snk.rev_to {s i j : Nat} (h : Snk l s) (hV : LOk (N : Int) (revL s l)) (hw : Wto (outG N (revL s l)) i j) : s.testBit i = false → s.testBit j = false := by
  induction hw using Wto.ind with
  | refl => exact id
  | step e _ ih => exact fun _ => ih (h.rev ((outG_Wt hV _ _).1 e))
theorem rev_cyc (h : FV N l) {s : Nat} (hs : Snk l s) : Cyc N (revL s l) ↔ Cyc N l := by
  have hV := (revL_FV s h).ok
  constructor
  · rintro ⟨j, m, e, ht⟩
    -- all on the way are outside s
    have key : ∀ i k, Wto (outG N (revL s l)) i k → s.testBit i = false → Wto (outG N l) i k := by
      intro i k hw
      induction hw using Wto.ind with
      | refl => intro _; exact .refl _
      | step e _ ih =>
        intro hi
        have e' := (outG_Wt hV _ _).1 e
        have hj := hs.rev e'
        rcases rev_Edg.1 e' with ⟨_, e2⟩ | ⟨e1, _⟩
        · rw [e2] at hi; cases hi
        · exact .step ((outG_Wt h.ok _ _).2 e1) (ih hj)
    have e' := (outG_Wt hV _ _).1 e
    have hm := hs.rev e'
    have hj : s.testBit j = false := hs.rev_to hV ht hm
    rcases rev_Edg.1 e' with ⟨_, e2⟩ | ⟨e1, _⟩
    · rw [e2] at hj; cases hj
    · exact ⟨j, m, (outG_Wt h.ok _ _).2 e1, key _ _ ht hm⟩
  · rintro ⟨j, hj⟩
    have key : ∀ i k, Wto (outG N l) i k → s.testBit k = false → Wto (outG N (revL s l)) i k ∧ s.testBit i = false := by
      intro i k hw
      induction hw using Wto.ind with
      | refl => intro hk; exact ⟨.refl _, hk⟩
      | step e _ ih =>
        intro hk
        obtain ⟨h1, h2⟩ := ih hk
        have e' := (outG_Wt h.ok _ _).1 e
        exact ⟨.step ((outG_Wt hV _ _).2 (rev_Edg.2 (.inr ⟨e', h2⟩))) h1, hs.of e'⟩
    obtain ⟨m, e, ht⟩ := hj
    have e' := (outG_Wt h.ok _ _).1 e
    obtain ⟨h1, h2⟩ := key _ _ ht (hs.of e')
    exact ⟨j, m, (outG_Wt hV _ _).2 (rev_Edg.2 (.inr ⟨e', h2⟩)), h1⟩

/-! By the document: all links with some of s are turned. -/
def trnA (s : Nat) (x : Lk) : Lk := if (s.testBit x.a.toNat || s.testBit x.b.toNat) = true then swp x else x
def turnedL (s : Nat) (l : List Lk) : List Lk := l.map (trnA s)
theorem turnedL_eq {s : Nat} (h : Snk l s) : turnedL s l = revL s l := by
  unfold turnedL revL
  apply List.map_congr_left
  intro x hx
  obtain ⟨k, hk, rfl⟩ := List.getElem_of_mem hx
  have := h k hk
  unfold la at this
  rw [lat_get l hk] at this
  unfold trnA trn
  rw [this, Bool.false_or]

/-! Many times. -/
def lksR (N : Nat) (l : List Lk) : Nat → List Lk
  | 0 => l
  | k + 1 => revL (lowN N (lksR N l k)) (lksR N l k)
def tmR (N : Nat) (l : List Lk) : Nat → Nat → Nat
  | 0, _ => 0
  | k + 1, i => tmR N l k i + if (lowN N (lksR N l k)).testBit i = true then 1 else 0
theorem lksR_succ (N : Nat) (l : List Lk) (k : Nat) : lksR N l (k + 1) = revL (lowN N (lksR N l k)) (lksR N l k) := rfl
theorem tmR_succ (N : Nat) (l : List Lk) (k i : Nat) : tmR N l (k + 1) i = tmR N l k i + if (lowN N (lksR N l k)).testBit i = true then 1 else 0 := rfl
theorem lksR_len (N : Nat) (l : List Lk) (k : Nat) : (lksR N l k).length = l.length := by
  induction k with
  | zero => rfl
  | succ k ih => rw [lksR_succ, revL_len, ih]
theorem lksR_FV (h : FV N l) (k : Nat) : FV N (lksR N l k) := by
  induction k with
  | zero => exact h
  | succ k ih => exact revL_FV _ ih
theorem lksR_fits (h : LFits l) (k : Nat) : LFits (lksR N l k) := by
  induction k with
  | zero => exact h
  | succ k ih => exact revL_fits _ ih
theorem lksR_cyc (h : FV N l) (k : Nat) : Cyc N (lksR N l k) ↔ Cyc N l := by
  induction k with
  | zero => exact Iff.rfl
  | succ k ih =>
    rw [← ih]
    exact rev_cyc (lksR_FV h k) (lowN_Snk (lksR_FV h k))
theorem lksR_add (N : Nat) (l : List Lk) (a b : Nat) : lksR N l (a + b) = lksR N (lksR N l a) b := by
  induction b with
  | zero => rfl
  | succ b ih => rw [← Nat.add_assoc, lksR_succ, lksR_succ, ih]
theorem tmR_add (N : Nat) (l : List Lk) (a b i : Nat) : tmR N l (a + b) i = tmR N l a i + tmR N (lksR N l a) b i := by
  induction b with
  | zero => rfl
  | succ b ih => rw [← Nat.add_assoc, tmR_succ, tmR_succ, ih, lksR_add]; omega
theorem tmR_le (N : Nat) (l : List Lk) (k i : Nat) : tmR N l k i ≤ k := by
  induction k with
  | zero => exact Nat.le_refl _
  | succ k ih => rw [tmR_succ]; split <;> omega
theorem tmR_up (N : Nat) (l : List Lk) (k i : Nat) : tmR N l k i ≤ tmR N l (k + 1) i := by rw [tmR_succ]; omega
theorem tmR_up2 (N : Nat) (l : List Lk) {a b : Nat} (h : a ≤ b) (i : Nat) : tmR N l a i ≤ tmR N l b i := by
  obtain ⟨c, rfl⟩ : ∃ c, b = a + c := ⟨b - a, by omega⟩
  rw [tmR_add]; omega
/-- A link as it was, and both ends as often; or turned, and the end to which it led once more. -/
theorem turns (h : FV N l) {k : Nat} (hk : k < l.length) (m : Nat) :
    (la (lksR N l m) k = la l k ∧ lb (lksR N l m) k = lb l k ∧ tmR N l m (la l k) = tmR N l m (lb l k)) ∨
    (la (lksR N l m) k = lb l k ∧ lb (lksR N l m) k = la l k ∧ tmR N l m (lb l k) = tmR N l m (la l k) + 1) := by
  induction m with
  | zero => exact .inl ⟨rfl, rfl, rfl⟩
  | succ m ih =>
    have hk' : k < (lksR N l m).length := by rw [lksR_len]; exact hk
    have hS := lowN_Snk (lksR_FV h m) k hk'
    rw [lksR_succ, tmR_succ, tmR_succ]
    cases e : (lowN N (lksR N l m)).testBit (lb (lksR N l m) k) with
    | true =>
      obtain ⟨h1, h2⟩ := revL_on hk' e
      rw [h1, h2]
      rcases ih with ⟨i1, i2, i3⟩ | ⟨i1, i2, i3⟩
      · rw [i1] at hS ⊢
        rw [i2] at e ⊢
        right
        rw [e, hS, i3]
        simp
      · rw [i1] at hS ⊢
        rw [i2] at e ⊢
        left
        rw [e, hS, i3]
        simp
    | false =>
      obtain ⟨h1, h2⟩ := revL_off hk' e
      rw [h1, h2]
      rcases ih with ⟨i1, i2, i3⟩ | ⟨i1, i2, i3⟩
      · rw [i1] at hS ⊢
        rw [i2] at e ⊢
        left
        rw [e, hS, i3]
        simp
      · rw [i1] at hS ⊢
        rw [i2] at e ⊢
        right
        rw [e, hS, i3]
        simp
/-- Who has been taken away has been turned. -/
theorem taken_turned (h : FV N l) (k i : Nat) (hi : i < N) (hr : (rst N l k).testBit i = false) : 1 ≤ tmR N l k i := by
  induction k generalizing i with
  | zero =>
    have := (all_bit N i).2 hi
    rw [show rst N l 0 = 2 ^ N - 1 from rfl, this] at hr; cases hr
  | succ k ih =>
    cases e : (rst N l k).testBit i with
    | false => have := ih i hi e; have := tmR_up N l k i; omega
    | true =>
      apply Classical.byContradiction
      intro hn
      have h0 : tmR N l k i = 0 := by have := tmR_up N l k i; omega
      have hno : ∀ j, Edg l i j → 1 ≤ tmR N l k j := fun j ej => by
        obtain ⟨m, hm, e1, e2⟩ := ej
        refine ih j (by have := (h.at_ hm).2.2.2.1; omega) ?_
        cases e3 : (rst N l k).testBit j with
        | false => rfl
        | true => rw [(rst_bit h.six h.ok k i).2 ⟨e, j, ⟨m, hm, e1, e2⟩, e3⟩] at hr; cases hr
      have hsink : (lowN N (lksR N l k)).testBit i = true := by
        rw [lowN_bit h.six (lksR_FV h k).ok]
        refine ⟨hi, fun m hm e1 => ?_⟩
        rw [lksR_len] at hm
        rcases turns h hm k with ⟨i1, i2, i3⟩ | ⟨i1, i2, i3⟩
        · have := hno (lb l m) ⟨m, hm, by omega, rfl⟩
          have e2 : la l m = i := by omega
          rw [e2] at i3
          omega
        · have e2 : lb l m = i := by omega
          rw [e2] at i3
          omega
      rw [tmR_succ, if_pos hsink] at hn
      omega
theorem all_turned (h : FV N l) (hc : ¬ Cyc N l) {m : Nat} (hm : N ≤ m) {i : Nat} (hi : i < N) : 1 ≤ tmR N l m i := by
  have h0 : rst N l N = 0 := by
    apply Classical.byContradiction
    intro hn
    exact hc ((rst_iff h).1 hn)
  have := taken_turned h N i hi (by rw [h0, Nat.zero_testBit])
  have := tmR_up2 N l hm i
  omega
end
#print axioms all_turned
#print axioms rev_cyc
end Go.Proofs.Ytieicimoolegoaa
