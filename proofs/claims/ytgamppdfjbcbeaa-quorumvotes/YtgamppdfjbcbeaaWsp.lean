/-
  Words as sets: a word that grows by steps until no step adds anything.
-/
import Derived.Test.YtgamppdfjbcbeaaBtw
namespace Go.Proofs.Ytgamppdfjbcbeaa
open Go.RowKit Go.Maps
set_option linter.unusedVariables false

/-- Every bit of s is one of t. -/
def subW (s t : Nat) : Prop := ∀ b, s.testBit b = true → t.testBit b = true
theorem subW.refl (s : Nat) : subW s s := fun _ h => h
theorem subW.trans {s t u : Nat} (h : subW s t) (k : subW t u) : subW s u := fun b hb => k b (h b hb)
theorem subW_or_left (s t : Nat) : subW s (s ||| t) := fun b hb => by rw [Nat.testBit_or, hb]; rfl
theorem subW_or_right (s t : Nat) : subW t (s ||| t) := fun b hb => by rw [Nat.testBit_or, hb, Bool.or_true]
theorem subW_zero (s : Nat) : subW 0 s := fun b hb => by rw [Nat.zero_testBit] at hb; cases hb
theorem subW_or {s t u : Nat} (h : subW s u) (k : subW t u) : subW (s ||| t) u := fun b hb => by
  rw [Nat.testBit_or, Bool.or_eq_true] at hb
  rcases hb with hb | hb
  · exact h b hb
  · exact k b hb
theorem or_same {s t : Nat} (h : subW t s) : s ||| t = s := by
  apply Nat.eq_of_testBit_eq
  intro b
  rw [Nat.testBit_or]
  cases hs : s.testBit b with
  | true => rfl
  | false =>
    cases ht : t.testBit b with
    | false => rfl
    | true => rw [h b ht] at hs; cases hs
theorem bit_lt {s n b : Nat} (h : s < 2 ^ n) (hb : s.testBit b = true) : b < n := by
  rcases Nat.lt_or_ge b n with h1 | h1
  · exact h1
  · have : 2 ^ n ≤ 2 ^ b := Nat.pow_le_pow_right (by omega) h1
    rw [Nat.testBit_lt_two_pow (by omega)] at hb
    cases hb
theorem pow_bit (i b : Nat) : (2 ^ i).testBit b = true ↔ b = i := by
  rw [Nat.testBit_two_pow, decide_eq_true_iff]
  omega
theorem subW_pow {s i : Nat} (h : s.testBit i = true) : subW (2 ^ i) s := fun b hb => by rw [(pow_bit i b).1 hb]; exact h
theorem not_subW {s t : Nat} (h : ¬ subW t s) : ∃ b, t.testBit b = true ∧ s.testBit b = false := by
  apply Classical.byContradiction
  intro hn
  apply h
  intro b hb
  cases e : s.testBit b with
  | true => rfl
  | false => exact absurd ⟨b, hb, e⟩ hn
/-- What is in x and not in s. -/
theorem andNot_bit (x s b : Nat) (hs : s < 4294967296) : (x &&& (4294967295 - s)).testBit b = true ↔ (b < 32 ∧ x.testBit b = true ∧ s.testBit b = false) := by
  have e : 4294967295 - s = 2 ^ 32 - (s + 1) := by omega
  rw [e, Nat.testBit_and, Nat.testBit_two_pow_sub_succ (by omega)]
  cases x.testBit b <;> cases s.testBit b <;> simp
theorem andNot_zero (x s : Nat) (hx : x < 4294967296) (hs : s < 4294967296) : x &&& (4294967295 - s) = 0 ↔ subW x s := by
  constructor
  · intro h b hb
    cases e : s.testBit b with
    | true => rfl
    | false =>
      have := (andNot_bit x s b hs).2 ⟨bit_lt (n := 32) (by omega) hb, hb, e⟩
      rw [h, Nat.zero_testBit] at this
      cases this
  · intro h
    apply Nat.eq_of_testBit_eq
    intro b
    rw [Nat.zero_testBit, ← Bool.not_eq_true, andNot_bit x s b hs]
    intro ⟨_, h1, h2⟩
    rw [h b h1] at h2
    cases h2
theorem and_zero (x s : Nat) : x &&& s ≠ 0 ↔ ∃ b, x.testBit b = true ∧ s.testBit b = true := by
  constructor
  · intro h
    obtain ⟨b, hb⟩ := Nat.exists_testBit_of_ne_zero h
    rw [Nat.testBit_and, Bool.and_eq_true] at hb
    exact ⟨b, hb⟩
  · intro ⟨b, h1, h2⟩ e
    have : (x &&& s).testBit b = true := by rw [Nat.testBit_and, h1, h2]; rfl
    rw [e, Nat.zero_testBit] at this
    cases this

theorem bcnt_mono {s t : Nat} (h : subW s t) (k : Nat) : bcnt s k ≤ bcnt t k := by
  induction k with
  | zero => exact Nat.le_refl _
  | succ k ih =>
    rw [bcnt, bcnt]
    by_cases e : s.testBit k = true
    · rw [if_pos e, if_pos (h k e)]; omega
    · rw [if_neg e]; split <;> omega
theorem bcnt_lt {s t : Nat} (h : subW s t) {b k : Nat} (hb : b < k) (ht : t.testBit b = true) (hs : s.testBit b = false) : bcnt s k < bcnt t k := by
  induction k with
  | zero => omega
  | succ k ih =>
    rw [bcnt, bcnt]
    by_cases e : b = k
    · subst e
      rw [ht, hs]
      have := bcnt_mono h b
      simp
      omega
    · have := ih (by omega)
      by_cases e : s.testBit k = true
      · rw [if_pos e, if_pos (h k e)]; omega
      · rw [if_neg e]; split <;> omega
theorem bcnt_full {x k : Nat} (h : k ≤ bcnt x k) (i : Nat) (hi : i < k) : x.testBit i = true := by
  induction k with
  | zero => omega
  | succ k ih =>
    rw [bcnt] at h
    have := bcnt_le x k
    by_cases e : x.testBit k = true
    · rw [if_pos e] at h
      by_cases ei : i = k
      · rw [ei]; exact e
      · exact ih (by omega) (by omega)
    · rw [if_neg e] at h; omega
theorem bcnt_add {x i k : Nat} (hi : i < k) (h : x.testBit i = false) : bcnt (x ||| 2 ^ i) k = bcnt x k + 1 := by
  induction k with
  | zero => omega
  | succ k ih =>
    rw [bcnt, bcnt]
    by_cases e : i = k
    · subst e
      have : bcnt (x ||| 2 ^ i) i = bcnt x i := by
        clear ih hi h
        have : ∀ m, m ≤ i → bcnt (x ||| 2 ^ i) m = bcnt x m := by
          intro m hm
          induction m with
          | zero => rfl
          | succ m ih =>
            rw [bcnt, bcnt, ih (by omega), Nat.testBit_or, Nat.testBit_two_pow]
            have : decide (i = m) = false := by simp; omega
            rw [this, Bool.or_false]
        exact this i (Nat.le_refl _)
      rw [this, h, (subW_or_right x (2 ^ i)) i ((pow_bit i i).2 rfl)]
      simp
    · rw [ih (by omega), Nat.testBit_or, Nat.testBit_two_pow]
      have : decide (i = k) = false := by simp; omega
      rw [this, Bool.or_false]
      omega

/-- A step: if j may, what j brings is added. -/
def gst (p : Nat → Nat → Bool) (a : Nat → Nat) (j s : Nat) : Nat := if p j s = true then s ||| a j else s
/-- The first b steps of a round. -/
def rnd (p : Nat → Nat → Bool) (a : Nat → Nat) : Nat → Nat → Nat
  | 0, s => s
  | b + 1, s => gst p a b (rnd p a b s)
/-- k rounds of n steps. -/
def rnds (p : Nat → Nat → Bool) (a : Nat → Nat) (n : Nat) : Nat → Nat → Nat
  | 0, s => s
  | k + 1, s => rnd p a n (rnds p a n k s)
section
variable {p : Nat → Nat → Bool} {a : Nat → Nat} {n : Nat}
theorem gst_up (j s : Nat) : subW s (gst p a j s) := by
  unfold gst
  split
  · exact subW_or_left _ _
  · exact subW.refl _
theorem rnd_up (b s : Nat) : subW s (rnd p a b s) := by
  induction b with
  | zero => exact subW.refl _
  | succ b ih => exact ih.trans (gst_up _ _)
theorem rnd_up2 {b c : Nat} (h : b ≤ c) (s : Nat) : subW (rnd p a b s) (rnd p a c s) := by
  induction c with
  | zero =>
    obtain rfl : b = 0 := by omega
    exact subW.refl _
  | succ c ih =>
    by_cases e : b = c + 1
    · subst e; exact subW.refl _
    · exact (ih (by omega)).trans (gst_up _ _)
theorem rnds_up (k s : Nat) : subW s (rnds p a n k s) := by
  induction k with
  | zero => exact subW.refl _
  | succ k ih => exact ih.trans (rnd_up _ _)
theorem rnd_ind {T : Nat → Prop} (hT : ∀ j s, j < n → T s → p j s = true → T (s ||| a j)) {b : Nat} (hb : b ≤ n) {s : Nat} (h : T s) : T (rnd p a b s) := by
  induction b with
  | zero => exact h
  | succ b ih =>
    have := ih (by omega)
    unfold rnd gst
    split
    · next e => exact hT b _ (by omega) this e
    · exact this
theorem rnds_ind {T : Nat → Prop} (hT : ∀ j s, j < n → T s → p j s = true → T (s ||| a j)) {s : Nat} (h : T s) (k : Nat) : T (rnds p a n k s) := by
  induction k with
  | zero => exact h
  | succ k ih => exact rnd_ind hT (Nat.le_refl _) ih
theorem rnd_lt (ha : ∀ j, j < n → a j < 2 ^ n) {b : Nat} (hb : b ≤ n) {s : Nat} (h : s < 2 ^ n) : rnd p a b s < 2 ^ n :=
  rnd_ind (T := fun s => s < 2 ^ n) (fun j s hj hs _ => Nat.or_lt_two_pow hs (ha j hj)) hb h
theorem rnds_lt (ha : ∀ j, j < n → a j < 2 ^ n) {s : Nat} (h : s < 2 ^ n) (k : Nat) : rnds p a n k s < 2 ^ n :=
  rnds_ind (T := fun s => s < 2 ^ n) (fun j s hj hs _ => Nat.or_lt_two_pow hs (ha j hj)) h k
theorem rnd_still {s : Nat} (h : ∀ j, j < n → gst p a j s = s) {b : Nat} (hb : b ≤ n) : rnd p a b s = s := by
  induction b with
  | zero => rfl
  | succ b ih => rw [rnd, ih (by omega), h b (by omega)]
/-- Who may still may when there is more. -/
def MonoP (p : Nat → Nat → Bool) : Prop := ∀ j s t, subW s t → p j s = true → p j t = true
theorem rnd_grows (hp : MonoP p) {s j : Nat} (hj : j < n) (h : gst p a j s ≠ s) : ∃ b, (a j).testBit b = true ∧ (rnd p a n s).testBit b = true ∧ s.testBit b = false := by
  unfold gst at h
  by_cases e : p j s = true
  · rw [if_pos e] at h
    obtain ⟨b, h1, h2⟩ := not_subW fun hs => h (or_same hs)
    refine ⟨b, h1, ?_, h2⟩
    refine rnd_up2 (show j + 1 ≤ n by omega) s b ?_
    rw [rnd, gst, if_pos (hp j _ _ (rnd_up j s) e)]
    exact subW_or_right _ _ b h1
  · rw [if_neg e] at h; exact absurd rfl h
/-- After n rounds no step adds anything. -/
theorem rnds_closed (hp : MonoP p) (ha : ∀ j, j < n → a j < 2 ^ n) {s : Nat} (hs : s < 2 ^ n) (j : Nat) (hj : j < n) : gst p a j (rnds p a n n s) = rnds p a n n s := by
  have key : ∀ k, (∀ j, j < n → gst p a j (rnds p a n k s) = rnds p a n k s) ∨ k ≤ bcnt (rnds p a n k s) n := by
    intro k
    induction k with
    | zero => exact .inr (Nat.zero_le _)
    | succ k ih =>
      by_cases hc : ∀ j, j < n → gst p a j (rnds p a n k s) = rnds p a n k s
      · left
        rw [rnds, rnd_still hc (Nat.le_refl _)]
        exact hc
      · right
        rcases ih with ih | ih
        · exact absurd ih hc
        · have : ∃ j, j < n ∧ gst p a j (rnds p a n k s) ≠ rnds p a n k s := by
            apply Classical.byContradiction
            intro hn
            exact hc fun j hj => Classical.byContradiction fun e => hn ⟨j, hj, e⟩
          obtain ⟨j, hj, hne⟩ := this
          obtain ⟨b, h1, h2, h3⟩ := rnd_grows hp hj hne
          have := bcnt_lt (rnd_up n (rnds p a n k s)) (bit_lt (ha j hj) h1) h2 h3
          rw [rnds]
          omega
  rcases key n with h | h
  · exact h j hj
  · unfold gst
    split
    · apply or_same
      intro b hb
      exact bcnt_full h b (bit_lt (ha j hj) hb)
    · rfl
end

/-- Is there one below k? -/
def anyB (g : Nat → Bool) : Nat → Bool
  | 0 => false
  | k + 1 => anyB g k || g k
theorem anyB_iff (g : Nat → Bool) (k : Nat) : anyB g k = true ↔ ∃ j, j < k ∧ g j = true := by
  induction k with
  | zero => exact ⟨fun h => (by cases h), fun ⟨_, h, _⟩ => (by omega)⟩
  | succ k ih =>
    rw [anyB, Bool.or_eq_true, ih]
    constructor
    · rintro (⟨j, h1, h2⟩ | h)
      · exact ⟨j, by omega, h2⟩
      · exact ⟨k, by omega, h⟩
    · intro ⟨j, h1, h2⟩
      by_cases e : j = k
      · subst e; exact .inr h2
      · exact .inl ⟨j, by omega, h2⟩

#print axioms rnds_closed
#print axioms anyB_iff
end Go.Proofs.Ytgamppdfjbcbeaa
