/-
  Edge chasing, probe by probe: what a send and a receipt leave; what comes of it in the end.
-/
import Derived.Test.YtgamppdfjbcbeaaWgr
namespace Go.Proofs.Ytgamppdfjbcbeaa
open Go.RowKit Go.Maps
set_option linter.unusedVariables false

/-- How many j waits for. -/
def degW (l : List Nat) (v : Nat) : Nat := bcnt (wat l v) l.length
theorem degW_le (l : List Nat) (v : Nat) : degW l v ≤ l.length := bcnt_le _ _
theorem bcnt_more (x : Nat) {n : Nat} (hx : x < 2 ^ n) (k : Nat) : bcnt x (n + k) = bcnt x n := by
  induction k with
  | zero => rfl
  | succ k ih =>
    rw [← Nat.add_assoc, bcnt, ih, Nat.testBit_lt_two_pow]
    · rfl
    · exact Nat.lt_of_lt_of_le hx (Nat.pow_le_pow_right (by omega) (by omega))
theorem degW_32 {l : List Nat} (hV : WV l) (v : Nat) : bcnt (wat l v) 32 = degW l v := by
  have := bcnt_more (wat l v) (hV.small v) (32 - l.length)
  have h6 := hV.six
  rw [show l.length + (32 - l.length) = 32 by omega] at this
  exact this
/-- How many all of a set wait for, one by one. -/
def sumD (l : List Nat) (R : Nat) : Nat → Nat
  | 0 => 0
  | k + 1 => sumD l R k + if R.testBit k = true then degW l k else 0
theorem sumD_le (l : List Nat) (R k : Nat) : sumD l R k ≤ k * l.length := by
  induction k with
  | zero => exact Nat.zero_le _
  | succ k ih =>
    rw [sumD, Nat.add_mul, Nat.one_mul]
    have := degW_le l k
    split <;> omega
theorem sumD_36 {l : List Nat} (hV : WV l) (R : Nat) : sumD l R l.length ≤ 36 := by
  have h1 := sumD_le l R l.length
  have h2 : l.length * l.length ≤ 6 * 6 := Nat.mul_le_mul hV.six hV.six
  omega
theorem sumD_add {l : List Nat} {R i k : Nat} (hi : i < k) (h : R.testBit i = false) : sumD l (R ||| 2 ^ i) k = sumD l R k + degW l i := by
  have low : ∀ m, m ≤ i → sumD l (R ||| 2 ^ i) m = sumD l R m := by
    intro m hm
    induction m with
    | zero => rfl
    | succ m ih =>
      rw [sumD, sumD, ih (by omega), Nat.testBit_or, Nat.testBit_two_pow]
      have : decide (i = m) = false := by simp; omega
      rw [this, Bool.or_false]
  induction k with
  | zero => omega
  | succ k ih =>
    rw [sumD, sumD]
    by_cases e : i = k
    · subst e
      rw [low i (Nat.le_refl _), h, (subW_or_right R (2 ^ i)) i ((pow_bit i i).2 rfl)]
      simp
    · rw [ih (by omega), Nat.testBit_or, Nat.testBit_two_pow]
      have : decide (i = k) = false := by simp; omega
      rw [this, Bool.or_false]
      omega
theorem sumD_one {l : List Nat} {R i k : Nat} (hi : i < k) (h : R.testBit i = true) : degW l i ≤ sumD l R k := by
  induction k with
  | zero => omega
  | succ k ih =>
    rw [sumD]
    by_cases e : i = k
    · subst e; rw [if_pos h]; omega
    · have := ih (by omega); omega

/-- A chase: who was reached, whether a probe came back, how many were sent. -/
structure Chs where
  R : Nat
  ret : Bool
  sent : Nat
/-- Is v known: reached, or, if it is the start, come back to? -/
def Chs.got (S : Chs) (st v : Nat) : Prop := (v ≠ st → S.R.testBit v = true) ∧ (v = st → S.ret = true)
/-- What sending to the first k, from one, leaves. -/
structure SentW (l : List Nat) (st fr k : Nat) (S S' : Chs) : Prop where
  up : subW S.R S'.R
  lt : S'.R < 2 ^ l.length
  ret : S.ret = true → S'.ret = true
  cnt : S'.sent + sumD l S.R l.length = S.sent + bcnt (wat l fr) k + sumD l S'.R l.length
  new : ∀ v, S'.R.testBit v = true → S.R.testBit v = false → v ≠ st ∧ Wtg l fr v
  back : S'.ret = true → S.ret = true ∨ Wtg l fr st
  own : ∀ v, v < k → Wt l fr v → S'.got st v
  clo : ∀ u, S'.R.testBit u = true → S.R.testBit u = false → ∀ v, Wt l u v → S'.got st v
/-- What a receipt leaves. -/
structure RecdW (l : List Nat) (st to : Nat) (S S' : Chs) : Prop where
  up : subW S.R S'.R
  lt : S'.R < 2 ^ l.length
  ret : S.ret = true → S'.ret = true
  cnt : S'.sent + sumD l S.R l.length = S.sent + sumD l S'.R l.length
  new : ∀ v, S'.R.testBit v = true → S.R.testBit v = false → v ≠ st ∧ Wto l to v
  back : S'.ret = true → S.ret = true ∨ Wto l to st
  own : S'.got st to
  clo : ∀ u, S'.R.testBit u = true → S.R.testBit u = false → ∀ v, Wt l u v → S'.got st v
section
variable {l : List Nat} {st fr to k : Nat} {S S' S'' : Chs}
theorem Chs.got.up {v : Nat} (h : S.got st v) (hu : subW S.R S'.R) (hr : S.ret = true → S'.ret = true) : S'.got st v :=
  ⟨fun e => hu v (h.1 e), fun e => hr (h.2 e)⟩
theorem SentW.start (hS : S.R < 2 ^ l.length) : SentW l st fr 0 S S :=
  ⟨subW.refl _, hS, fun h => h, rfl, fun v h1 h2 => (by rw [h1] at h2; cases h2), fun h => .inl h, fun v h => (by omega), fun u h1 h2 => (by rw [h1] at h2; cases h2)⟩
theorem SentW.skip (h : SentW l st fr k S S') (e : (wat l fr).testBit k = false) : SentW l st fr (k + 1) S S' :=
  ⟨h.up, h.lt, h.ret, by rw [bcnt, e]; exact h.cnt, h.new, h.back, fun v hv hw => by
    by_cases ev : v = k
    · subst ev; unfold Wt at hw; rw [hw] at e; cases e
    · exact h.own v (by omega) hw, h.clo⟩
theorem SentW.take (h : SentW l st fr k S S') (e : Wt l fr k) (hr : RecdW l st k ⟨S'.R, S'.ret, S'.sent + 1⟩ S'') : SentW l st fr (k + 1) S S'' := by
  refine ⟨h.up.trans hr.up, hr.lt, fun x => hr.ret (h.ret x), ?_, fun v h1 h2 => ?_, fun x => ?_, fun v hv hw => ?_, fun u h1 h2 v hw => ?_⟩
  · have h1 := h.cnt
    have h2 := hr.cnt
    have e' : bcnt (wat l fr) (k + 1) = bcnt (wat l fr) k + 1 := by unfold Wt at e; rw [bcnt, if_pos e]
    simp only at h2
    omega
  · cases hb : S'.R.testBit v with
    | true => exact h.new v hb h2
    | false =>
      obtain ⟨a, b⟩ := hr.new v h1 hb
      exact ⟨a, ⟨k, e, b⟩⟩
  · rcases hr.back x with y | y
    · exact h.back y
    · exact .inr ⟨k, e, y⟩
  · by_cases ev : v = k
    · subst ev; exact hr.own
    · exact (h.own v (by omega) hw).up hr.up hr.ret
  · cases hb : S'.R.testBit u with
    | true => exact (h.clo u hb h2 v hw).up hr.up hr.ret
    | false => exact hr.clo u h1 hb v hw
theorem RecdW.home (hS : S.R < 2 ^ l.length) : RecdW l st st S ⟨S.R, true, S.sent⟩ :=
  ⟨subW.refl _, hS, fun _ => rfl, rfl, fun v h1 h2 => (by rw [h1] at h2; cases h2), fun _ => .inr (.refl _), ⟨fun h => absurd rfl h, fun _ => rfl⟩, fun u h1 h2 => (by rw [h1] at h2; cases h2)⟩
theorem RecdW.old (hS : S.R < 2 ^ l.length) (h1 : to ≠ st) (h2 : S.R.testBit to = true) : RecdW l st to S S :=
  ⟨subW.refl _, hS, fun h => h, rfl, fun v h1 h2 => (by rw [h1] at h2; cases h2), fun h => .inl h, ⟨fun _ => h2, fun h => absurd h h1⟩, fun u h1 h2 => (by rw [h1] at h2; cases h2)⟩
theorem RecdW.young (hto : to < l.length) (h1 : to ≠ st) (h2 : S.R.testBit to = false) (h : SentW l st to l.length ⟨S.R ||| 2 ^ to, S.ret, S.sent⟩ S'') (hV : WV l) : RecdW l st to S S'' := by
  have hu : subW S.R S''.R := (subW_or_left _ _).trans h.up
  have hown : S''.R.testBit to = true := h.up to (subW_or_right _ _ to ((pow_bit to to).2 rfl))
  have hold : ∀ v, v ≠ to → S.R.testBit v = false → (S.R ||| 2 ^ to).testBit v = false := fun v hv h0 => by
    rw [Nat.testBit_or, h0, Bool.false_or, ← Bool.not_eq_true, pow_bit]
    exact hv
  refine ⟨hu, h.lt, h.ret, ?_, fun v h3 h4 => ?_, fun h3 => ?_, ⟨fun _ => hown, fun e => absurd e h1⟩, fun u h3 h4 v hw => ?_⟩
  · have h3 := h.cnt
    have h4 := sumD_add (l := l) hto h2
    have : bcnt (wat l to) l.length = degW l to := rfl
    simp only at h3
    omega
  · by_cases e : v = to
    · subst e; exact ⟨h1, .refl _⟩
    · obtain ⟨a, b⟩ := h.new v h3 (hold v e h4)
      exact ⟨a, b.to⟩
  · rcases h.back h3 with x | x
    · exact .inl x
    · exact .inr x.to
  · by_cases e : u = to
    · subst e; exact h.own v (hV.to hw) hw
    · exact h.clo u h3 (hold u e h4) v hw
/-- What comes of a chase. -/
def backC (l : List Nat) (i : Nat) : Bool := (reach l i).testBit i
def sentC (l : List Nat) (i : Nat) : Nat := sumD l (reach l i ||| 2 ^ i) l.length
theorem chased (hV : WV l) {i : Nat} (hi : i < l.length) (h : SentW l i i l.length ⟨0, false, 0⟩ S) : S.ret = backC l i ∧ S.sent = sentC l i := by
  have hz : ∀ v, (0 : Nat).testBit v = false := fun v => Nat.zero_testBit v
  have hclo : ∀ u v, (u = i ∨ S.R.testBit u = true) → Wt l u v → S.got i v := by
    intro u v hu hw
    rcases hu with rfl | hu
    · exact h.own v (hV.to hw) hw
    · exact h.clo u hu (hz u) v hw
  have hall : ∀ v, Wtg l i v → S.got i v := by
    rintro v ⟨m, e, hm⟩
    have hgm := hclo i m (.inl rfl) e
    clear e
    induction hm using Wto.ind with
    | refl => exact hgm
    | @step a b c e _ ih =>
      refine ih (hclo _ _ ?_ e)
      by_cases hmi : a = i
      · exact .inl hmi
      · exact .inr (hgm.1 hmi)
  have hR : ∀ v, S.R.testBit v = true ↔ v ≠ i ∧ Wtg l i v := fun v => ⟨fun hv => h.new v hv (hz v), fun hv => (hall v hv.2).1 hv.1⟩
  constructor
  · unfold backC
    rw [Bool.eq_iff_iff, reach_iff hV]
    constructor
    · intro hr
      rcases h.back hr with x | x
      · cases x
      · exact x
    · intro hr; exact (hall i hr).2 rfl
  · have hi0 : S.R.testBit i = false := by
      rw [← Bool.not_eq_true, hR]
      intro hh; exact hh.1 rfl
    have e1 : S.R ||| 2 ^ i = reach l i ||| 2 ^ i := by
      apply Nat.eq_of_testBit_eq
      intro v
      rw [Bool.eq_iff_iff, Nat.testBit_or, Nat.testBit_or, Bool.or_eq_true, Bool.or_eq_true, hR, reach_iff hV, pow_bit]
      constructor
      · rintro (h | h)
        · exact .inl h.2
        · exact .inr h
      · rintro (h | h)
        · by_cases e : v = i
          · exact .inr e
          · exact .inl ⟨e, h⟩
        · exact .inr h
    have h1 := h.cnt
    have h2 := sumD_add (l := l) hi hi0
    have hz2 : sumD l 0 l.length = 0 := by
      have : ∀ k, sumD l 0 k = 0 := by
        intro k
        induction k with
        | zero => rfl
        | succ k ih => rw [sumD, ih, hz]; rfl
      exact this _
    have : bcnt (wat l i) l.length = degW l i := rfl
    unfold sentC
    rw [← e1]
    simp only at h1
    omega
theorem backC_iff (hV : WV l) (i : Nat) : backC l i = true ↔ Wtg l i i := reach_iff hV i i
theorem sentC_le (l : List Nat) (i : Nat) : sentC l i ≤ l.length * l.length := sumD_le l _ _
theorem sentC_ge {i : Nat} (hi : i < l.length) : degW l i ≤ sentC l i := sumD_one hi (subW_or_right _ _ i ((pow_bit i i).2 rfl))
end
#print axioms chased
end Go.Proofs.Ytgamppdfjbcbeaa
