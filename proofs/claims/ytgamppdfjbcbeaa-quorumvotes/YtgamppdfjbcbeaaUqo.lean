/-
  Quorum systems: lists of words as lists of sets; coteries; undecided sets; what an improvement does.
-/
import Derived.Test.YtgamppdfjbcbeaaWme
namespace Go.Proofs.Ytgamppdfjbcbeaa
open Go.RowKit Go.Maps
set_option linter.unusedVariables false

/-- Does s include x? -/
def incB (s x : Nat) : Bool := (x ||| s) == s
theorem incB_iff (s x : Nat) : incB s x = true ↔ subW x s := by
  unfold incB
  rw [beq_iff_eq]
  constructor
  · intro h b hb
    have := subW_or_left x s b hb
    rw [h] at this
    exact this
  · intro h
    rw [Nat.or_comm]
    exact or_same h
theorem incB_le {s x : Nat} (h : incB s x = true) : x ≤ s := by
  unfold incB at h
  rw [beq_iff_eq] at h
  have := Nat.left_le_or (n := x) (m := s)
  omega
theorem incB_self (s : Nat) : incB s s = true := (incB_iff s s).2 (subW.refl s)
theorem mem_wat {l : List Nat} {x : Nat} : x ∈ l ↔ ∃ i, i < l.length ∧ wat l i = x := by
  rw [List.mem_iff_getElem]
  constructor
  · rintro ⟨i, hi, e⟩
    exact ⟨i, hi, by rw [wat_get l hi, e]⟩
  · rintro ⟨i, hi, e⟩
    exact ⟨i, hi, by rw [← wat_get l hi, e]⟩
theorem wat_mem {l : List Nat} {i : Nat} (h : i < l.length) : wat l i ∈ l := mem_wat.2 ⟨i, h, rfl⟩
/-- Does s include one of the sets? -/
def winB (l : List Nat) (s : Nat) : Bool := l.any fun x => incB s x
theorem winB_iff (l : List Nat) (s : Nat) : winB l s = true ↔ ∃ x, x ∈ l ∧ subW x s := by
  unfold winB
  rw [List.any_eq_true]
  constructor
  · rintro ⟨x, h1, h2⟩; exact ⟨x, h1, (incB_iff s x).1 h2⟩
  · rintro ⟨x, h1, h2⟩; exact ⟨x, h1, (incB_iff s x).2 h2⟩
theorem winB_at (l : List Nat) (s : Nat) : winB l s = true ↔ ∃ i, i < l.length ∧ incB s (wat l i) = true := by
  rw [winB_iff]
  constructor
  · rintro ⟨x, h1, h2⟩
    obtain ⟨i, hi, e⟩ := mem_wat.1 h1
    exact ⟨i, hi, by rw [e]; exact (incB_iff s x).2 h2⟩
  · rintro ⟨i, hi, e⟩
    exact ⟨wat l i, wat_mem hi, (incB_iff _ _).1 e⟩
theorem winB_mono {l : List Nat} {s t : Nat} (h : subW s t) (hw : winB l s = true) : winB l t = true := by
  rw [winB_iff] at hw ⊢
  obtain ⟨x, h1, h2⟩ := hw
  exact ⟨x, h1, h2.trans h⟩
theorem winB_nil (s : Nat) : winB [] s = false := rfl

/-- All others of N processes. -/
def comp (N s : Nat) : Nat := 2 ^ N - 1 - s
theorem comp_bit {N s : Nat} (hs : s < 2 ^ N) (b : Nat) : (comp N s).testBit b = (decide (b < N) && !s.testBit b) := by
  unfold comp
  rw [show 2 ^ N - 1 - s = 2 ^ N - (s + 1) by omega, Nat.testBit_two_pow_sub_succ hs]
theorem comp_lt (N s : Nat) : comp N s < 2 ^ N := by
  unfold comp
  have : 0 < 2 ^ N := Nat.pow_pos (by omega)
  omega
theorem comp_comp {N s : Nat} (hs : s < 2 ^ N) : comp N (comp N s) = s := by unfold comp; omega
theorem comp_val {N s : Nat} (hN : N ≤ 6) (hs : s < 2 ^ N) : (2 ^ N - 1) &&& (4294967295 - s) = comp N s := by
  have h64 := Nat.pow_le_pow_right (n := 2) (by omega) hN
  apply Nat.eq_of_testBit_eq
  intro b
  rw [comp_bit hs, Bool.eq_iff_iff, andNot_bit _ _ _ (by omega), Nat.testBit_two_pow_sub_one]
  simp
  omega
theorem sub_all {N x : Nat} (hx : x < 2 ^ N) : subW x (2 ^ N - 1) := fun b hb => by
  rw [Nat.testBit_two_pow_sub_one, decide_eq_true_iff]
  exact bit_lt hx hb
theorem all_inc {N x : Nat} : incB (2 ^ N - 1) x = decide (x < 2 ^ N) := by
  rw [Bool.eq_iff_iff, incB_iff, decide_eq_true_iff]
  constructor
  · intro h
    apply Nat.lt_pow_two_of_testBit
    intro i hi
    cases hb : x.testBit i with
    | false => rfl
    | true =>
      have := h i hb
      rw [Nat.testBit_two_pow_sub_one, decide_eq_true_iff] at this
      omega
  · exact sub_all

/-- Two sets that cannot both be in a coterie. -/
def clash (a b : Nat) : Bool := a &&& b == 0 || (incB a b || incB b a)
theorem clash_iff (a b : Nat) : clash a b = true ↔ a &&& b = 0 ∨ subW b a ∨ subW a b := by
  unfold clash
  rw [Bool.or_eq_true, Bool.or_eq_true, beq_iff_eq, incB_iff, incB_iff]
theorem clash_comm (a b : Nat) : clash a b = clash b a := by
  rw [Bool.eq_iff_iff, clash_iff, clash_iff, Nat.and_comm]
  constructor
  · rintro (h | h | h)
    · exact .inl h
    · exact .inr (.inr h)
    · exact .inr (.inl h)
  · rintro (h | h | h)
    · exact .inl h
    · exact .inr (.inr h)
    · exact .inr (.inl h)
/-- Is this a coterie? -/
def Cot (l : List Nat) : Prop := ∀ i j, i < l.length → j < l.length → i ≠ j → clash (wat l i) (wat l j) = false
theorem cot_half {l : List Nat} (h : ∀ i j, i < l.length → j < i → clash (wat l i) (wat l j) = false) : Cot l := by
  intro i j hi hj hij
  rcases Nat.lt_or_ge j i with h1 | h1
  · exact h i j hi h1
  · rw [clash_comm]; exact h j i hj (by omega)

/-- A word that is no set of N processes, or empty. -/
def badW (N x : Nat) : Bool := x == 0 || !decide (x < 2 ^ N)
def badIn (N : Nat) (l : List Nat) : Prop := ∃ i, i < l.length ∧ badW N (wat l i) = true
open Classical in
/-- The first of the common errors. -/
noncomputable def setsCode (n : Int) (l : List Nat) : Int := if n < 1 ∨ 6 < n ∨ 20 < l.length then 1 else if badIn n.toNat l then 4 else 0
/-- The same, with a set more. -/
noncomputable def setsCode3 (n : Int) (l : List Nat) (s : Nat) : Int := if setsCode n l = 0 then (if 2 ^ n.toNat ≤ s then 4 else 0) else setsCode n l
open Classical in
/-- The code of sets that must be a coterie. -/
noncomputable def cotCode (n : Int) (l : List Nat) : Int := if setsCode n l = 0 then (if Cot l then 0 else 3) else setsCode n l
/-- Sets that are well formed. -/
structure OkS (N : Nat) (l : List Nat) : Prop where
  one : 1 ≤ N
  six : N ≤ 6
  each : ∀ x, x ∈ l → 0 < x ∧ x < 2 ^ N
theorem OkS.at_ {N : Nat} {l : List Nat} (h : OkS N l) {i : Nat} (hi : i < l.length) : 0 < wat l i ∧ wat l i < 2 ^ N := h.each _ (wat_mem hi)
theorem setsCode_large {n : Int} {l : List Nat} (h : n < 1 ∨ 6 < n ∨ 20 < l.length) : setsCode n l = 1 := by unfold setsCode; rw [if_pos h]
theorem setsCode_range {n : Int} {l : List Nat} (h : ¬ (n < 1 ∨ 6 < n ∨ 20 < l.length)) (h2 : badIn n.toNat l) : setsCode n l = 4 := by unfold setsCode; rw [if_neg h, if_pos h2]
theorem setsCode_ok {n : Int} {l : List Nat} (h : ¬ (n < 1 ∨ 6 < n ∨ 20 < l.length)) (h2 : ¬ badIn n.toNat l) : setsCode n l = 0 := by unfold setsCode; rw [if_neg h, if_neg h2]
theorem badW_not {N x : Nat} (h : badW N x = false) : 0 < x ∧ x < 2 ^ N := by
  unfold badW at h
  rw [Bool.or_eq_false_iff] at h
  obtain ⟨h1, h2⟩ := h
  rw [beq_eq_false_iff_ne] at h1
  simp at h2
  omega
theorem badIn_not {N : Nat} {l : List Nat} (h1 : 1 ≤ N) (h6 : N ≤ 6) (h : ¬ badIn N l) : OkS N l := by
  refine ⟨h1, h6, fun x hx => ?_⟩
  obtain ⟨i, hi, e⟩ := mem_wat.1 hx
  cases hb : badW N x with
  | false => exact badW_not hb
  | true => exact absurd ⟨i, hi, by rw [e]; exact hb⟩ h
theorem not_badIn {N : Nat} {l : List Nat} (h : OkS N l) : ¬ badIn N l := by
  rintro ⟨i, hi, e⟩
  obtain ⟨h1, h2⟩ := h.at_ hi
  unfold badW at e
  rw [Bool.or_eq_true, beq_iff_eq] at e
  rcases e with e | e
  · omega
  · simp at e; omega
theorem setsCode_zero {n : Int} {l : List Nat} (h : setsCode n l = 0) : n = (n.toNat : Int) ∧ l.length ≤ 20 ∧ OkS n.toNat l := by
  by_cases h1 : n < 1 ∨ 6 < n ∨ 20 < l.length
  · rw [setsCode_large h1] at h; omega
  · by_cases h2 : badIn n.toNat l
    · rw [setsCode_range h1 h2] at h; omega
    · exact ⟨by omega, by omega, badIn_not (by omega) (by omega) h2⟩
theorem OkS.code {N : Nat} {l : List Nat} (h : OkS N l) (hl : l.length ≤ 20) : setsCode (N : Int) l = 0 := by
  have h1 := h.one
  have h6 := h.six
  exact setsCode_ok (by omega) (by rw [Int.toNat_natCast]; exact not_badIn h)
theorem setsCode_cases (n : Int) (l : List Nat) : setsCode n l = 0 ∨ setsCode n l = 1 ∨ setsCode n l = 4 := by
  unfold setsCode
  split
  · exact .inr (.inl rfl)
  · split
    · exact .inr (.inr rfl)
    · exact .inl rfl
theorem cotCode_zero {n : Int} {l : List Nat} (h : cotCode n l = 0) : setsCode n l = 0 ∧ Cot l := by
  unfold cotCode at h
  split at h
  · next h0 =>
    split at h
    · next h1 => exact ⟨h0, h1⟩
    · omega
  · next h0 => exact absurd h h0
theorem cotCode_form {n : Int} {l : List Nat} (h : setsCode n l = 0) (h2 : ¬ Cot l) : cotCode n l = 3 := by unfold cotCode; rw [if_pos h, if_neg h2]
theorem cotCode_ok {n : Int} {l : List Nat} (h : setsCode n l = 0) (h2 : Cot l) : cotCode n l = 0 := by unfold cotCode; rw [if_pos h, if_pos h2]
theorem cotCode_sets {n : Int} {l : List Nat} (h : setsCode n l ≠ 0) : cotCode n l = setsCode n l := by unfold cotCode; rw [if_neg h]
theorem setsCode3_zero {n : Int} {l : List Nat} {s : Nat} (h : setsCode3 n l s = 0) : setsCode n l = 0 ∧ s < 2 ^ n.toNat := by
  unfold setsCode3 at h
  split at h
  · next h0 =>
    split at h
    · omega
    · next h1 => exact ⟨h0, by omega⟩
  · next h0 => exact absurd h h0
theorem setsCode3_range {n : Int} {l : List Nat} {s : Nat} (h : setsCode n l = 0) (h2 : 2 ^ n.toNat ≤ s) : setsCode3 n l s = 4 := by unfold setsCode3; rw [if_pos h, if_pos h2]
theorem setsCode3_ok {n : Int} {l : List Nat} {s : Nat} (h : setsCode n l = 0) (h2 : s < 2 ^ n.toNat) : setsCode3 n l s = 0 := by unfold setsCode3; rw [if_pos h, if_neg (by omega)]
theorem setsCode3_sets {n : Int} {l : List Nat} {s : Nat} (h : setsCode n l ≠ 0) : setsCode3 n l s = setsCode n l := by unfold setsCode3; rw [if_neg h]
theorem setsCode3_nil (n : Int) (l : List Nat) : setsCode3 n l 0 = setsCode n l := by
  by_cases h : setsCode n l = 0
  · rw [setsCode3_ok h (Nat.pow_pos (by omega)), h]
  · exact setsCode3_sets h

/-- Neither s nor all others include one. -/
def undB (N : Nat) (l : List Nat) (s : Nat) : Bool := !winB l s && !winB l (comp N s)
/-- No set is undecided. -/
def FullP (N : Nat) (l : List Nat) : Prop := ∀ s, s < 2 ^ N → undB N l s = false
def UndRes (N : Nat) (l : List Nat) (u : Nat) : Prop := (u = 0 ∧ FullP N l) ∨ (0 < u ∧ u < 2 ^ N ∧ undB N l u = true)
theorem undB_iff (N : Nat) (l : List Nat) (s : Nat) : undB N l s = true ↔ winB l s = false ∧ winB l (comp N s) = false := by
  unfold undB
  rw [Bool.and_eq_true]
  simp
theorem full_some {N : Nat} {l : List Nat} (h : OkS N l) (hf : FullP N l) : 0 < l.length := by
  cases l with
  | nil =>
    have := hf 0 (Nat.pow_pos (by omega))
    unfold undB at this
    rw [winB_nil, winB_nil] at this
    cases this
  | cons x r => simp
/-- It is enough to try the sets from 1 on. -/
theorem full_from {N : Nat} {l : List Nat} (h : OkS N l) (hf : ∀ s, 1 ≤ s → s < 2 ^ N → undB N l s = false) : FullP N l := by
  intro s hs
  by_cases h0 : s = 0
  · subst h0
    cases hu : undB N l 0 with
    | false => rfl
    | true =>
      rw [undB_iff] at hu
      have hl : l = [] := by
        cases l with
        | nil => rfl
        | cons x r =>
          have hx := h.each x (by simp)
          have : winB (x :: r) (comp N 0) = true := (winB_iff _ _).2 ⟨x, by simp, by unfold comp; rw [Nat.sub_zero]; exact sub_all hx.2⟩
          rw [this] at hu
          cases hu.2
      subst hl
      have h2 : 1 < 2 ^ N := by
        have := Nat.pow_le_pow_right (n := 2) (by omega) h.one
        omega
      have := hf 1 (Nat.le_refl _) h2
      unfold undB at this
      rw [winB_nil, winB_nil] at this
      cases this
  · exact hf s (by omega) hs
theorem UndRes.full {N : Nat} {l : List Nat} {u : Nat} (h : UndRes N l u) : u = 0 ↔ FullP N l := by
  rcases h with ⟨h1, h2⟩ | ⟨h1, h2, h3⟩
  · exact ⟨fun _ => h2, fun _ => h1⟩
  · refine ⟨fun e => by omega, fun hf => ?_⟩
    rw [hf u h2] at h3
    cases h3
/-- It and all others don't win both. -/
theorem one_wins {N : Nat} {l : List Nat} (h : OkS N l) (hc : Cot l) {s : Nat} (hs : s < 2 ^ N) (h1 : winB l s = true) (h2 : winB l (comp N s) = true) : False := by
  rw [winB_at] at h1 h2
  obtain ⟨i, hi, e1⟩ := h1
  obtain ⟨j, hj, e2⟩ := h2
  rw [incB_iff] at e1 e2
  have hz : wat l i &&& wat l j = 0 := by
    apply Classical.byContradiction
    intro hn
    obtain ⟨b, hb1, hb2⟩ := (and_zero _ _).1 hn
    have k1 := e1 b hb1
    have k2 := e2 b hb2
    rw [comp_bit hs, k1] at k2
    simp at k2
  by_cases e : i = j
  · subst e
    rw [Nat.and_self] at hz
    have := (h.at_ hi).1
    omega
  · have := hc i j hi hj e
    rw [← Bool.not_eq_true, clash_iff] at this
    exact this (.inl hz)

/-- A coterie with an undecided set. -/
def addW (l : List Nat) (u : Nat) : List Nat := (l.filter fun x => !incB x u) ++ [u]
theorem addW_mem {l : List Nat} {u x : Nat} : x ∈ addW l u ↔ (x ∈ l ∧ ¬ subW u x) ∨ x = u := by
  unfold addW
  rw [List.mem_append, List.mem_filter, List.mem_singleton]
  have : (!incB x u) = true ↔ ¬ subW u x := by rw [← incB_iff]; simp
  rw [this]
theorem OkS.add {N : Nat} {l : List Nat} (h : OkS N l) {u : Nat} (h0 : 0 < u) (hu : u < 2 ^ N) : OkS N (addW l u) := by
  refine ⟨h.one, h.six, fun x hx => ?_⟩
  rcases addW_mem.1 hx with ⟨h1, _⟩ | rfl
  · exact h.each x h1
  · exact ⟨h0, hu⟩
theorem add_win {l : List Nat} {u s : Nat} (h : winB l s = true) : winB (addW l u) s = true := by
  rw [winB_iff] at h ⊢
  obtain ⟨x, h1, h2⟩ := h
  by_cases e : subW u x
  · exact ⟨u, addW_mem.2 (.inr rfl), e.trans h2⟩
  · exact ⟨x, addW_mem.2 (.inl ⟨h1, e⟩), h2⟩
theorem add_new (l : List Nat) (u : Nat) : winB (addW l u) u = true := (winB_iff _ _).2 ⟨u, addW_mem.2 (.inr rfl), subW.refl u⟩

/-- A coterie as pairs that stand one ahead of the other. -/
theorem cot_pair (l : List Nat) : Cot l ↔ l.Pairwise fun a b => clash a b = false := by
  rw [List.pairwise_iff_getElem]
  constructor
  · intro h i j hi hj hij
    have := h i j hi hj (by omega)
    rw [wat_get l hi, wat_get l hj] at this
    exact this
  · intro h
    refine cot_half fun i j hi hj => ?_
    have := h j i (by omega) hi hj
    rw [clash_comm, wat_get l hi, wat_get l (by omega)]
    exact this
theorem cot_add {N : Nat} {l : List Nat} (h : OkS N l) (hc : Cot l) {u : Nat} (hu : u < 2 ^ N) (hd : undB N l u = true) : Cot (addW l u) := by
  rw [undB_iff] at hd
  obtain ⟨d1, d2⟩ := hd
  rw [cot_pair] at hc ⊢
  unfold addW
  rw [List.pairwise_append]
  refine ⟨hc.sublist List.filter_sublist, List.pairwise_singleton _ _, fun a ha b hb => ?_⟩
  rw [List.mem_singleton] at hb
  subst hb
  rw [List.mem_filter] at ha
  obtain ⟨ha, hi⟩ := ha
  have hi' : ¬ subW b a := by rw [← incB_iff]; simpa using hi
  rw [← Bool.not_eq_true, clash_iff]
  rintro (e | e | e)
  · have : winB l (comp N b) = true := (winB_iff _ _).2 ⟨a, ha, fun q hq => by
      rw [comp_bit hu, Bool.and_eq_true, decide_eq_true_iff]
      refine ⟨bit_lt (h.each a ha).2 hq, ?_⟩
      cases hb : b.testBit q with
      | false => rfl
      | true => exact absurd e ((and_zero _ _).2 ⟨q, hq, hb⟩)⟩
    rw [this] at d2
    cases d2
  · exact hi' e
  · have : winB l b = true := (winB_iff _ _).2 ⟨a, ha, e⟩
    rw [this] at d1
    cases d1
theorem addW_len (l : List Nat) (u : Nat) : (addW l u).length ≤ l.length + 1 := by
  unfold addW
  rw [List.length_append]
  have := List.length_filter_le (fun x => !incB x u) l
  simp
  omega
/-- What an improvement gives. -/
def betL (l : List Nat) (u : Nat) : List Nat := if u = 0 then l else addW l u
theorem betL_zero (l : List Nat) : betL l 0 = l := if_pos rfl
theorem betL_add (l : List Nat) {u : Nat} (h : u ≠ 0) : betL l u = addW l u := if_neg h
theorem betL_ok {N : Nat} {l : List Nat} (h : OkS N l) {u : Nat} (hu : UndRes N l u) : OkS N (betL l u) := by
  rcases hu with ⟨rfl, _⟩ | ⟨h1, h2, h3⟩
  · rw [betL_zero]; exact h
  · rw [betL_add l (by omega)]; exact h.add h1 h2
theorem betL_cot {N : Nat} {l : List Nat} (h : OkS N l) (hc : Cot l) {u : Nat} (hu : UndRes N l u) : Cot (betL l u) := by
  rcases hu with ⟨rfl, _⟩ | ⟨h1, h2, h3⟩
  · rw [betL_zero]; exact hc
  · rw [betL_add l (by omega)]; exact cot_add h hc h2 h3

/-- How many of the first k sets win. -/
def wcnt (l : List Nat) : Nat → Nat
  | 0 => 0
  | k + 1 => wcnt l k + if winB l k = true then 1 else 0
theorem wcnt_le (l : List Nat) (k : Nat) : wcnt l k ≤ k := by
  induction k with
  | zero => exact Nat.le_refl _
  | succ k ih => rw [wcnt]; split <;> omega
theorem wcnt_mono {l r : List Nat} (h : ∀ s, winB l s = true → winB r s = true) (k : Nat) : wcnt l k ≤ wcnt r k := by
  induction k with
  | zero => exact Nat.le_refl _
  | succ k ih =>
    rw [wcnt, wcnt]
    by_cases e : winB l k = true
    · rw [if_pos e, if_pos (h k e)]; omega
    · rw [if_neg e]; split <;> omega
theorem wcnt_lt {l r : List Nat} (h : ∀ s, winB l s = true → winB r s = true) {u k : Nat} (hu : u < k) (h1 : winB r u = true) (h2 : winB l u = false) : wcnt l k < wcnt r k := by
  induction k with
  | zero => omega
  | succ k ih =>
    rw [wcnt, wcnt]
    by_cases e : u = k
    · subst e
      have := wcnt_mono h u
      rw [h1, h2]
      simp
      omega
    · have := ih (by omega)
      by_cases e : winB l k = true
      · rw [if_pos e, if_pos (h k e)]; omega
      · rw [if_neg e]; split <;> omega
/-- After k improvements: no set is undecided, or k sets win. -/
def BetOk (N k : Nat) (l : List Nat) : Prop := OkS N l ∧ Cot l ∧ (FullP N l ∨ k ≤ wcnt l (2 ^ N))
theorem BetOk.next {N k : Nat} {l : List Nat} (h : BetOk N k l) {u : Nat} (hu : UndRes N l u) : BetOk N (k + 1) (betL l u) := by
  obtain ⟨h1, h2, h3⟩ := h
  refine ⟨betL_ok h1 hu, betL_cot h1 h2 hu, ?_⟩
  rcases hu with ⟨rfl, hf⟩ | ⟨k1, k2, k3⟩
  · rw [betL_zero]; exact .inl hf
  · right
    rcases h3 with hf | h3
    · rw [hf u k2] at k3; cases k3
    · rw [betL_add l (by omega)]
      have := wcnt_lt (l := l) (r := addW l u) (fun s => add_win) k2 (add_new l u) ((undB_iff _ _ _).1 k3).1
      omega
theorem BetOk.done {N k : Nat} {l : List Nat} (h : BetOk N k l) (hk : 2 ^ N < k) : FullP N l := by
  rcases h.2.2 with h | h
  · exact h
  · have := wcnt_le l (2 ^ N)
    omega

#print axioms cot_add
#print axioms BetOk.next
#print axioms full_from
end Go.Proofs.Ytgamppdfjbcbeaa
