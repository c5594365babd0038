/-
  Votes: how many a set has; the least sets that have enough, found from below; Gifford's voting.
-/
import Derived.Test.YtgamppdfjbcbeaaUqo
import Derived.Test.YtgamppdfjbcbeaaWords
namespace Go.Proofs.Ytgamppdfjbcbeaa
open Go.RowKit Go.Maps
set_option linter.unusedVariables false

theorem fits_of {l : List Nat} {K : Nat} (hK : K ≤ 4294967295) (h : ∀ x, x ∈ l → x < K) : WFits l := by
  intro i
  rcases Nat.lt_or_ge i l.length with hi | hi
  · have := h _ (wat_mem hi)
    omega
  · rw [wat_out _ hi]; decide
/-- Number i of the votes. -/
def vat (v : List Int) (i : Nat) : Int := v.getD i 0
theorem vat_get (v : List Int) {i : Nat} (h : i < v.length) : vat v i = v[i] := by
  unfold vat
  rw [List.getD_eq_getElem?_getD, List.getElem?_eq_getElem h]
  rfl
theorem Nums.vote {w : World} {B : Nat} {A : Option Addr} {v : List Int} (h : Nums w B A v) {i : Nat} (hi : i < v.length) : ∃ b off, A = some ⟨b, off, none⟩ ∧ b < B ∧ w.cell? ⟨b, off + i, none⟩ = some (.int .i64 (vat v i)) := by
  obtain ⟨b, off, e, hb, hc⟩ := h (by omega)
  exact ⟨b, off, e, hb, by rw [hc i hi, vat_get v hi]⟩
/-- The votes of those of a set among the first k. -/
def sumV (v : List Int) (s : Nat) : Nat → Int
  | 0 => 0
  | k + 1 => sumV v s k + if s.testBit k = true then vat v k else 0
def totV (v : List Int) (s : Nat) : Int := sumV v s v.length
def allV (v : List Int) : Nat → Int
  | 0 => 0
  | k + 1 => allV v k + vat v k
/-- Numbers of votes as they may be. -/
def VOk (v : List Int) : Prop := ∀ i, i < v.length → 0 ≤ vat v i ∧ vat v i ≤ 100
def badV (x : Int) : Bool := decide (x < 0) || decide (100 < x)
theorem badV_iff (x : Int) : badV x = true ↔ x < 0 ∨ 100 < x := by
  unfold badV
  rw [Bool.or_eq_true, decide_eq_true_iff, decide_eq_true_iff]
def badVs (v : List Int) : Prop := ∃ i, i < v.length ∧ badV (vat v i) = true
theorem badVs_not {v : List Int} (h : ¬ badVs v) : VOk v := fun i hi => by
  cases hb : badV (vat v i) with
  | true => exact absurd ⟨i, hi, hb⟩ h
  | false =>
    rw [← Bool.not_eq_true, badV_iff] at hb
    omega
theorem not_badVs {v : List Int} (h : VOk v) : ¬ badVs v := by
  rintro ⟨i, hi, e⟩
  rw [badV_iff] at e
  have := h i hi
  omega
section
variable {v : List Int}
theorem sumV_range (h : VOk v) (s : Nat) {k : Nat} (hk : k ≤ v.length) : 0 ≤ sumV v s k ∧ sumV v s k ≤ 100 * (k : Int) := by
  induction k with
  | zero => exact ⟨Int.le_refl _, Int.le_refl _⟩
  | succ k ih =>
    have := h k (by omega)
    have := ih (by omega)
    rw [sumV]
    split <;> omega
theorem allV_range (h : VOk v) {k : Nat} (hk : k ≤ v.length) : 0 ≤ allV v k ∧ allV v k ≤ 100 * (k : Int) := by
  induction k with
  | zero => exact ⟨Int.le_refl _, Int.le_refl _⟩
  | succ k ih =>
    have := h k (by omega)
    have := ih (by omega)
    rw [allV]
    omega
theorem sumV_mono (h : VOk v) {s t : Nat} (hst : subW s t) {k : Nat} (hk : k ≤ v.length) : sumV v s k ≤ sumV v t k := by
  induction k with
  | zero => exact Int.le_refl _
  | succ k ih =>
    have h1 := h k (by omega)
    have h2 := ih (by omega)
    rw [sumV, sumV]
    by_cases e : s.testBit k = true
    · rw [if_pos e, if_pos (hst k e)]; omega
    · rw [if_neg e]; split <;> omega
theorem sumV_apart (h : VOk v) {s t : Nat} (hst : s &&& t = 0) {k : Nat} (hk : k ≤ v.length) : sumV v s k + sumV v t k ≤ allV v k := by
  induction k with
  | zero => exact Int.le_refl _
  | succ k ih =>
    have h1 := h k (by omega)
    have h2 := ih (by omega)
    rw [sumV, sumV, allV]
    by_cases e : s.testBit k = true
    · by_cases e2 : t.testBit k = true
      · exact absurd hst (by rw [← ne_eq]; exact (and_zero _ _).2 ⟨k, e, e2⟩)
      · rw [if_pos e, if_neg e2]; omega
    · rw [if_neg e]; split <;> omega
theorem sumV_comp {N s : Nat} (hs : s < 2 ^ N) {k : Nat} (hk : k ≤ N) : sumV v s k + sumV v (comp N s) k = allV v k := by
  induction k with
  | zero => rfl
  | succ k ih =>
    have h2 := ih (by omega)
    have hb := comp_bit hs k
    rw [sumV, sumV, allV, hb]
    have hd : decide (k < N) = true := decide_eq_true (by omega)
    rw [hd]
    cases e : s.testBit k <;> simp <;> omega
theorem sumV_zero (v : List Int) (k : Nat) : sumV v 0 k = 0 := by
  induction k with
  | zero => rfl
  | succ k ih => rw [sumV, ih]; simp
end

/-- Is it one of the least sets with the property? -/
def lstB (f : Nat → Bool) (s : Nat) : Bool := f s && !((List.range s).any fun y => f y && incB s y)
theorem lstB_iff (f : Nat → Bool) (s : Nat) : lstB f s = true ↔ f s = true ∧ ∀ y, y < s → f y = true → ¬ subW y s := by
  unfold lstB
  rw [Bool.and_eq_true, Bool.not_eq_true', List.any_eq_false]
  constructor
  · rintro ⟨h1, h2⟩
    refine ⟨h1, fun y hy hf hs => ?_⟩
    have := h2 y (List.mem_range.2 hy)
    rw [Bool.and_eq_true] at this
    exact this ⟨hf, (incB_iff _ _).2 hs⟩
  · rintro ⟨h1, h2⟩
    refine ⟨h1, fun y hy => ?_⟩
    rw [Bool.and_eq_true]
    rintro ⟨h3, h4⟩
    exact h2 y (List.mem_range.1 hy) h3 ((incB_iff _ _).1 h4)
/-- The least sets below k. -/
def minL (f : Nat → Bool) (k : Nat) : List Nat := (List.range k).filter (lstB f)
theorem minL_mem {f : Nat → Bool} {k x : Nat} : x ∈ minL f k ↔ x < k ∧ lstB f x = true := by
  unfold minL
  rw [List.mem_filter, List.mem_range]
theorem minL_zero (f : Nat → Bool) : minL f 0 = [] := rfl
/-- Below each set with the property is a least one. -/
theorem least_of (f : Nat → Bool) : ∀ y, f y = true → ∃ x, x ≤ y ∧ subW x y ∧ lstB f x = true := by
  intro y
  induction y using Nat.strongRecOn with
  | ind y ih =>
    intro hf
    cases e : lstB f y with
    | true => exact ⟨y, Nat.le_refl _, subW.refl y, e⟩
    | false =>
      have h1 : ¬ (∀ z, z < y → f z = true → ¬ subW z y) := fun h => by
        rw [(lstB_iff f y).2 ⟨hf, h⟩] at e
        cases e
      have h2 : ∃ z, z < y ∧ f z = true ∧ subW z y := Classical.byContradiction fun hn => h1 fun z hz hfz hs => hn ⟨z, hz, hfz, hs⟩
      obtain ⟨z, hz, hfz, hs⟩ := h2
      obtain ⟨x, h3, h4, h5⟩ := ih z hz hfz
      exact ⟨x, by omega, h4.trans hs, h5⟩
theorem lst_step (f : Nat → Bool) (k : Nat) : lstB f k = (f k && !winB (minL f k) k) := by
  rw [Bool.eq_iff_iff, lstB_iff, Bool.and_eq_true, Bool.not_eq_true', ← Bool.not_eq_true, winB_iff]
  constructor
  · rintro ⟨h1, h2⟩
    refine ⟨h1, ?_⟩
    rintro ⟨x, h3, h4⟩
    obtain ⟨h5, h6⟩ := minL_mem.1 h3
    exact h2 x h5 ((lstB_iff _ _).1 h6).1 h4
  · rintro ⟨h1, h2⟩
    refine ⟨h1, fun y hy hf hs => ?_⟩
    obtain ⟨x, h3, h4, h5⟩ := least_of f y hf
    exact h2 ⟨x, minL_mem.2 ⟨by omega, h5⟩, h4.trans hs⟩
theorem minL_push {f : Nat → Bool} {k : Nat} (h1 : f k = true) (h2 : winB (minL f k) k = false) : minL f (k + 1) = minL f k ++ [k] := by
  have e : lstB f k = true := by rw [lst_step, h1, h2]; rfl
  unfold minL
  rw [List.range_succ, List.filter_append]
  simp [e]
theorem minL_same {f : Nat → Bool} {k : Nat} (h : f k = false ∨ winB (minL f k) k = true) : minL f (k + 1) = minL f k := by
  have e : lstB f k = false := by
    rw [lst_step]
    rcases h with h | h
    · rw [h]; rfl
    · rw [h]; simp
  unfold minL
  rw [List.range_succ, List.filter_append]
  simp [e]
theorem minL_len (f : Nat → Bool) (k : Nat) : (minL f k).length ≤ k := by
  have := List.length_filter_le (lstB f) (List.range k)
  rw [List.length_range] at this
  exact this
theorem minL_win {f : Nat → Bool} {k s : Nat} (hm : ∀ x y, f x = true → subW x y → f y = true) (hs : s < k) : winB (minL f k) s = f s := by
  rw [Bool.eq_iff_iff, winB_iff]
  constructor
  · rintro ⟨x, h1, h2⟩
    exact hm x s ((lstB_iff _ _).1 (minL_mem.1 h1).2).1 h2
  · intro hf
    obtain ⟨x, h3, h4, h5⟩ := least_of f s hf
    exact ⟨x, minL_mem.2 ⟨by omega, h5⟩, h4⟩
/-- The document's own way: all with the property, of these those that include no other one. -/
def allF (f : Nat → Bool) (k : Nat) : List Nat := (List.range k).filter f
def noneIn (l : List Nat) (s : Nat) : Bool := l.all fun x => x == s || !incB s x
theorem allF_mem {f : Nat → Bool} {k x : Nat} : x ∈ allF f k ↔ x < k ∧ f x = true := by
  unfold allF
  rw [List.mem_filter, List.mem_range]
theorem allF_push {f : Nat → Bool} {k : Nat} (h : f k = true) : allF f (k + 1) = allF f k ++ [k] := by
  unfold allF
  rw [List.range_succ, List.filter_append]
  simp [h]
theorem allF_same {f : Nat → Bool} {k : Nat} (h : f k = false) : allF f (k + 1) = allF f k := by
  unfold allF
  rw [List.range_succ, List.filter_append]
  simp [h]
theorem allF_len (f : Nat → Bool) (k : Nat) : (allF f k).length ≤ k := by
  have := List.length_filter_le f (List.range k)
  rw [List.length_range] at this
  exact this
theorem allF_none (f : Nat → Bool) (k : Nat) : (allF f k).filter (noneIn (allF f k)) = minL f k := by
  unfold minL
  rw [show allF f k = (List.range k).filter f from rfl, List.filter_filter]
  apply List.filter_congr
  intro s hs
  rw [List.mem_range] at hs
  rw [Bool.eq_iff_iff, Bool.and_eq_true, lstB_iff]
  have hn : noneIn ((List.range k).filter f) s = true ↔ ∀ x, x < k → f x = true → x = s ∨ ¬ subW x s := by
    unfold noneIn
    rw [List.all_eq_true]
    constructor
    · intro h x hx hf
      have := h x (List.mem_filter.2 ⟨List.mem_range.2 hx, hf⟩)
      rw [Bool.or_eq_true, beq_iff_eq, Bool.not_eq_true', ← Bool.not_eq_true, incB_iff] at this
      exact this
    · intro h x hx
      rw [List.mem_filter, List.mem_range] at hx
      rw [Bool.or_eq_true, beq_iff_eq, Bool.not_eq_true', ← Bool.not_eq_true, incB_iff]
      exact h x hx.1 hx.2
  rw [hn]
  constructor
  · rintro ⟨h1, h2⟩
    refine ⟨h2, fun y hy hf hsub => ?_⟩
    rcases h1 y (by omega) hf with h | h
    · omega
    · exact h hsub
  · rintro ⟨h1, h2⟩
    refine ⟨fun x hx hf => ?_, h1⟩
    by_cases e : x = s
    · exact .inl e
    · refine .inr fun hsub => ?_
      have := incB_le ((incB_iff _ _).2 hsub)
      exact h2 x (by omega) hf hsub

/-- Has a set enough votes? -/
def enoB (v : List Int) (m : Int) (s : Nat) : Bool := decide (m ≤ totV v s)
theorem enoB_iff (v : List Int) (m : Int) (s : Nat) : enoB v m s = true ↔ m ≤ totV v s := by
  unfold enoB
  rw [decide_eq_true_iff]
theorem enoB_mono {v : List Int} (h : VOk v) (m : Int) (x y : Nat) (hx : enoB v m x = true) (hs : subW x y) : enoB v m y = true := by
  rw [enoB_iff] at hx ⊢
  have := sumV_mono h hs (Nat.le_refl v.length)
  unfold totV at hx ⊢
  omega
/-- The sets that the votes give. -/
def votL (v : List Int) (m : Int) : List Nat := minL (enoB v m) (2 ^ v.length)
open Classical in
/-- The first of the errors before the sets are looked for. -/
noncomputable def vCode (v : List Int) (m : Int) : Int := if v.length < 1 ∨ 6 < v.length then 1 else if badVs v ∨ m < 1 then 4 else 0
/-- The code of all. -/
noncomputable def votCode (v : List Int) (m : Int) : Int := if vCode v m = 0 then (if (votL v m).length = 0 then 5 else 0) else vCode v m
theorem vCode_large {v : List Int} {m : Int} (h : v.length < 1 ∨ 6 < v.length) : vCode v m = 1 := by unfold vCode; rw [if_pos h]
theorem vCode_range {v : List Int} {m : Int} (h : ¬ (v.length < 1 ∨ 6 < v.length)) (h2 : badVs v ∨ m < 1) : vCode v m = 4 := by unfold vCode; rw [if_neg h, if_pos h2]
theorem vCode_ok {v : List Int} {m : Int} (h : ¬ (v.length < 1 ∨ 6 < v.length)) (h2 : ¬ (badVs v ∨ m < 1)) : vCode v m = 0 := by unfold vCode; rw [if_neg h, if_neg h2]
/-- Votes that are asked as they may be. -/
structure Vot (v : List Int) (m : Int) : Prop where
  one : 1 ≤ v.length
  six : v.length ≤ 6
  ok : VOk v
  most : 1 ≤ m
theorem vCode_zero {v : List Int} {m : Int} (h : vCode v m = 0) : Vot v m := by
  by_cases h1 : v.length < 1 ∨ 6 < v.length
  · rw [vCode_large h1] at h; omega
  · by_cases h2 : badVs v ∨ m < 1
    · rw [vCode_range h1 h2] at h; omega
    · exact ⟨by omega, by omega, badVs_not fun hb => h2 (.inl hb), by
        by_cases h : m < 1
        · exact absurd (.inr h) h2
        · omega⟩
theorem votCode_zero {v : List Int} {m : Int} (h : votCode v m = 0) : vCode v m = 0 ∧ 0 < (votL v m).length := by
  unfold votCode at h
  split at h
  · next h0 =>
    split at h
    · omega
    · next h1 => exact ⟨h0, by omega⟩
  · next h0 => exact absurd h h0
theorem votCode_none {v : List Int} {m : Int} (h : vCode v m = 0) (h2 : (votL v m).length = 0) : votCode v m = 5 := by unfold votCode; rw [if_pos h, if_pos h2]
theorem votCode_ok {v : List Int} {m : Int} (h : vCode v m = 0) (h2 : (votL v m).length ≠ 0) : votCode v m = 0 := by unfold votCode; rw [if_pos h, if_neg h2]
theorem votCode_first {v : List Int} {m : Int} (h : vCode v m ≠ 0) : votCode v m = vCode v m := by unfold votCode; rw [if_neg h]
section
variable {v : List Int} {m : Int}
theorem votL_len (h : Vot v m) : (votL v m).length ≤ 64 := by
  have h1 := minL_len (enoB v m) (2 ^ v.length)
  have h2 := Nat.pow_le_pow_right (n := 2) (by omega) h.six
  unfold votL
  omega
theorem votL_ok (h : Vot v m) : OkS v.length (votL v m) := by
  refine ⟨h.one, h.six, fun x hx => ?_⟩
  obtain ⟨h1, h2⟩ := minL_mem.1 hx
  refine ⟨?_, h1⟩
  rcases Nat.eq_zero_or_pos x with rfl | h3
  · have h4 := ((lstB_iff _ _).1 h2).1
    rw [enoB_iff] at h4
    unfold totV at h4
    rw [sumV_zero] at h4
    have := h.most
    omega
  · exact h3
theorem votL_win (h : Vot v m) {s : Nat} (hs : s < 2 ^ v.length) : winB (votL v m) s = enoB v m s := minL_win (enoB_mono h.ok m) hs
theorem votL_cot (h : Vot v m) (h2 : allV v v.length < 2 * m) : Cot (votL v m) := by
  have hnd : (votL v m).Pairwise fun a b => a < b := List.pairwise_lt_range.sublist List.filter_sublist
  rw [List.pairwise_iff_getElem] at hnd
  refine cot_half fun i j hi hj => ?_
  have hab := hnd j i (by omega) hi hj
  rw [← wat_get _ hi, ← wat_get _ (show j < (votL v m).length by omega)] at hab
  obtain ⟨a1, a2⟩ := minL_mem.1 (wat_mem (l := votL v m) (i := j) (by omega))
  obtain ⟨b1, b2⟩ := minL_mem.1 (wat_mem (l := votL v m) hi)
  rw [clash_comm]
  generalize wat (votL v m) j = a at *
  generalize wat (votL v m) i = b at *
  rw [lstB_iff] at a2 b2
  rw [← Bool.not_eq_true, clash_iff]
  rintro (e | e | e)
  · have h3 := sumV_apart h.ok e (Nat.le_refl v.length)
    have h4 := a2.1
    have h5 := b2.1
    rw [enoB_iff] at h4 h5
    unfold totV at h4 h5
    omega
  · have := incB_le ((incB_iff _ _).2 e)
    omega
  · exact b2.2 a hab a2.1 e
theorem votL_full (h : Vot v m) (h2 : 2 * m = allV v v.length + 1) : FullP v.length (votL v m) := by
  intro s hs
  cases hu : undB v.length (votL v m) s with
  | false => rfl
  | true =>
    rw [undB_iff, votL_win h hs, votL_win h (comp_lt _ _), ← Bool.not_eq_true, ← Bool.not_eq_true, enoB_iff, enoB_iff] at hu
    have := sumV_comp (v := v) hs (Nat.le_refl v.length)
    unfold totV at hu
    omega
end
#print axioms allF_none
#print axioms votL_cot
#print axioms votL_full
end Go.Proofs.Ytgamppdfjbcbeaa
