/-
  Vectors: their code, which is less, the greater numbers: plain.
-/
import Derived.Test.YtcmfpnghejapbaaWords
namespace Go.Proofs.Ytcmfpnghejapbaa

/-- Number i of a vector. -/
def vat (a : List Int) (i : Nat) : Int := a.getD i 0
theorem vat_get (a : List Int) {i : Nat} (h : i < a.length) : vat a i = a[i] := by simp [vat, h]
/-- Some number of a vector is negative. -/
def negB (a : List Int) : Bool := a.any fun x => decide (x < 0)
theorem negB_iff (a : List Int) : negB a = true ↔ ∃ i, i < a.length ∧ vat a i < 0 := by
  unfold negB
  rw [List.any_eq_true]
  constructor
  · rintro ⟨x, hx, h⟩
    obtain ⟨i, hi, rfl⟩ := List.getElem_of_mem hx
    exact ⟨i, hi, by rw [vat_get a hi]; simpa using h⟩
  · rintro ⟨i, hi, h⟩
    rw [vat_get a hi] at h
    exact ⟨a[i], List.getElem_mem hi, by simpa using h⟩
theorem negB_no (a : List Int) : negB a = false ↔ ∀ i, i < a.length → 0 ≤ vat a i := by
  rw [← Bool.not_eq_true, negB_iff]
  constructor
  · intro h i hi
    rcases Int.lt_or_le (vat a i) 0 with h1 | h1
    · exact absurd ⟨i, hi, h1⟩ h
    · exact h1
  · rintro h ⟨i, hi, h1⟩
    have := h i hi
    omega

/-- The code of two vectors. -/
def vcode (a b : List Int) : Int := if a.length = 0 ∨ 6 < a.length then 1 else if b.length ≠ a.length then 3 else if negB a = true ∨ negB b = true then 4 else 0

structure VGood (a b : List Int) : Prop where
  len : 1 ≤ a.length ∧ a.length ≤ 6
  same : b.length = a.length
  one : ∀ i, i < a.length → 0 ≤ vat a i
  two : ∀ i, i < a.length → 0 ≤ vat b i
theorem vcode_ok (a b : List Int) : vcode a b = 0 ↔ VGood a b := by
  unfold vcode
  by_cases h1 : a.length = 0 ∨ 6 < a.length
  · rw [if_pos h1]
    constructor
    · intro h; omega
    · intro h; have := h.len; omega
  rw [if_neg h1]
  by_cases h2 : b.length ≠ a.length
  · rw [if_pos h2]
    constructor
    · intro h; omega
    · intro h; exact absurd h.same h2
  rw [if_neg h2]
  have h2 : b.length = a.length := by simpa using h2
  by_cases h3 : negB a = true ∨ negB b = true
  · rw [if_pos h3]
    constructor
    · intro h; omega
    · intro h
      rcases h3 with h3 | h3
      · rw [(negB_no a).2 h.one] at h3; cases h3
      · rw [(negB_no b).2 (fun i hi => h.two i (by omega))] at h3; cases h3
  · rw [if_neg h3]
    have h4 : negB a = false := by rw [← Bool.not_eq_true]; exact fun h => h3 (.inl h)
    have h5 : negB b = false := by rw [← Bool.not_eq_true]; exact fun h => h3 (.inr h)
    exact ⟨fun _ => ⟨by omega, h2, (negB_no a).1 h4, fun i hi => (negB_no b).1 h5 i (by omega)⟩, fun _ => rfl⟩

/-- a is less than b. -/
def LessV (a b : List Int) : Prop := (∀ i, i < a.length → vat a i ≤ vat b i) ∧ ∃ i, i < a.length ∧ vat a i < vat b i

/-- The greater numbers. -/
def vjoin (a b : List Int) : List Int := (List.range a.length).map fun i => max (vat a i) (vat b i)
theorem vjoin_len (a b : List Int) : (vjoin a b).length = a.length := by simp [vjoin]
theorem vjoin_at (a b : List Int) {i : Nat} (h : i < a.length) : vat (vjoin a b) i = max (vat a i) (vat b i) := by
  rw [vat_get _ (by rw [vjoin_len]; exact h)]
  simp [vjoin]
theorem vat_ext {a b : List Int} (h : a.length = b.length) (he : ∀ i, i < a.length → vat a i = vat b i) : a = b := by
  apply List.ext_getElem h
  intro i h1 h2
  have := he i h1
  rw [vat_get a h1, vat_get b h2] at this
  exact this

theorem VGood.swap {a b : List Int} (h : VGood a b) : VGood b a := ⟨by have := h.len; have := h.same; omega, h.same.symm, fun i hi => h.two i (by have := h.same; omega), fun i hi => h.one i (by have := h.same; omega)⟩
theorem VGood.self {a b : List Int} (h : VGood a b) : VGood a a := ⟨h.len, rfl, h.one, h.one⟩
theorem VGood.via {a b c : List Int} (h : VGood a b) (h' : VGood a c) : VGood b c :=
  ⟨by have := h.len; have := h.same; omega, by have := h.same; have := h'.same; omega, fun i hi => h.two i (by have := h.same; omega), fun i hi => h'.two i (by have := h.same; omega)⟩
theorem VGood.join {a b : List Int} (h : VGood a b) : VGood a (vjoin a b) :=
  ⟨h.len, vjoin_len a b, h.one, fun i hi => by rw [vjoin_at a b hi]; have := h.one i hi; omega⟩

theorem vjoin_comm {a b : List Int} (h : b.length = a.length) : vjoin a b = vjoin b a := by
  apply vat_ext (by rw [vjoin_len, vjoin_len, h])
  intro i hi
  rw [vjoin_len] at hi
  rw [vjoin_at a b hi, vjoin_at b a (by omega)]
  omega
theorem vjoin_assoc {a b c : List Int} (h : b.length = a.length) : vjoin (vjoin a b) c = vjoin a (vjoin b c) := by
  apply vat_ext (by rw [vjoin_len, vjoin_len, vjoin_len])
  intro i hi
  rw [vjoin_len, vjoin_len] at hi
  rw [vjoin_at _ c (by rw [vjoin_len]; exact hi), vjoin_at a b hi, vjoin_at a _ hi, vjoin_at b c (by omega)]
  omega
theorem vjoin_self (a : List Int) : vjoin a a = a := by
  apply vat_ext (vjoin_len a a)
  intro i hi
  rw [vjoin_len] at hi
  rw [vjoin_at a a hi]
  omega
theorem not_less_join (a b : List Int) : ¬ LessV (vjoin a b) a := by
  rintro ⟨_, i, hi, h⟩
  rw [vjoin_len] at hi
  rw [vjoin_at a b hi] at h
  omega

/-- Whether a is less than b, as a bool. -/
def lessB (a b : List Int) : Bool := (List.range a.length).all (fun i => decide (vat a i ≤ vat b i)) && (List.range a.length).any (fun i => decide (vat a i < vat b i))
theorem lessB_iff (a b : List Int) : lessB a b = true ↔ LessV a b := by
  unfold lessB LessV
  rw [Bool.and_eq_true, List.all_eq_true, List.any_eq_true]
  simp only [List.mem_range, decide_eq_true_eq]

#print axioms lessB_iff
end Go.Proofs.Ytcmfpnghejapbaa
