/-
  Rings: their code, a phase of the tournament, phases: plain.
-/
import Derived.Test.YtcmfpnghejapbaaVPure
namespace Go.Proofs.Ytcmfpnghejapbaa

/-- Numbers that a ring may have. -/
structure Rng (l : List Int) : Prop where
  len : 1 ≤ l.length ∧ l.length ≤ 12
  dis : l.Nodup
theorem Rng.inj {l : List Int} (h : Rng l) {i j : Nat} (hi : i < l.length) (hj : j < l.length) (e : vat l i = vat l j) : i = j := by
  rw [vat_get l hi, vat_get l hj] at e
  rcases Nat.lt_trichotomy i j with h1 | h1 | h1
  · exact absurd e (List.pairwise_iff_getElem.1 h.dis i j hi hj h1)
  · exact h1
  · exact absurd e.symm (List.pairwise_iff_getElem.1 h.dis j i hj hi h1)

/-- The code of a ring's numbers. -/
def rcode (l : List Int) : Int := if l.length < 1 ∨ 12 < l.length then 1 else if l.Nodup then 0 else 3
theorem rcode_ok (l : List Int) : rcode l = 0 ↔ Rng l := by
  unfold rcode
  by_cases h1 : l.length < 1 ∨ 12 < l.length
  · rw [if_pos h1]
    exact ⟨fun h => by omega, fun h => by have := h.len; omega⟩
  rw [if_neg h1]
  by_cases h2 : l.Nodup
  · rw [if_pos h2]
    exact ⟨fun _ => ⟨by omega, h2⟩, fun _ => rfl⟩
  · rw [if_neg h2]
    exact ⟨fun h => by omega, fun h => absurd h.dis h2⟩

/-- How many of the numbers below k. -/
def cnt (f : Nat → Bool) : Nat → Nat
  | 0 => 0
  | k + 1 => cnt f k + (if f k = true then 1 else 0)
theorem cnt_le (f : Nat → Bool) (k : Nat) : cnt f k ≤ k := by
  induction k with
  | zero => exact Nat.le_refl _
  | succ k ih => unfold cnt; split <;> omega
theorem cnt_congr {f g : Nat → Bool} {k : Nat} (h : ∀ i, i < k → f i = g i) : cnt f k = cnt g k := by
  induction k with
  | zero => rfl
  | succ k ih => unfold cnt; rw [ih (fun i hi => h i (by omega)), h k (by omega)]
theorem cnt_shift (f : Nat → Bool) (k : Nat) : cnt (fun i => f (i + 1)) k + (if f 0 = true then 1 else 0) = cnt f k + (if f k = true then 1 else 0) := by
  induction k with
  | zero => rfl
  | succ k ih =>
    unfold cnt
    omega
theorem cnt_rot1 (f : Nat → Bool) {n : Nat} : cnt (fun i => f ((i + 1) % n)) n = cnt f n := by
  have h2 : cnt (fun i => f ((i + 1) % n)) n + (if f (0 % n) = true then 1 else 0) = cnt (fun j => f (j % n)) n + (if f (n % n) = true then 1 else 0) := cnt_shift (fun j => f (j % n)) n
  have h3 : cnt (fun j => f (j % n)) n = cnt f n := cnt_congr fun i hi => by rw [Nat.mod_eq_of_lt hi]
  rw [Nat.zero_mod, Nat.mod_self, h3] at h2
  omega
/-- Counting around a ring, from wherever one begins. -/
theorem cnt_rot (f : Nat → Bool) {n : Nat} (c : Nat) : cnt (fun i => f ((i + c) % n)) n = cnt f n := by
  induction c with
  | zero => exact cnt_congr fun i hi => by rw [Nat.add_zero, Nat.mod_eq_of_lt hi]
  | succ c ih =>
    rw [← ih, ← cnt_rot1 (fun i => f ((i + c) % n)) (n := n)]
    exact cnt_congr fun i hi => by
      rw [Nat.mod_add_mod, show i + 1 + c = i + (c + 1) by omega]
theorem cnt_both {f g : Nat → Bool} {k : Nat} (h : ∀ i, i < k → ¬ (f i = true ∧ g i = true)) : cnt f k + cnt g k ≤ k := by
  induction k with
  | zero => exact Nat.le_refl _
  | succ k ih =>
    have h1 := ih (fun i hi => h i (by omega))
    have h2 := h k (by omega)
    unfold cnt
    by_cases e1 : f k = true
    · by_cases e2 : g k = true
      · exact absurd ⟨e1, e2⟩ h2
      · rw [if_pos e1, if_neg e2]; omega
    · rw [if_neg e1]; split <;> omega
theorem cnt_pos {f : Nat → Bool} {k : Nat} : 0 < cnt f k ↔ ∃ i, i < k ∧ f i = true := by
  induction k with
  | zero => simp [cnt]
  | succ k ih =>
    unfold cnt
    by_cases e : f k = true
    · rw [if_pos e]
      exact ⟨fun _ => ⟨k, by omega, e⟩, fun _ => by omega⟩
    · rw [if_neg e, Nat.add_zero, ih]
      constructor
      · rintro ⟨i, h1, h2⟩; exact ⟨i, by omega, h2⟩
      · rintro ⟨i, h1, h2⟩
        by_cases e' : i = k
        · rw [e'] at h2; exact absurd h2 e
        · exact ⟨i, by omega, h2⟩

/-- The place before another one. -/
def bef (n p : Nat) : Nat := (p + n - 1) % n
theorem bef_lt {n : Nat} (h : 0 < n) (p : Nat) : bef n p < n := Nat.mod_lt _ h
theorem bef_zero {n : Nat} (h : 0 < n) : bef n 0 = n - 1 := by
  unfold bef
  rw [Nat.zero_add, Nat.mod_eq_of_lt (by omega)]
theorem bef_pos {n p : Nat} (h : 0 < p) (hp : p < n) : bef n p = p - 1 := by
  unfold bef
  rw [show p + n - 1 = (p - 1) + n by omega, Nat.add_mod_right, Nat.mod_eq_of_lt (by omega)]
theorem bef_next {n p : Nat} (hp : p < n) : bef n ((p + 1) % n) = p := by
  by_cases h : p + 1 = n
  · rw [h, Nat.mod_self, bef_zero (by omega)]; omega
  · rw [Nat.mod_eq_of_lt (by omega), bef_pos (by omega) (by omega)]; omega
theorem next_bef {n p : Nat} (hp : p < n) : (bef n p + 1) % n = p := by
  by_cases h : p = 0
  · subst h
    rw [bef_zero hp, show n - 1 + 1 = n by omega, Nat.mod_self]
  · rw [bef_pos (by omega) hp, show p - 1 + 1 = p by omega, Nat.mod_eq_of_lt hp]
theorem bef_inj {n p q : Nat} (hp : p < n) (hq : q < n) (e : bef n p = bef n q) : p = q := by
  rw [← next_bef hp, ← next_bef hq, e]

/-- What moves to place p is kept. -/
def keepB (l : List Int) (p : Nat) : Bool := decide (vat l (bef l.length (bef l.length p)) < vat l (bef l.length p)) && decide (vat l p < vat l (bef l.length p))
/-- The numbers that move to the first k places. -/
def halfTo (l : List Int) : Nat → List Int
  | 0 => []
  | k + 1 => if keepB l k = true then halfTo l k ++ [vat l (bef l.length k)] else halfTo l k
def half (l : List Int) : List Int := if l.length = 1 then l else halfTo l l.length

theorem halfTo_len (l : List Int) (k : Nat) : (halfTo l k).length = cnt (keepB l) k := by
  induction k with
  | zero => rfl
  | succ k ih =>
    unfold halfTo cnt
    split
    · rw [List.length_append, ih]; rfl
    · exact ih
theorem halfTo_mem (l : List Int) (k : Nat) (x : Int) : x ∈ halfTo l k ↔ ∃ p, p < k ∧ keepB l p = true ∧ x = vat l (bef l.length p) := by
  induction k with
  | zero => simp [halfTo]
  | succ k ih =>
    unfold halfTo
    split
    · rename_i hk
      rw [List.mem_append, ih]
      constructor
      · rintro (⟨p, h1, h2, h3⟩ | h)
        · exact ⟨p, by omega, h2, h3⟩
        · exact ⟨k, by omega, hk, by simpa using h⟩
      · rintro ⟨p, h1, h2, h3⟩
        by_cases e : p = k
        · right; rw [h3, e]; simp
        · exact .inl ⟨p, by omega, h2, h3⟩
    · rename_i hk
      rw [ih]
      constructor
      · rintro ⟨p, h1, h2, h3⟩; exact ⟨p, by omega, h2, h3⟩
      · rintro ⟨p, h1, h2, h3⟩
        by_cases e : p = k
        · rw [e] at h2; exact absurd h2 hk
        · exact ⟨p, by omega, h2, h3⟩
theorem halfTo_nodup {l : List Int} (h : Rng l) {k : Nat} (hk : k ≤ l.length) : (halfTo l k).Nodup := by
  induction k with
  | zero => simp [halfTo]
  | succ k ih =>
    have h1 := ih (by omega)
    unfold halfTo
    split
    · rw [List.nodup_append]
      refine ⟨h1, by simp, fun a ha b hb => ?_⟩
      obtain ⟨p, h2, _, h3⟩ := (halfTo_mem l k a).1 ha
      have h4 : b = vat l (bef l.length k) := by simpa using hb
      intro e
      have hn : 0 < l.length := by omega
      have := bef_inj (by omega) (by omega) (h.inj (bef_lt hn p) (bef_lt hn k) (by rw [← h3, ← h4, e]))
      omega
    · exact h1

theorem keepB_iff (l : List Int) (p : Nat) : keepB l p = true ↔ vat l (bef l.length (bef l.length p)) < vat l (bef l.length p) ∧ vat l p < vat l (bef l.length p) := by
  unfold keepB
  rw [Bool.and_eq_true, decide_eq_true_eq, decide_eq_true_eq]
theorem half_few {l : List Int} (h : 1 < l.length) : 2 * (half l).length ≤ l.length := by
  unfold half
  rw [if_neg (by omega), halfTo_len]
  have h1 := cnt_rot1 (keepB l) (n := l.length)
  have h2 := cnt_both (f := keepB l) (g := fun i => keepB l ((i + 1) % l.length)) (k := l.length) (fun i hi => by
    rw [keepB_iff, keepB_iff, bef_next hi]
    omega)
  omega

/-- A greatest number's place. -/
theorem most_at (l : List Int) (h : 0 < l.length) : ∃ m, m < l.length ∧ ∀ i, i < l.length → vat l i ≤ vat l m := by
  suffices H : ∀ k, k < l.length → ∃ m, m < l.length ∧ ∀ i, i ≤ k → vat l i ≤ vat l m by
    obtain ⟨m, h1, h2⟩ := H (l.length - 1) (by omega)
    exact ⟨m, h1, fun i hi => h2 i (by omega)⟩
  intro k
  induction k with
  | zero => exact fun _ => ⟨0, h, fun i hi => by rw [Nat.le_zero.1 hi]; exact Int.le_refl _⟩
  | succ k ih =>
    intro hk
    obtain ⟨m, h1, h2⟩ := ih (by omega)
    by_cases e : vat l m ≤ vat l (k + 1)
    · refine ⟨k + 1, hk, fun i hi => ?_⟩
      by_cases e' : i = k + 1
      · rw [e']; exact Int.le_refl _
      · exact Int.le_trans (h2 i (by omega)) e
    · refine ⟨m, h1, fun i hi => ?_⟩
      by_cases e' : i = k + 1
      · rw [e']; omega
      · exact h2 i (by omega)
theorem half_most {l : List Int} (h : Rng l) {m : Nat} (hm : m < l.length) (hg : ∀ i, i < l.length → vat l i ≤ vat l m) : vat l m ∈ half l := by
  unfold half
  by_cases e : l.length = 1
  · rw [if_pos e, vat_get l hm]; exact List.getElem_mem hm
  rw [if_neg e, halfTo_mem]
  have hn : 0 < l.length := by omega
  have hlt : ∀ i, i < l.length → i ≠ m → vat l i < vat l m := fun i hi hne => by
    have h1 := hg i hi
    rcases Int.lt_or_eq_of_le h1 with h2 | h2
    · exact h2
    · exact absurd (h.inj hi hm h2) hne
  refine ⟨(m + 1) % l.length, Nat.mod_lt _ hn, ?_, by rw [bef_next hm]⟩
  rw [keepB_iff, bef_next hm]
  refine ⟨hlt _ (bef_lt hn m) ?_, hlt _ (Nat.mod_lt _ hn) ?_⟩
  · intro e'
    have h1 := next_bef hm
    rw [e'] at h1
    by_cases e2 : m + 1 = l.length
    · rw [e2, Nat.mod_self] at h1; omega
    · rw [Nat.mod_eq_of_lt (by omega)] at h1; omega
  · intro e'
    by_cases e2 : m + 1 = l.length
    · rw [e2, Nat.mod_self] at e'; omega
    · rw [Nat.mod_eq_of_lt (by omega)] at e'; omega
theorem half_mem {l : List Int} (h : Rng l) {x : Int} (hx : x ∈ half l) : x ∈ l := by
  unfold half at hx
  by_cases e : l.length = 1
  · rw [if_pos e] at hx; exact hx
  rw [if_neg e, halfTo_mem] at hx
  obtain ⟨p, _, _, rfl⟩ := hx
  have hn : 0 < l.length := by have := h.len; omega
  rw [vat_get l (bef_lt hn p)]
  exact List.getElem_mem _
theorem half_rng {l : List Int} (h : Rng l) : Rng (half l) := by
  have hn : 0 < l.length := by have := h.len; omega
  obtain ⟨m, h1, h2⟩ := most_at l hn
  have h3 := List.length_pos_of_mem (half_most h h1 h2)
  refine ⟨⟨h3, ?_⟩, ?_⟩
  · by_cases e : l.length = 1
    · unfold half; rw [if_pos e]; omega
    · have := half_few (l := l) (by omega)
      have := h.len
      omega
  · unfold half
    split
    · exact h.dis
    · exact halfTo_nodup h (Nat.le_refl _)

/-- k phases. -/
def phs (l : List Int) : Nat → List Int
  | 0 => l
  | k + 1 => half (phs l k)
theorem phs_rng {l : List Int} (h : Rng l) (k : Nat) : Rng (phs l k) := by
  induction k with
  | zero => exact h
  | succ k ih => exact half_rng ih
/-- After k phases, and no sooner, one is left. -/
def Phases (l : List Int) (k : Nat) : Prop := (phs l k).length ≤ 1 ∧ ∀ j, j < k → 1 < (phs l j).length
theorem Phases.uniq {l : List Int} {k k' : Nat} (h : Phases l k) (h' : Phases l k') : k = k' := by
  rcases Nat.lt_trichotomy k k' with h1 | h1 | h1
  · have := h'.2 k h1; have := h.1; omega
  · exact h1
  · have := h.2 k' h1; have := h'.1; omega
theorem phs_less {l : List Int} {k : Nat} (h : 1 < (phs l k).length) : (phs l (k + 1)).length < (phs l k).length := by
  have h1 := half_few h
  show (half (phs l k)).length < _
  omega
theorem phs_pow {l : List Int} {k : Nat} (h : ∀ j, j < k → 1 < (phs l j).length) : (phs l k).length ≤ l.length / 2 ^ k := by
  induction k with
  | zero => simp [phs]
  | succ k ih =>
    have h1 := ih (fun j hj => h j (by omega))
    have h2 := half_few (h k (by omega))
    have h3 : (phs l (k + 1)).length ≤ (phs l k).length / 2 := by
      show (half (phs l k)).length ≤ _
      omega
    rw [Nat.pow_succ, ← Nat.div_div_eq_div_mul]
    exact Nat.le_trans h3 (Nat.div_le_div_right h1)
theorem phases_soon {l : List Int} {k e : Nat} (h : Phases l k) (he : l.length / 2 ^ e ≤ 1) : k ≤ e := by
  rcases Nat.lt_or_ge e k with h1 | h1
  · have h2 := phs_pow (l := l) (k := e) (fun j hj => h.2 j (by omega))
    have h3 := h.2 e h1
    omega
  · exact h1
theorem phases_zero {l : List Int} {k : Nat} (hl : Rng l) (h : Phases l k) : k = 0 ↔ l.length = 1 := by
  have := hl.len
  constructor
  · rintro rfl
    have : l.length ≤ 1 := h.1
    omega
  · intro e
    rcases Nat.eq_zero_or_pos k with h1 | h1
    · exact h1
    · have : 1 < l.length := h.2 0 h1
      omega

#print axioms phases_zero
#print axioms half_rng
end Go.Proofs.Ytcmfpnghejapbaa
