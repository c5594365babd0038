/-
  Cuts: how many events of each process; which events they contain; when they are whole; by vectors: plain.
-/
import Derived.Test.YtpofmhlmaejmoaaVec
namespace Go.Proofs.Ytpofmhlmaejmoaa

/-- How many events of process p there are below k. -/
def own (l : List Ev) (p : Int) (k : Nat) : Nat := pcnt l (fun _ => true) p k
theorem own_zero (l : List Ev) (p : Int) : own l p 0 = 0 := rfl
theorem own_succ (l : List Ev) (p : Int) (k : Nat) : own l p (k + 1) = own l p k + if (ev l k).p = p then 1 else 0 := by
  unfold own
  rw [pcnt]
  simp
theorem own_le (l : List Ev) (p : Int) (k : Nat) : own l p k ≤ k := pcnt_le _ _ _ _
theorem own_mono (l : List Ev) (p : Int) {a b : Nat} (h : a ≤ b) : own l p a ≤ own l p b := by
  induction b with
  | zero => have : a = 0 := by omega
            rw [this]; exact Nat.le_refl _
  | succ b ih =>
    by_cases e : a = b + 1
    · rw [e]; exact Nat.le_refl _
    · have := ih (by omega)
      rw [own_succ]
      omega
theorem own_lt (l : List Ev) {p : Int} {a b : Nat} (h : a < b) (hp : (ev l a).p = p) : own l p a < own l p b := by
  have h1 := own_mono l p (show a + 1 ≤ b from h)
  rw [own_succ, if_pos hp] at h1
  omega

/-- The events of process p below k, in their order. -/
def hist (l : List Ev) (p : Int) : Nat → List Nat
  | 0 => []
  | k + 1 => if (ev l k).p = p then hist l p k ++ [k] else hist l p k
theorem hist_len (l : List Ev) (p : Int) (k : Nat) : (hist l p k).length = own l p k := by
  induction k with
  | zero => rfl
  | succ k ih =>
    rw [own_succ]
    unfold hist
    split
    · simp [ih]
    · simp [ih]
theorem hist_at (l : List Ev) (p : Int) (k : Nat) : ∀ r, (h : r < (hist l p k).length) → (hist l p k)[r] < k ∧ (ev l (hist l p k)[r]).p = p ∧ own l p (hist l p k)[r] = r := by
  induction k with
  | zero => intro r h; simp [hist] at h
  | succ k ih =>
    intro r h
    by_cases hp : (ev l k).p = p
    · have e : hist l p (k + 1) = hist l p k ++ [k] := by rw [hist, if_pos hp]
      simp only [e] at h ⊢
      by_cases hr : r < (hist l p k).length
      · rw [List.getElem_append_left hr]
        obtain ⟨h1, h2, h3⟩ := ih r hr
        exact ⟨by omega, h2, h3⟩
      · have hr2 : r = (hist l p k).length := by simp at h; omega
        subst hr2
        simp only [List.getElem_concat_length]
        exact ⟨by omega, hp, by rw [hist_len]⟩
    · have e : hist l p (k + 1) = hist l p k := by rw [hist, if_neg hp]
      simp only [e] at h ⊢
      obtain ⟨h1, h2, h3⟩ := ih r h
      exact ⟨by omega, h2, h3⟩

/-- Event i is in the cut with the numbers F. -/
def inC (l : List Ev) (F : Nat → Int) (i : Nat) : Bool := decide ((own l (ev l i).p i : Int) < F (ev l i).p.toNat)
theorem inC_iff (l : List Ev) (F : Nat → Int) (i : Nat) : inC l F i = true ↔ (own l (ev l i).p i : Int) < F (ev l i).p.toNat := by unfold inC; exact decide_eq_true_iff
/-- With each event all events that happen before it. -/
def WholeC (l : List Ev) (F : Nat → Int) : Prop := ∀ i j, i < l.length → j < l.length → inC l F j = true → HB l i j → inC l F i = true
/-- The numbers are those of a cut. -/
def Ranged (l : List Ev) (c : Nat) (F : Nat → Int) : Prop := ∀ p : Nat, p < c → 0 ≤ F p ∧ F p ≤ (own l (p : Int) l.length : Int)

theorem vec_own {l : List Ev} (hs : Sole l) {i : Nat} (hi : i < l.length) : vec l i (ev l i).p = own l (ev l i).p i + 1 := by
  rw [vec_upto hs hi, pcnt, if_pos ⟨knows_self l i, rfl⟩]
  unfold own
  rw [pcnt_congr (S' := fun _ => true) fun x hx hp => by
    constructor
    · intro _; rfl
    · intro _; exact knows_proc hs hx hi hp]
theorem vec_own_le (l : List Ev) (i : Nat) (p : Int) : vec l i p ≤ own l p l.length := pcnt_mono fun _ _ _ _ => rfl

theorem Good.procN {c : Nat} {l : List Ev} (g : Good (c : Int) l) {i : Nat} (hi : i < l.length) : ∃ p : Nat, p < c ∧ (ev l i).p = (p : Int) := by
  obtain ⟨h1, h2⟩ := g.proc i hi
  exact ⟨(ev l i).p.toNat, by omega, by omega⟩

theorem inC_at {l : List Ev} {F : Nat → Int} {i p : Nat} (hp : (ev l i).p = (p : Int)) : inC l F i = true ↔ (own l (p : Int) i : Int) < F p := by
  rw [inC_iff, hp]; simp
theorem inC_vec {l : List Ev} (hs : Sole l) {F : Nat → Int} {i p : Nat} (hi : i < l.length) (hp : (ev l i).p = (p : Int)) : inC l F i = true ↔ (vec l i (p : Int) : Int) ≤ F p := by
  rw [inC_at hp, ← hp, vec_own hs hi]
  omega

/-- How many events of a process a cut contains. -/
theorem pcnt_inC (l : List Ev) {F : Nat → Int} {p : Nat} (h0 : 0 ≤ F p) (k : Nat) : (pcnt l (inC l F) (p : Int) k : Int) = min (own l (p : Int) k : Int) (F p) := by
  induction k with
  | zero => simp [pcnt, own_zero]; omega
  | succ k ih =>
    rw [pcnt, own_succ]
    by_cases hp : (ev l k).p = (p : Int)
    · have h1 := inC_at (l := l) (F := F) hp
      by_cases hc : inC l F k = true
      · have h2 := h1.1 hc
        rw [if_pos ⟨hc, hp⟩, if_pos hp]
        omega
      · have h2 : ¬ (own l (p : Int) k : Int) < F p := fun h => hc (h1.2 h)
        rw [if_neg (fun h => hc h.1), if_pos hp]
        omega
    · rw [if_neg (fun h => hp h.2), if_neg hp]
      omega

/-- A whole cut has what its events know; and what has that is whole. -/
theorem whole_vec {c : Nat} {l : List Ev} (g : Good (c : Int) l) {F : Nat → Int} (hr : Ranged l c F) : WholeC l F ↔ ∀ j, j < l.length → inC l F j = true → ∀ q : Nat, q < c → (vec l j (q : Int) : Int) ≤ F q := by
  have hs := g.sole
  constructor
  · intro h j hj hin q hq
    have h1 : vec l j (q : Int) ≤ pcnt l (inC l F) (q : Int) l.length := pcnt_mono fun x hx _ hk => by
      rcases (knows_iff hs hj x).1 hk with rfl | h2
      · exact hin
      · exact h x j hx hj hin h2
    have h2 := pcnt_inC l (hr q hq).1 l.length
    omega
  · intro h i j hi hj hin hh
    obtain ⟨p, hp, he⟩ := g.procN hi
    rw [inC_vec hs hi he]
    have h1 := h j hj hin p hp
    have h2 := (knows_vec hs hi hj).1 ((knows_iff hs hj i).2 (.inr hh))
    rw [he] at h2
    omega

/-- The last event of process p in the cut. -/
def lastC (l : List Ev) (F : Nat → Int) (p : Nat) : Nat := (hist l (p : Int) l.length).getD ((F p).toNat - 1) 0
theorem lastC_at {l : List Ev} {c : Nat} {F : Nat → Int} (hr : Ranged l c F) {p : Nat} (hp : p < c) (h0 : 0 < F p) :
    lastC l F p < l.length ∧ (ev l (lastC l F p)).p = (p : Int) ∧ (own l (p : Int) (lastC l F p) : Int) = F p - 1 := by
  have h1 := hr p hp
  have h2 : (F p).toNat - 1 < (hist l (p : Int) l.length).length := by rw [hist_len]; omega
  have h3 := hist_at l (p : Int) l.length _ h2
  have e : lastC l F p = (hist l (p : Int) l.length)[(F p).toNat - 1] := by
    unfold lastC
    rw [List.getD_eq_getElem?_getD, List.getElem?_eq_getElem h2]; rfl
  rw [e]
  refine ⟨h3.1, h3.2.1, ?_⟩
  rw [h3.2.2]
  omega
theorem whole_last {c : Nat} {l : List Ev} (g : Good (c : Int) l) {F : Nat → Int} (hr : Ranged l c F) : WholeC l F ↔ ∀ p : Nat, p < c → 0 < F p → ∀ q : Nat, q < c → (vec l (lastC l F p) (q : Int) : Int) ≤ F q := by
  have hs := g.sole
  rw [whole_vec g hr]
  constructor
  · intro h p hp h0
    obtain ⟨h1, h2, h3⟩ := lastC_at hr hp h0
    exact h _ h1 ((inC_at h2).2 (by omega))
  · intro h j hj hin q hq
    obtain ⟨p, hp, he⟩ := g.procN hj
    have h4 := (inC_at he).1 hin
    have h0 : 0 < F p := by omega
    obtain ⟨h1, h2, h3⟩ := lastC_at hr hp h0
    have h5 := h p hp h0 q hq
    have h6 : knows l (lastC l F p) j = true := by
      rcases Nat.lt_trichotomy j (lastC l F p) with h7 | h7 | h7
      · exact knows_proc hs h7 h1 (by rw [he, h2])
      · rw [← h7]; exact knows_self l j
      · have := own_lt l h7 h2
        omega
    have h7 : vec l j (q : Int) ≤ vec l (lastC l F p) (q : Int) := pcnt_mono fun x _ _ hx => knows_trans hs h1 h6 hx
    omega

/-- The least cut with an event. -/
theorem least_ranged (l : List Ev) (c j : Nat) : Ranged l c (fun p => (vec l j (p : Int) : Int)) := fun p _ => ⟨by show (0 : Int) ≤ (vec l j (p : Int) : Int); omega, by show (vec l j (p : Int) : Int) ≤ _; have := vec_own_le l j (p : Int); omega⟩
theorem least_in {c : Nat} {l : List Ev} (g : Good (c : Int) l) {i j : Nat} (hi : i < l.length) (hj : j < l.length) : inC l (fun p => (vec l j (p : Int) : Int)) i = true ↔ knows l j i = true := by
  obtain ⟨p, hp, he⟩ := g.procN hi
  rw [inC_vec g.sole hi he, knows_vec g.sole hi hj, he]
  omega
theorem least_whole {c : Nat} {l : List Ev} (g : Good (c : Int) l) {j : Nat} (hj : j < l.length) : WholeC l (fun p => (vec l j (p : Int) : Int)) := by
  intro a b ha hb hin hh
  rw [least_in g ha hj]
  rw [least_in g hb hj] at hin
  exact knows_trans g.sole hj hin ((knows_iff g.sole hb a).2 (.inr hh))

theorem inC_congr {c : Nat} {l : List Ev} (g : Good (c : Int) l) {F F' : Nat → Int} (h : ∀ p, p < c → F p = F' p) {i : Nat} (hi : i < l.length) : inC l F i = inC l F' i := by
  obtain ⟨p, hp, he⟩ := g.procN hi
  rw [Bool.eq_iff_iff, inC_at he, inC_at he, h p hp]
theorem whole_congr {c : Nat} {l : List Ev} (g : Good (c : Int) l) {F F' : Nat → Int} (h : ∀ p, p < c → F p = F' p) (hw : WholeC l F) : WholeC l F' := by
  intro i j hi hj hin hh
  rw [← inC_congr g h hi]
  rw [← inC_congr g h hj] at hin
  exact hw i j hi hj hin hh

theorem inC_max (l : List Ev) (F F' : Nat → Int) (i : Nat) : inC l (fun p => max (F p) (F' p)) i = true ↔ inC l F i = true ∨ inC l F' i = true := by
  rw [inC_iff, inC_iff, inC_iff]
  show (own l (ev l i).p i : Int) < max (F (ev l i).p.toNat) (F' (ev l i).p.toNat) ↔ _
  omega
theorem inC_min (l : List Ev) (F F' : Nat → Int) (i : Nat) : inC l (fun p => min (F p) (F' p)) i = true ↔ inC l F i = true ∧ inC l F' i = true := by
  rw [inC_iff, inC_iff, inC_iff]
  show (own l (ev l i).p i : Int) < min (F (ev l i).p.toNat) (F' (ev l i).p.toNat) ↔ _
  omega
theorem whole_max {l : List Ev} {F F' : Nat → Int} (h : WholeC l F) (h' : WholeC l F') : WholeC l (fun p => max (F p) (F' p)) := by
  intro i j hi hj hin hh
  rw [inC_max] at hin ⊢
  rcases hin with h1 | h1
  · exact .inl (h i j hi hj h1 hh)
  · exact .inr (h' i j hi hj h1 hh)
theorem whole_min {l : List Ev} {F F' : Nat → Int} (h : WholeC l F) (h' : WholeC l F') : WholeC l (fun p => min (F p) (F' p)) := by
  intro i j hi hj hin hh
  rw [inC_min] at hin ⊢
  exact ⟨h i j hi hj hin.1 hh, h' i j hi hj hin.2 hh⟩
theorem whole_zero (l : List Ev) : WholeC l (fun _ => 0) := by
  intro i j _ _ hin
  rw [inC_iff] at hin
  omega

#print axioms whole_last
end Go.Proofs.Ytpofmhlmaejmoaa
