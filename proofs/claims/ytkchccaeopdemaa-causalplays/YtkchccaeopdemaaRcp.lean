/-
  Causal broadcast: what the document's answer keeps: all that has come, and the smallest that can be delivered. Plain.
-/
import Derived.Test.YtkchccaeopdemaaCau
namespace Go.Proofs.Ytkchccaeopdemaa

def byS (S : CS) : List Nat := (List.range S.m).map S.sd
theorem byS_len (S : CS) : (byS S).length = S.m := by simp [byS]
theorem byS_tell (S : CS) (i : Nat) : byS (S.tell i) = byS S ++ [i] := by
  unfold byS CS.tell
  simp only
  rw [List.range_succ, List.map_append]
  congr 1
  · apply List.map_congr_left
    intro k hk
    exact up1_other _ _ (by have := List.mem_range.1 hk; omega)
  · simp [up1]
/-- The lists by their numbers. -/
def famF (n : Nat) (S : CS) (cm : Nat → List Nat) : Nat → List Nat := fun j => if j < n then S.td j else if j < 2 * n then cm (j - n) else if j = 2 * n then byS S else S.bh (j - (2 * n + 1))
section
variable {n : Nat} {S : CS} {cm : Nat → List Nat}
theorem famF_td {j : Nat} (h : j < n) : famF n S cm j = S.td j := if_pos h
theorem famF_cm {i : Nat} (h : i < n) : famF n S cm (n + i) = cm i := by
  unfold famF
  rw [if_neg (by omega), if_pos (by omega), Nat.add_sub_cancel_left]
theorem famF_by : famF n S cm (2 * n) = byS S := by
  unfold famF
  rw [if_neg (by omega), if_neg (by omega), if_pos rfl]
theorem famF_bh (k : Nat) : famF n S cm (2 * n + 1 + k) = S.bh k := by
  unfold famF
  rw [if_neg (by omega), if_neg (by omega), if_neg (by omega), Nat.add_sub_cancel_left]
/-- Told one more. -/
theorem famF_put {i : Nat} (hi : i < n) (t q : List Nat) (j : Nat) : up1 (famF n S cm) i t j = famF n (S.put i t q) cm j := by
  unfold famF
  have hb : byS (S.put i t q) = byS S := rfl
  have hh : (S.put i t q).bh = S.bh := rfl
  by_cases e : j = i
  · subst e
    rw [up1_same, if_pos hi, CS.put_td, if_pos rfl]
  · rw [up1_other _ _ e, hb, hh]
    by_cases h1 : j < n
    · rw [if_pos h1, if_pos h1, CS.put_td, if_neg e]
    · rw [if_neg h1, if_neg h1]
theorem famF_come {i : Nat} (hi : i < n) (x : List Nat) (j : Nat) : up1 (famF n S cm) (n + i) x j = famF n S (up1 cm i x) j := by
  unfold famF
  by_cases e : j = n + i
  · subst e
    rw [up1_same, if_neg (by omega), if_pos (by omega), Nat.add_sub_cancel_left, up1_same]
  · rw [up1_other _ _ e]
    by_cases h1 : j < n
    · rw [if_pos h1, if_pos h1]
    · rw [if_neg h1, if_neg h1]
      by_cases h2 : j < 2 * n
      · rw [if_pos h2, if_pos h2, up1_other _ _ (by omega)]
      · rw [if_neg h2, if_neg h2]
theorem famF_tell {i : Nat} (hi : i < n) (j : Nat) (hj : j < 2 * n + 1 + (S.m + 1)) : up1 (up1 (up1 (famF n S cm) (2 * n + 1 + S.m) (S.td i)) i (S.td i ++ [S.m])) (2 * n) (byS S ++ [i]) j = famF n (S.tell i) cm j := by
  by_cases e1 : j = 2 * n
  · subst e1
    rw [up1_same, famF_by, byS_tell]
  · rw [up1_other _ _ e1]
    by_cases e2 : j = i
    · subst e2
      rw [up1_same, famF_td hi, CS.tell_td, if_pos rfl]
    · rw [up1_other _ _ e2]
      by_cases e3 : j = 2 * n + 1 + S.m
      · subst e3
        rw [up1_same, famF_bh]
        exact (up1_same _ _ _).symm
      · rw [up1_other _ _ e3]
        unfold famF
        by_cases h1 : j < n
        · rw [if_pos h1, if_pos h1, CS.tell_td, if_neg e2]
        · rw [if_neg h1, if_neg h1]
          by_cases h2 : j < 2 * n
          · rw [if_pos h2, if_pos h2]
          · rw [if_neg h2, if_neg h2, if_neg e1, if_neg e1]
            exact (up1_other _ _ (by omega)).symm
end

theorem own_td {n : Nat} {S : CS} (h : CInv n S) {x : Nat} (hx : x < S.m) : x ∈ S.td (S.sd x) := List.mem_of_getElem? (h.ow x hx).2
theorem wt_sd {n : Nat} {S : CS} (h : CInv n S) {x i : Nat} (hx : x ∈ S.wt i) : S.sd x ≠ i := by
  intro e
  have h1 := own_td h ((h.pi i).ql x hx)
  rw [e] at h1
  exact (h.pi i).ap x hx h1
/-- What has come. -/
def CmI (n : Nat) (S : CS) (cm : Nat → List Nat) : Prop := ∀ i, i < n → ∀ x, x ∈ cm i ↔ (x ∈ S.wt i ∨ (x ∈ S.td i ∧ S.sd x ≠ i))
theorem CmI.begin (n : Nat) : CmI n CS.begin (fun _ => []) := fun i _ x => by simp [CS.begin, CS.td, CS.wt]
theorem CmI.tell {n : Nat} {S : CS} {cm : Nat → List Nat} (hI : CInv n S) (h : CmI n S cm) (i : Nat) : CmI n (S.tell i) cm := fun j hj x => by
  rw [h j hj x, CS.tell_wt, CS.tell_td]
  have hs : ∀ y, y < S.m → (S.tell i).sd y = S.sd y := fun y hy => up1_other _ _ (by omega)
  have hm : (S.tell i).sd S.m = i := up1_same _ _ _
  by_cases e : j = i
  · rw [if_pos e, List.mem_append, List.mem_singleton]
    constructor
    · rintro (h1 | ⟨h1, h2⟩)
      · exact .inl h1
      · rw [e] at h1; exact .inr ⟨.inl h1, by rw [hs x ((hI.pi i).tl x h1)]; exact h2⟩
    · rintro (h1 | ⟨h1 | h1, h2⟩)
      · exact .inl h1
      · rw [hs x ((hI.pi i).tl x h1)] at h2; rw [e]; rw [e] at h2; exact .inr ⟨h1, h2⟩
      · rw [h1, hm] at h2; exact absurd e.symm h2
  · rw [if_neg e]
    constructor
    · rintro (h1 | ⟨h1, h2⟩)
      · exact .inl h1
      · exact .inr ⟨h1, by rw [hs x ((hI.pi j).tl x h1)]; exact h2⟩
    · rintro (h1 | ⟨h1, h2⟩)
      · exact .inl h1
      · rw [hs x ((hI.pi j).tl x h1)] at h2; exact .inr ⟨h1, h2⟩
theorem hold_iff {n : Nat} {S : CS} {cm : Nat → List Nat} (hI : CInv n S) (h : CmI n S cm) {i v : Nat} (hi : i < n) (hv : v < S.m) : (v ∈ S.wt i ∨ v ∈ S.td i) ↔ (S.sd v = i ∨ v ∈ cm i) := by
  rw [h i hi v]
  constructor
  · rintro (h1 | h1)
    · exact .inr (.inl h1)
    · by_cases e : S.sd v = i
      · exact .inl e
      · exact .inr (.inr ⟨h1, e⟩)
  · rintro (h1 | h1 | h1)
    · right; rw [← h1]; exact own_td hI hv
    · exact .inl h1
    · exact .inr h1.1
/-- In the midst of delivery. -/
structure MI (sd : Nat → Nat) (i : Nat) (c t q : List Nat) : Prop where
  iff : ∀ x, x ∈ c ↔ (x ∈ q ∨ (x ∈ t ∧ sd x ≠ i))
  ne : ∀ x ∈ q, sd x ≠ i
theorem MI.step {sd : Nat → Nat} {i : Nat} {c t q : List Nat} {bh : Nat → List Nat} {k : Nat} (h : MI sd i c t q) (hq : q.Nodup) (hd : dstep bh t q = some k) : MI sd i c (t ++ [k]) (q.erase k) := by
  have hk := (dstep_some hd).1
  refine ⟨fun x => ?_, fun x hx => h.ne x (List.mem_of_mem_erase hx)⟩
  rw [h.iff x, List.mem_append, List.mem_singleton, List.Nodup.mem_erase_iff hq]
  constructor
  · rintro (h1 | ⟨h1, h2⟩)
    · by_cases e : x = k
      · exact .inr ⟨.inr e, h.ne x h1⟩
      · exact .inl ⟨e, h1⟩
    · exact .inr ⟨.inl h1, h2⟩
  · rintro (h1 | ⟨h1 | h1, h2⟩)
    · exact .inl h1.2
    · exact .inr ⟨h1, h2⟩
    · rw [h1]; exact .inl hk
theorem MI.start {n : Nat} {S : CS} {cm : Nat → List Nat} (hI : CInv n S) (h : CmI n S cm) {i v : Nat} (hi : i < n) (hv : S.sd v ≠ i) : MI S.sd i (cm i ++ [v]) (S.td i) (ins v (S.wt i)) := by
  refine ⟨fun x => ?_, fun x hx => ?_⟩
  · rw [List.mem_append, List.mem_singleton, h i hi x, ins_mem]
    constructor
    · rintro ((h1 | h1) | h1)
      · exact .inl (.inr h1)
      · exact .inr h1
      · exact .inl (.inl h1)
    · rintro ((h1 | h1) | h1)
      · exact .inr h1
      · exact .inl (.inl h1)
      · exact .inl (.inr h1)
  · rcases (ins_mem v _ x).1 hx with e | hx
    · rw [e]; exact hv
    · exact wt_sd hI hx
theorem MI.mem {sd : Nat → Nat} {i : Nat} {c t q : List Nat} (h : MI sd i c t q) (hap : ∀ x ∈ q, x ∉ t) (k : Nat) : (k ∈ c ∧ k ∉ t) ↔ k ∈ q := by
  constructor
  · rintro ⟨h1, h2⟩
    rcases (h.iff k).1 h1 with h3 | h3
    · exact h3
    · exact absurd h3.1 h2
  · exact fun h1 => ⟨(h.iff k).2 (.inl h1), hap k h1⟩
theorem CmI.put {n : Nat} {S : CS} {cm : Nat → List Nat} (h : CmI n S cm) {i : Nat} {c t q : List Nat} (hM : MI S.sd i c t q) : CmI n (S.put i t q) (up1 cm i c) := fun j hj x => by
  rw [CS.put_wt, CS.put_td]
  by_cases e : j = i
  · rw [e, up1_same, if_pos rfl, if_pos rfl, hM.iff x]; exact Iff.rfl
  · rw [up1_other _ _ e, if_neg e, if_neg e]; exact h j hj x

/-- The smallest of those from j on that p picks. -/
def NextIs (p : Nat → Bool) (m j : Nat) (r : Int) : Prop := (r = -1 ∧ ∀ k, j ≤ k → k < m → p k = false) ∨ ∃ c : Nat, r = (c : Int) ∧ j ≤ c ∧ c < m ∧ p c = true ∧ ∀ k, j ≤ k → k < c → p k = false
theorem NextIs.start (p : Nat → Bool) (m : Nat) : NextIs p m m (-1) := .inl ⟨rfl, fun k h1 h2 => by omega⟩
theorem NextIs.yes {p : Nat → Bool} {m j : Nat} (hj : j < m) (hp : p j = true) : NextIs p m j (j : Int) := .inr ⟨j, rfl, Nat.le_refl _, hj, hp, fun k h1 h2 => by omega⟩
theorem NextIs.no {p : Nat → Bool} {m j : Nat} {r : Int} (h : NextIs p m (j + 1) r) (hp : p j = false) : NextIs p m j r := by
  rcases h with ⟨e, h⟩ | ⟨c, e, h1, h2, h3, h4⟩
  · refine .inl ⟨e, fun k hk hk2 => ?_⟩
    by_cases e : k = j
    · rw [e]; exact hp
    · exact h k (by omega) hk2
  · refine .inr ⟨c, e, by omega, h2, h3, fun k hk hk2 => ?_⟩
    by_cases e : k = j
    · rw [e]; exact hp
    · exact h4 k (by omega) hk2
theorem NextIs.range {p : Nat → Bool} {m j : Nat} {r : Int} (h : NextIs p m j r) : -1 ≤ r ∧ r < (m : Int) := by
  rcases h with ⟨e, h⟩ | ⟨c, e, h1, h2, h3, h4⟩ <;> omega
def pk (bh : Nat → List Nat) (t q : List Nat) (k : Nat) : Bool := decide (k ∈ q) && rdy bh t k
theorem next_none {bh : Nat → List Nat} {t q : List Nat} {m : Nat} {r : Int} (h : NextIs (pk bh t q) m 0 r) (hr : r < 0) (hq : ∀ x ∈ q, x < m) : dstep bh t q = none := by
  rcases h with ⟨_, h⟩ | ⟨c, e, _⟩
  · rw [dstep_none]
    intro k hk
    have := h k (Nat.zero_le _) (hq k hk)
    unfold pk at this
    rw [decide_eq_true hk, Bool.true_and] at this
    exact this
  · omega
theorem next_some {bh : Nat → List Nat} {t q : List Nat} {m : Nat} {r : Int} (h : NextIs (pk bh t q) m 0 r) (hr : ¬ r < 0) (hs : q.Pairwise (· < ·)) : ∃ c : Nat, r = (c : Int) ∧ c < m ∧ dstep bh t q = some c := by
  rcases h with ⟨e, _⟩ | ⟨c, e, _, h2, h3, h4⟩
  · omega
  · refine ⟨c, e, h2, ?_⟩
    unfold pk at h3
    rw [Bool.and_eq_true, decide_eq_true_iff] at h3
    unfold dstep
    obtain ⟨i, hi, ei⟩ := List.getElem_of_mem h3.1
    rw [List.find?_eq_some_iff_getElem]
    refine ⟨h3.2, i, hi, ei, fun a ha => ?_⟩
    have hlt := List.pairwise_iff_getElem.1 hs a i (by omega) hi ha
    have := h4 (q[a]'(by omega)) (Nat.zero_le _) (by omega)
    unfold pk at this
    rw [decide_eq_true (List.getElem_mem _), Bool.true_and] at this
    rw [this]; rfl

#print axioms next_some
#print axioms CmI.put
end Go.Proofs.Ytkchccaeopdemaa
