/-
  Chang and Roberts in rounds: plain. The state, a round; the greatest becomes the leader; how many messages.
-/
import Derived.Test.YtcmfpnghejapbaaHlf
namespace Go.Proofs.Ytcmfpnghejapbaa

structure RS where
  sent : Nat → Bool
  tr : Nat → Option Int
  ms : Nat

/-- What moves on to each place, of what is sent at the first k ones. -/
def trTo (n : Nat) (o : Nat → Option Int) (k : Nat) : Nat → Option Int := fun p => if p < n ∧ bef n p < k then o (bef n p) else none
def sentTo (s o : Nat → Bool) (k : Nat) : Nat → Bool := fun p => s p || (decide (p < k) && o p)
/-- What those of b send first. -/
def out0 (l : List Int) (b : Nat → Bool) : Nat → Option Int := fun p => if b p = true then some (vat l p) else none
/-- What a place sends in a round. -/
def outS (l : List Int) (S : RS) : Nat → Option Int := fun p => match S.tr p with
  | none => none
  | some x => if vat l p < x then some x else if S.sent p = true then none else some (vat l p)
/-- It sends its own number in a round. -/
def ownS (l : List Int) (S : RS) : Nat → Bool := fun p => match S.tr p with
  | none => false
  | some x => !decide (vat l p < x) && !S.sent p
def someB (o : Nat → Option Int) : Nat → Bool := fun p => (o p).isSome
/-- After k places of a round. -/
def rsTo (l : List Int) (S : RS) (k : Nat) : RS := ⟨sentTo S.sent (ownS l S) k, trTo l.length (outS l S) k, S.ms + cnt (someB (outS l S)) k⟩
def rs0To (l : List Int) (b : Nat → Bool) (k : Nat) : RS := ⟨sentTo (fun _ => false) b k, trTo l.length (out0 l b) k, cnt (someB (out0 l b)) k⟩
def sim (l : List Int) (b : Nat → Bool) : Nat → RS
  | 0 => rs0To l b l.length
  | r + 1 => rsTo l (sim l b r) l.length
/-- Its own number is on the way to place p. -/
def leadB (l : List Int) (S : RS) (p : Nat) : Bool := S.tr p == some (vat l p)
theorem leadB_iff (l : List Int) (S : RS) (p : Nat) : leadB l S p = true ↔ S.tr p = some (vat l p) := by
  unfold leadB
  rw [beq_iff_eq]

theorem trTo_all {n : Nat} (o : Nat → Option Int) {p : Nat} (hp : p < n) : trTo n o n p = o (bef n p) := by
  unfold trTo
  rw [if_pos ⟨hp, bef_lt (by omega) p⟩]
theorem trTo_next {n : Nat} (o : Nat → Option Int) {p : Nat} (hp : p < n) : trTo n o n ((p + 1) % n) = o p := by
  rw [trTo_all o (Nat.mod_lt _ (by omega)), bef_next hp]
theorem sentTo_all {n : Nat} (s o : Nat → Bool) {p : Nat} (hp : p < n) : sentTo s o n p = (s p || o p) := by
  unfold sentTo
  rw [decide_eq_true hp, Bool.true_and]
theorem ms_le (l : List Int) (b : Nat → Bool) (r : Nat) : (sim l b r).ms ≤ (r + 1) * l.length := by
  induction r with
  | zero => rw [Nat.zero_add, Nat.one_mul]; exact cnt_le _ _
  | succ r ih =>
    have h1 := cnt_le (someB (outS l (sim l b r))) l.length
    show (sim l b r).ms + cnt (someB (outS l (sim l b r))) l.length ≤ _
    rw [Nat.add_mul _ 1, Nat.one_mul]
    omega

/-- Each number on the way came from its place over smaller ones only, and was counted each time. -/
def InvA (l : List Int) (S : RS) : Prop := ∀ p x, p < l.length → S.tr p = some x →
  ∃ s d, s < l.length ∧ 1 ≤ d ∧ d ≤ l.length ∧ p = (s + d) % l.length ∧ x = vat l s ∧ (∀ i, 1 ≤ i → i < d → vat l ((s + i) % l.length) < x) ∧ d ≤ S.ms

theorem invA_zero (l : List Int) (b : Nat → Bool) : InvA l (sim l b 0) := by
  intro p x hp hx
  have hn : 0 < l.length := by omega
  have h1 : out0 l b (bef l.length p) = some x := by rw [← hx]; exact (trTo_all _ hp).symm
  have hb := bef_lt hn p
  unfold out0 at h1
  by_cases e : b (bef l.length p) = true
  · rw [if_pos e] at h1
    injection h1 with h1
    refine ⟨bef l.length p, 1, hb, Nat.le_refl _, hn, (next_bef hp).symm, h1.symm, fun i hi hi' => by omega, ?_⟩
    exact cnt_pos.2 ⟨bef l.length p, hb, by unfold someB out0; rw [if_pos e]; rfl⟩
  · rw [if_neg e] at h1
    cases h1
theorem invA_step {l : List Int} {S : RS} (h : InvA l S) : InvA l (rsTo l S l.length) := by
  intro p x hp hx
  have hn : 0 < l.length := by omega
  have h1 : outS l S (bef l.length p) = some x := by rw [← hx]; exact (trTo_all _ hp).symm
  have hb := bef_lt hn p
  have hcnt : 1 ≤ cnt (someB (outS l S)) l.length := cnt_pos.2 ⟨bef l.length p, hb, by unfold someB; rw [h1]; rfl⟩
  have hnb := next_bef hp
  generalize bef l.length p = q at *
  unfold outS at h1
  cases hq : S.tr q with
  | none => rw [hq] at h1; cases h1
  | some y =>
    rw [hq] at h1
    simp only at h1
    by_cases e : vat l q < y
    · rw [if_pos e] at h1
      injection h1 with h1
      subst h1
      obtain ⟨s, d, hs, hd1, hd2, hqe, hye, hall, hms⟩ := h q y hb hq
      have hlt : d ≠ l.length := by
        intro e'
        rw [e', Nat.add_mod_right, Nat.mod_eq_of_lt hs] at hqe
        rw [hqe, hye] at e
        omega
      refine ⟨s, d + 1, hs, by omega, by omega, ?_, hye, fun i hi hi' => ?_, ?_⟩
      · rw [← hnb, hqe, Nat.mod_add_mod, Nat.add_assoc]
      · by_cases e' : i = d
        · rw [e', ← hqe]; exact e
        · exact hall i hi (by omega)
      · show d + 1 ≤ S.ms + _
        omega
    · rw [if_neg e] at h1
      by_cases e2 : S.sent q = true
      · rw [if_pos e2] at h1; cases h1
      · rw [if_neg e2] at h1
        injection h1 with h1
        refine ⟨q, 1, hb, Nat.le_refl _, hn, hnb.symm, h1.symm, fun i hi hi' => by omega, ?_⟩
        show 1 ≤ S.ms + _
        omega
theorem invA_all (l : List Int) (b : Nat → Bool) (r : Nat) : InvA l (sim l b r) := by
  induction r with
  | zero => exact invA_zero l b
  | succ r ih => exact invA_step ih

/-- Another place is so and so far from one. -/
theorem far_of {n m p : Nat} (hm : m < n) (hp : p < n) : ∃ j, 1 ≤ j ∧ j ≤ n ∧ (m + j) % n = p ∧ (p = m → j = n) := by
  by_cases h : m < p
  · exact ⟨p - m, by omega, by omega, by rw [show m + (p - m) = p by omega, Nat.mod_eq_of_lt hp], fun h => by omega⟩
  · exact ⟨p + n - m, by omega, by omega, by rw [show m + (p + n - m) = p + n by omega, Nat.add_mod_right, Nat.mod_eq_of_lt hp], fun h => by omega⟩

/-- Who leads has the greatest number; it was sent all around. -/
theorem lead_most {l : List Int} (hR : Rng l) {S : RS} (h : InvA l S) {p : Nat} (hp : p < l.length) (hl : leadB l S p = true) : (∀ i, i < l.length → i ≠ p → vat l i < vat l p) ∧ l.length ≤ S.ms := by
  obtain ⟨s, d, hs, hd1, hd2, hpe, hxe, hall, hms⟩ := h p _ hp ((leadB_iff l S p).1 hl)
  have hsp : p = s := hR.inj hp hs hxe
  subst hsp
  have hd : d = l.length := by
    rcases Nat.lt_or_ge d l.length with h1 | h1
    · by_cases h2 : p + d < l.length
      · rw [Nat.mod_eq_of_lt h2] at hpe; omega
      · rw [show p + d = (p + d - l.length) + l.length by omega, Nat.add_mod_right, Nat.mod_eq_of_lt (by omega)] at hpe; omega
    · omega
  subst hd
  refine ⟨fun i hi hne => ?_, hms⟩
  obtain ⟨j, h1, h2, h3, h4⟩ := far_of hp hi
  have : j ≠ l.length := by
    intro e
    rw [e, Nat.add_mod_right, Nat.mod_eq_of_lt hp] at h3
    exact hne h3.symm
  rw [← h3]
  exact hall j h1 (by omega)

/-- The greatest number (at m) is on its way, d places far. -/
def PhB (l : List Int) (m d : Nat) (S : RS) : Prop := 1 ≤ d ∧ d ≤ l.length ∧ S.tr ((m + d) % l.length) = some (vat l m)
/-- The place of the greatest number is quiet yet; what comes first comes to the j-th place from it. -/
def PhA (l : List Int) (m j : Nat) (S : RS) : Prop := 1 ≤ j ∧ j ≤ l.length ∧ (S.tr ((m + j) % l.length)).isSome = true ∧ (∀ i, j < i → i ≤ l.length → S.tr ((m + i) % l.length) = none) ∧ ∀ i, j ≤ i → i ≤ l.length → S.sent ((m + i) % l.length) = false

section
variable {l : List Int} {m : Nat}
theorem phB_step (hm : m < l.length) (hg : ∀ i, i < l.length → i ≠ m → vat l i < vat l m) {S : RS} {d : Nat} (h : PhB l m d S) (hd : d < l.length) : PhB l m (d + 1) (rsTo l S l.length) := by
  obtain ⟨h1, h2, h3⟩ := h
  have hn : 0 < l.length := by omega
  have hq := Nat.mod_lt (m + d) hn
  refine ⟨by omega, by omega, ?_⟩
  have e : (m + (d + 1)) % l.length = ((m + d) % l.length + 1) % l.length := by rw [Nat.mod_add_mod, Nat.add_assoc]
  rw [e]
  show trTo l.length (outS l S) l.length _ = _
  rw [trTo_next _ hq]
  have hne : (m + d) % l.length ≠ m := by
    intro e
    by_cases h4 : m + d < l.length
    · rw [Nat.mod_eq_of_lt h4] at e; omega
    · rw [show m + d = (m + d - l.length) + l.length by omega, Nat.add_mod_right, Nat.mod_eq_of_lt (by omega)] at e; omega
  unfold outS
  rw [h3]
  simp only
  rw [if_pos (hg _ hq hne)]
theorem phA_step {S : RS} {j : Nat} (h : PhA l m j S) (hj : j < l.length) : PhA l m (j + 1) (rsTo l S l.length) := by
  obtain ⟨h1, h2, h3, h4, h5⟩ := h
  have hn : 0 < l.length := by omega
  have hnx : ∀ i, (rsTo l S l.length).tr ((m + (i + 1)) % l.length) = outS l S ((m + i) % l.length) := fun i => by
    have e : (m + (i + 1)) % l.length = ((m + i) % l.length + 1) % l.length := by rw [Nat.mod_add_mod, Nat.add_assoc]
    rw [e]
    exact trTo_next _ (Nat.mod_lt _ hn)
  refine ⟨by omega, by omega, ?_, fun i hi hi' => ?_, fun i hi hi' => ?_⟩
  · rw [hnx]
    unfold outS
    cases hq : S.tr ((m + j) % l.length) with
    | none => rw [hq] at h3; cases h3
    | some x =>
      simp only
      rw [h5 j (Nat.le_refl _) h2]
      split <;> rfl
  · obtain ⟨i', rfl⟩ : ∃ i', i = i' + 1 := ⟨i - 1, by omega⟩
    rw [hnx]
    unfold outS
    rw [h4 i' (by omega) (by omega)]
  · show sentTo S.sent (ownS l S) l.length _ = false
    rw [sentTo_all _ _ (Nat.mod_lt _ hn), h5 i (by omega) hi']
    unfold ownS
    rw [h4 i (by omega) hi']
    rfl
theorem phA_last (hm : m < l.length) (hg : ∀ i, i < l.length → vat l i ≤ vat l m) {S : RS} (hA : InvA l S) (h : PhA l m l.length S) : PhB l m 1 (rsTo l S l.length) := by
  obtain ⟨h1, h2, h3, h4, h5⟩ := h
  have hn : 0 < l.length := by omega
  refine ⟨Nat.le_refl _, hn, ?_⟩
  show trTo l.length (outS l S) l.length _ = _
  rw [trTo_next _ hm]
  have h6 := h5 l.length (Nat.le_refl _) (Nat.le_refl _)
  rw [Nat.add_mod_right, Nat.mod_eq_of_lt hm] at h3 h6
  unfold outS
  cases hq : S.tr m with
  | none => rw [hq] at h3; cases h3
  | some x =>
    obtain ⟨s, d, hs, _, _, _, hxe, _⟩ := hA m x hm hq
    have := hg s hs
    simp only
    rw [if_neg (by omega), h6]
    rfl
theorem phB_ends (hm : m < l.length) (hg : ∀ i, i < l.length → i ≠ m → vat l i < vat l m) (b : Nat → Bool) : ∀ e d r, l.length - d = e → PhB l m d (sim l b r) → ∃ r', r' ≤ r + e ∧ leadB l (sim l b r') m = true := by
  intro e
  induction e with
  | zero =>
    intro d r he h
    have hd : d = l.length := by have := h.2.1; omega
    refine ⟨r, by omega, ?_⟩
    rw [leadB_iff, ← h.2.2, hd, Nat.add_mod_right, Nat.mod_eq_of_lt hm]
  | succ e ih =>
    intro d r he h
    obtain ⟨r', h1, h2⟩ := ih (d + 1) (r + 1) (by omega) (phB_step hm hg h (by omega))
    exact ⟨r', by omega, h2⟩
theorem phA_ends (hm : m < l.length) (hg : ∀ i, i < l.length → i ≠ m → vat l i < vat l m) (b : Nat → Bool) : ∀ e j r, l.length - j = e → PhA l m j (sim l b r) → ∃ r', r' ≤ r + e + l.length ∧ leadB l (sim l b r') m = true := by
  have hg' : ∀ i, i < l.length → vat l i ≤ vat l m := fun i hi => by
    by_cases e : i = m
    · rw [e]; exact Int.le_refl _
    · exact Int.le_of_lt (hg i hi e)
  intro e
  induction e with
  | zero =>
    intro j r he h
    have hj : j = l.length := by have := h.2.1; omega
    subst hj
    obtain ⟨r', h1, h2⟩ := phB_ends hm hg b (l.length - 1) 1 (r + 1) rfl (phA_last hm hg' (invA_all l b r) h)
    exact ⟨r', by omega, h2⟩
  | succ e ih =>
    intro j r he h
    obtain ⟨r', h1, h2⟩ := ih (j + 1) (r + 1) (by omega) (phA_step h (by omega))
    exact ⟨r', by omega, h2⟩
end

theorem last_one (P : Nat → Bool) : ∀ N, (∃ j, j ≤ N ∧ P j = true) → ∃ j, j ≤ N ∧ P j = true ∧ ∀ i, j < i → i ≤ N → P i = false := by
  intro N
  induction N with
  | zero => rintro ⟨j, h1, h2⟩; exact ⟨j, h1, h2, fun i hi hi' => by omega⟩
  | succ N ih =>
    rintro ⟨j, h1, h2⟩
    cases hP : P (N + 1) with
    | true => exact ⟨N + 1, Nat.le_refl _, hP, fun i hi hi' => by omega⟩
    | false =>
      obtain ⟨k, h3, h4, h5⟩ := ih ⟨j, by
        by_cases e : j = N + 1
        · rw [e, hP] at h2; cases h2
        · omega, h2⟩
      exact ⟨k, by omega, h4, fun i hi hi' => by
        by_cases e : i = N + 1
        · rw [e]; exact hP
        · exact h5 i hi (by omega)⟩
theorem first_one (P : Nat → Prop) : ∀ N, (∃ j, j ≤ N ∧ P j) → ∃ j, j ≤ N ∧ P j ∧ ∀ i, i < j → ¬ P i := by
  intro N
  induction N with
  | zero => rintro ⟨j, h1, h2⟩; exact ⟨j, h1, h2, fun i hi => by omega⟩
  | succ N ih =>
    rintro ⟨j, h1, h2⟩
    by_cases h3 : ∃ j, j ≤ N ∧ P j
    · obtain ⟨k, h4, h5, h6⟩ := ih h3
      exact ⟨k, by omega, h5, h6⟩
    · exact ⟨j, h1, h2, fun i hi hP => h3 ⟨i, by omega, hP⟩⟩

/-- After R rounds, and no sooner, a leader is found: at m. -/
structure LeadAt (l : List Int) (b : Nat → Bool) (R m : Nat) : Prop where
  soon : R ≤ 24
  lt : m < l.length
  is : leadB l (sim l b R) m = true
  sole : ∀ p, p < l.length → leadB l (sim l b R) p = true → p = m
  first : ∀ r, r < R → ∀ p, p < l.length → leadB l (sim l b r) p = false

theorem lead_ends {l : List Int} (hR : Rng l) {b : Nat → Bool} (hb : ∃ p, p < l.length ∧ b p = true) : ∃ R m, LeadAt l b R m := by
  have hn : 0 < l.length := by have := hR.len; omega
  obtain ⟨m, hm, hg0⟩ := most_at l hn
  have hg : ∀ i, i < l.length → i ≠ m → vat l i < vat l m := fun i hi hne => by
    rcases Int.lt_or_eq_of_le (hg0 i hi) with h2 | h2
    · exact h2
    · exact absurd (hR.inj hi hm h2) hne
  have hex : ∃ r, r ≤ 2 * l.length ∧ leadB l (sim l b r) m = true := by
    by_cases hbm : b m = true
    · obtain ⟨r', h1, h2⟩ := phB_ends hm hg b (l.length - 1) 1 0 rfl ⟨Nat.le_refl _, hn, by
        show trTo l.length (out0 l b) l.length _ = _
        rw [trTo_next _ hm]
        unfold out0
        rw [if_pos hbm]⟩
      exact ⟨r', by omega, h2⟩
    · obtain ⟨p, hp, hbp⟩ := hb
      have hpm : p ≠ m := fun e => hbm (e ▸ hbp)
      obtain ⟨j, h1, h2, h3, _⟩ := far_of hm hp
      have hbm' : b m = false := by simpa using hbm
      obtain ⟨k, hk1, hk2, hk3⟩ := last_one (fun j => decide (1 ≤ j) && b ((m + j) % l.length)) l.length ⟨j, h2, by simp [h1, h3, hbp]⟩
      simp only [Bool.and_eq_true, decide_eq_true_eq] at hk2
      have hkn : k < l.length := by
        rcases Nat.lt_or_ge k l.length with h | h
        · exact h
        · have : k = l.length := by omega
          have h4 := hk2.2
          rw [this, Nat.add_mod_right, Nat.mod_eq_of_lt hm, hbm'] at h4
          cases h4
      have hno : ∀ i, k < i → i ≤ l.length → b ((m + i) % l.length) = false := fun i hi hi' => by
        have := hk3 i hi hi'
        rw [decide_eq_true (by omega), Bool.true_and] at this
        exact this
      have hnx : ∀ i, (sim l b 0).tr ((m + (i + 1)) % l.length) = out0 l b ((m + i) % l.length) := fun i => by
        have e : (m + (i + 1)) % l.length = ((m + i) % l.length + 1) % l.length := by rw [Nat.mod_add_mod, Nat.add_assoc]
        rw [e]
        exact trTo_next _ (Nat.mod_lt _ hn)
      obtain ⟨r', h5, h6⟩ := phA_ends hm hg b (l.length - (k + 1)) (k + 1) 0 rfl ⟨by omega, by omega, by rw [hnx]; unfold out0; rw [if_pos hk2.2]; rfl, fun i hi hi' => by
          obtain ⟨i', rfl⟩ : ∃ i', i = i' + 1 := ⟨i - 1, by omega⟩
          rw [hnx]; unfold out0; rw [hno i' (by omega) (by omega)]; rfl, fun i hi hi' => by
          show sentTo (fun _ => false) b l.length ((m + i) % l.length) = false
          rw [sentTo_all _ _ (Nat.mod_lt _ hn), hno i (by omega) hi']
          rfl⟩
      exact ⟨r', by omega, h6⟩
  obtain ⟨r, hr, hr2⟩ := hex
  obtain ⟨R, h1, ⟨q, hq1, hq2⟩, h3⟩ := first_one (fun r => ∃ p, p < l.length ∧ leadB l (sim l b r) p = true) (2 * l.length) ⟨r, hr, m, hm, hr2⟩
  have hqm : ∀ p, p < l.length → leadB l (sim l b R) p = true → p = m := fun p hp h => by
    have := (lead_most hR (invA_all l b R) hp h).1
    by_cases e : p = m
    · exact e
    · have h4 := this m hm (fun h => e h.symm)
      have h5 := hg p hp e
      omega
  have := hR.len
  refine ⟨R, m, by omega, hm, by rw [← hqm q hq1 hq2]; exact hq2, hqm, fun r hr p hp => ?_⟩
  rw [← Bool.not_eq_true]
  exact fun h => h3 r hr ⟨p, hp, h⟩

#print axioms lead_ends
#print axioms lead_most
end Go.Proofs.Ytcmfpnghejapbaa
