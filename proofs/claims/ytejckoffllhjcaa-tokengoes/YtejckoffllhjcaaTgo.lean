/-
  When all has been received: nothing is on the way, and somebody is in the critical section if anybody is requesting. Plain.
-/
import Derived.Test.YtejckoffllhjcaaTrs
namespace Go.Proofs.Ytejckoffllhjcaa

/-- Up to where the last request is. -/
def lrq : List Int → Nat
  | [] => 0
  | x :: r => if lrq r = 0 then (if x = 0 then 0 else 1) else lrq r + 1
theorem lrq_tail (l : List Int) : lrq l.tail = lrq l - 1 := by
  cases l with
  | nil => rfl
  | cons x r =>
    show lrq r = (if lrq r = 0 then (if x = 0 then 0 else 1) else lrq r + 1) - 1
    split
    · split <;> omega
    · omega
theorem lrq_snoc (l : List Int) : lrq (l ++ [0]) = lrq l := by
  induction l with
  | nil => rfl
  | cons x r ih => simp only [List.cons_append, lrq, ih]
theorem lrq_le (l : List Int) : lrq l ≤ l.length := by
  induction l with
  | nil => exact Nat.le_refl _
  | cons x r ih =>
    simp only [lrq, List.length_cons]
    split
    · split <;> omega
    · omega
theorem lrq_zero {l : List Int} (h : lrq l = 0) : ∀ x ∈ l, x = 0 := by
  induction l with
  | nil => intro x hx; cases hx
  | cons y r ih =>
    simp only [lrq] at h
    by_cases e : lrq r = 0
    · rw [if_pos e] at h
      intro x hx
      rcases List.mem_cons.1 hx with e2 | e2
      · rw [e2]
        by_cases e3 : y = 0
        · exact e3
        · rw [if_neg e3] at h; cases h
      · exact ih e x e2
    · rw [if_neg e] at h; cases h

/-- A receipt. -/
def cmv (p : Nat × Nat) : Mv := ⟨2, (p.1 : Int), (p.2 : Int), 0⟩
def oneAt (p : Nat × Nat) (a b : Nat) : Nat := if (a, b) = p then 1 else 0
def Vld (n : Nat) (p : Nat × Nat) : Prop := p.1 < n ∧ p.2 < n ∧ p.1 ≠ p.2
section
variable {n : Nat} {S : TS}
theorem step_cmv {p : Nat × Nat} (hp : Vld n p) : (stepT n S (cmv p)).1 = if S.q p.1 p.2 = [] then S else S.come p.1 p.2 := by
  obtain ⟨h1, h2, h3⟩ := hp
  unfold stepT cmv
  simp only
  rw [if_neg (by omega), if_neg (by omega), if_neg (by omega), if_neg (by omega), if_neg (by omega), Int.toNat_natCast, Int.toNat_natCast]
  split <;> rfl
theorem come_q {i j : Nat} (hne : i ≠ j) {x : Int} {r : List Int} (hq : S.q i j = x :: r) (a b : Nat) : ((S.come i j).q a b = if a = i ∧ b = j then r else S.q a b) ∨ (x ≠ 0 ∧ a = j ∧ b = i ∧ (S.come i j).q a b = S.q a b ++ [0]) := by
  have hp : ∀ a b, (S.pop i j).q a b = if a = i ∧ b = j then r else S.q a b := fun a b => by
    show up2 S.q i j (S.q i j).tail a b = _
    by_cases e : a = i ∧ b = j
    · rw [e.1, e.2, up2_same, hq, if_pos ⟨rfl, rfl⟩]; rfl
    · rw [up2_other _ _ e, if_neg e]
  unfold TS.come
  rw [hq]
  show ((if x = 0 then _ else _ : TS).q a b = _) ∨ (x ≠ 0 ∧ a = j ∧ b = i ∧ (if x = 0 then _ else _ : TS).q a b = _)
  by_cases hx : x = 0
  · rw [if_pos hx]
    left
    have : (((S.pop i j).less j).enter j).q = (S.pop i j).q := by unfold TS.enter; split <;> rfl
    rw [this]
    exact hp a b
  · rw [if_neg hx]
    show (((S.pop i j).answer j i x).q a b = _) ∨ (x ≠ 0 ∧ a = j ∧ b = i ∧ ((S.pop i j).answer j i x).q a b = _)
    unfold TS.answer
    split
    · left; exact hp a b
    · by_cases e : a = j ∧ b = i
      · right
        refine ⟨hx, e.1, e.2, ?_⟩
        show up2 (S.pop i j).q j i ((S.pop i j).q j i ++ [0]) a b = _
        rw [e.1, e.2, up2_same, hp, if_neg (fun h => hne h.2)]
      · left
        show up2 (S.pop i j).q j i ((S.pop i j).q j i ++ [0]) a b = _
        rw [up2_other _ _ e]
        exact hp a b
theorem lrq_step {p : Nat × Nat} (hp : Vld n p) (a b : Nat) : lrq ((stepT n S (cmv p)).1.q a b) = lrq (S.q a b) - oneAt p a b := by
  rw [step_cmv hp]
  unfold oneAt
  obtain ⟨i, j⟩ := p
  cases hq : S.q i j with
  | nil =>
    rw [if_pos rfl]
    by_cases e : (a, b) = (i, j)
    · injection e with e1 e2
      rw [e1, e2, hq]; simp [lrq]
    · rw [if_neg e]; omega
  | cons x r =>
    rw [if_neg (by simp)]
    rcases come_q hp.2.2 hq a b with h1 | ⟨_, h2, h3, h4⟩
    · rw [h1]
      by_cases e : a = i ∧ b = j
      · rw [if_pos e, if_pos (by rw [e.1, e.2]), e.1, e.2, hq, ← lrq_tail]; rfl
      · rw [if_neg e, if_neg (fun h => e (by injection h with h1 h2; exact ⟨h1, h2⟩))]; omega
    · rw [h4, lrq_snoc, if_neg (fun h => hp.2.2 (by injection h with e1 e2; exact e1.symm.trans h2))]; omega
theorem len_step {p : Nat × Nat} (hp : Vld n p) (hz : ∀ a b, lrq (S.q a b) = 0) (a b : Nat) : ((stepT n S (cmv p)).1.q a b).length = (S.q a b).length - oneAt p a b := by
  rw [step_cmv hp]
  unfold oneAt
  obtain ⟨i, j⟩ := p
  cases hq : S.q i j with
  | nil =>
    rw [if_pos rfl]
    by_cases e : (a, b) = (i, j)
    · injection e with e1 e2
      rw [e1, e2, hq]; simp
    · rw [if_neg e]; omega
  | cons x r =>
    rw [if_neg (by simp)]
    rcases come_q hp.2.2 hq a b with h1 | ⟨h0, _⟩
    · rw [h1]
      by_cases e : a = i ∧ b = j
      · rw [if_pos e, if_pos (by rw [e.1, e.2]), e.1, e.2, hq, List.length_cons]; omega
      · rw [if_neg e, if_neg (fun h => e (by injection h with h1 h2; exact ⟨h1, h2⟩))]; omega
    · exact absurd (lrq_zero (hz i j) x (by rw [hq]; simp)) h0
end
def runT (n : Nat) (S : TS) (l : List Mv) : TS := l.foldl (fun S m => (stepT n S m).1) S
theorem runT_append (n : Nat) (S : TS) (l r : List Mv) : runT n S (l ++ r) = runT n (runT n S l) r := by unfold runT; rw [List.foldl_append]
theorem tAt_run (n : Nat) (l : List Mv) {k : Nat} (hk : k ≤ l.length) : tAt n l k = runT n TS.begin (l.take k) := by
  induction k with
  | zero => rfl
  | succ k ih =>
    rw [tAt, ih (by omega), List.take_add_one, runT_append, List.getElem?_eq_getElem (by omega), mv_get l (by omega)]
    rfl
theorem tAt_all (n : Nat) (l : List Mv) : tAt n l l.length = runT n TS.begin l := by rw [tAt_run n l (Nat.le_refl _), List.take_length]
/-- How often a pair stands in a list. -/
def cntP (a b : Nat) : List (Nat × Nat) → Nat
  | [] => 0
  | p :: r => oneAt p a b + cntP a b r
theorem cntP_append (a b : Nat) (l r : List (Nat × Nat)) : cntP a b (l ++ r) = cntP a b l + cntP a b r := by
  induction l with
  | nil => simp [cntP]
  | cons p l ih => simp only [List.cons_append, cntP, ih]; omega
theorem lrq_run {n : Nat} : ∀ (P : List (Nat × Nat)) (S : TS), (∀ p ∈ P, Vld n p) → ∀ a b, lrq ((runT n S (P.map cmv)).q a b) = lrq (S.q a b) - cntP a b P
  | [], S, _, a, b => by simp [runT, cntP]
  | p :: P, S, h, a, b => by
    have h1 := lrq_run P (stepT n S (cmv p)).1 (fun q hq => h q (List.mem_cons_of_mem _ hq)) a b
    have h2 := lrq_step (S := S) (h p (by simp)) a b
    show lrq ((runT n (stepT n S (cmv p)).1 (P.map cmv)).q a b) = _
    rw [h1, h2]
    simp only [cntP]
    omega
theorem len_run {n : Nat} : ∀ (P : List (Nat × Nat)) (S : TS), (∀ p ∈ P, Vld n p) → (∀ a b, lrq (S.q a b) = 0) → ∀ a b, ((runT n S (P.map cmv)).q a b).length = (S.q a b).length - cntP a b P
  | [], S, _, _, a, b => by simp [runT, cntP]
  | p :: P, S, h, hz, a, b => by
    have hp := h p (by simp)
    have h1 := len_run P (stepT n S (cmv p)).1 (fun q hq => h q (List.mem_cons_of_mem _ hq)) (fun a b => by rw [lrq_step hp, hz]; omega) a b
    have h2 := len_step (S := S) hp hz a b
    show ((runT n (stepT n S (cmv p)).1 (P.map cmv)).q a b).length = _
    rw [h1, h2]
    simp only [cntP]
    omega

/-! The rounds. -/
def rowP (i : Nat) : Nat → List (Nat × Nat)
  | 0 => []
  | m + 1 => if i ≠ m then rowP i m ++ [(i, m)] else rowP i m
def rowsP (n : Nat) : Nat → List (Nat × Nat)
  | 0 => []
  | m + 1 => rowsP n m ++ rowP m n
def drainP (n : Nat) : Nat → List (Nat × Nat)
  | 0 => []
  | k + 1 => drainP n k ++ rowsP n n
theorem rowP_vld {n i : Nat} (hi : i < n) {m : Nat} (hm : m ≤ n) : ∀ p ∈ rowP i m, Vld n p := by
  induction m with
  | zero => intro p hp; cases hp
  | succ m ih =>
    intro p hp
    rw [rowP] at hp
    split at hp
    · next e =>
      rcases List.mem_append.1 hp with h | h
      · exact ih (by omega) p h
      · rw [List.mem_singleton.1 h]; exact ⟨hi, by omega, e⟩
    · exact ih (by omega) p hp
theorem rowsP_vld {n m : Nat} (hm : m ≤ n) : ∀ p ∈ rowsP n m, Vld n p := by
  induction m with
  | zero => intro p hp; cases hp
  | succ m ih =>
    intro p hp
    rw [rowsP] at hp
    rcases List.mem_append.1 hp with h | h
    · exact ih (by omega) p h
    · exact rowP_vld (by omega) (Nat.le_refl _) p h
theorem drainP_vld {n k : Nat} : ∀ p ∈ drainP n k, Vld n p := by
  induction k with
  | zero => intro p hp; cases hp
  | succ k ih =>
    intro p hp
    rw [drainP] at hp
    rcases List.mem_append.1 hp with h | h
    · exact ih p h
    · exact rowsP_vld (Nat.le_refl _) p h
theorem rowP_cnt (i : Nat) {a b m : Nat} : cntP a b (rowP i m) = if a = i ∧ b < m ∧ b ≠ i then 1 else 0 := by
  induction m with
  | zero => simp [rowP, cntP]
  | succ m ih =>
    rw [rowP]
    by_cases e : i ≠ m
    · rw [if_pos e, cntP_append, ih]
      simp only [cntP, oneAt]
      by_cases e2 : a = i ∧ b = m
      · rw [if_neg (by omega), if_pos (by rw [e2.1, e2.2]), if_pos (by omega)]
      · rw [if_neg (show ¬ ((a, b) = (i, m)) from fun h => e2 (by injection h with h1 h2; exact ⟨h1, h2⟩))]
        have : (a = i ∧ b < m ∧ b ≠ i) ↔ (a = i ∧ b < m + 1 ∧ b ≠ i) := by omega
        simp only [this]; omega
    · rw [if_neg e, ih]
      have : (a = i ∧ b < m ∧ b ≠ i) ↔ (a = i ∧ b < m + 1 ∧ b ≠ i) := by omega
      simp only [this]
theorem rowsP_cnt {n a b m : Nat} : cntP a b (rowsP n m) = if a < m ∧ b < n ∧ b ≠ a then 1 else 0 := by
  induction m with
  | zero => simp [rowsP, cntP]
  | succ m ih =>
    rw [rowsP, cntP_append, ih, rowP_cnt]
    split <;> split <;> split <;> omega
theorem drainP_cnt {n a b k : Nat} (h : a < n ∧ b < n ∧ b ≠ a) : cntP a b (drainP n k) = k := by
  induction k with
  | zero => rfl
  | succ k ih => rw [drainP, cntP_append, ih, rowsP_cnt, if_pos h]
theorem rowP_len (i m : Nat) : (rowP i m).length ≤ m := by
  induction m with
  | zero => exact Nat.le_refl _
  | succ m ih =>
    rw [rowP]
    split
    · rw [List.length_append, List.length_singleton]; omega
    · omega
theorem rowsP_len (n m : Nat) : (rowsP n m).length ≤ m * n := by
  induction m with
  | zero => simp [rowsP]
  | succ m ih => rw [rowsP, List.length_append, Nat.succ_mul]; have := rowP_len m n; omega
theorem drainP_len (n k : Nat) : (drainP n k).length ≤ k * (n * n) := by
  induction k with
  | zero => simp [drainP]
  | succ k ih => rw [drainP, List.length_append, Nat.succ_mul]; have := rowsP_len n n; omega
theorem drainP_add (n a b : Nat) : drainP n (a + b) = drainP n a ++ drainP n b := by
  induction b with
  | zero => simp [drainP]
  | succ b ih => rw [← Nat.add_assoc, drainP, ih, drainP, List.append_assoc]

theorem runT_inv {n : Nat} : ∀ (l : List Mv) (S : TS), TInv n S → TInv n (runT n S l)
  | [], _, h => h
  | m :: l, S, h => runT_inv l (stepT n S m).1 (h.step m)
/-- Behind eight rounds nothing is on the way. -/
theorem drained {n : Nat} {S : TS} (h : TInv n S) : ∀ a b, (runT n S ((drainP n 8).map cmv)).q a b = [] := by
  have hI := runT_inv ((drainP n 8).map cmv) S h
  intro a b
  by_cases hv : a < n ∧ b < n ∧ a ≠ b
  · have e8 : drainP n 8 = drainP n 4 ++ drainP n 4 := drainP_add n 4 4
    rw [e8, List.map_append, runT_append]
    have hz : ∀ c d, lrq ((runT n S ((drainP n 4).map cmv)).q c d) = 0 := fun c d => by
      rw [lrq_run _ _ drainP_vld]
      by_cases hv2 : c < n ∧ d < n ∧ d ≠ c
      · rw [drainP_cnt hv2]
        have := lrq_le (S.q c d)
        have := TInvX.len_le h c d
        omega
      · have e : S.q c d = [] := by
          by_cases e : S.q c d = []
          · exact e
          · have := h.lowQ c d e
            exact absurd ⟨this.1, this.2.1, fun e => this.2.2 e.symm⟩ hv2
        rw [e]; simp [lrq]
    have hl := len_run (drainP n 4) (runT n S ((drainP n 4).map cmv)) drainP_vld hz a b
    rw [drainP_cnt ⟨hv.1, hv.2.1, fun e => hv.2.2 e.symm⟩] at hl
    have := TInvX.len_le (runT_inv ((drainP n 4).map cmv) S h) a b
    exact List.length_eq_zero_iff.1 (by omega)
  · by_cases e : (runT n S ((drainP n 8).map cmv)).q a b = []
    · exact e
    · exact absurd (hI.lowQ a b e) hv
/-- Then somebody is in if anybody wants. -/
theorem TInv.goes {n : Nat} {S : TS} (h : TInv n S) (hq : ∀ a b, S.q a b = []) {i : Nat} (hi : S.req i = true) : ∃ j, j < n ∧ S.ins j = true := by
  by_cases hno : ∃ j, j < n ∧ S.ins j = true
  · exact hno
  · exfalso
    have key : ∀ (v : Nat) (i : Nat), S.req i = true → (S.num i).toNat * n + i < v → False := by
      intro v
      induction v with
      | zero => intro i _ hv; omega
      | succ v ih =>
        intro i hi hv
        have hin := h.lowA i (.inl hi)
        have hm := h.misR i (by omega) hi
        have hex : ∃ j, S.own i j ≠ 0 := by
          by_cases e : ∃ j, S.own i j ≠ 0
          · exact e
          · exfalso
            apply hm
            rw [h.misE, sumN_congr (f := fun _ => 0) (fun j _ => by
              by_cases e2 : S.own i j = 0
              · exact e2
              · exact absurd ⟨j, e2⟩ e), sumN_const]
            simp
        obtain ⟨j, hj⟩ := hex
        have ho : S.owe j i = true := by
          cases e : S.owe j i with
          | true => rfl
          | false =>
            exfalso
            apply hj
            unfold TS.own
            rw [hq i j, hq j i, e]
            simp [nA, nZ, b01]
        have hja := h.oweA i j ho
        have hjn := h.lowA j hja
        have hjr : S.req j = true := by
          rcases hja with h1 | h1
          · exact h1
          · exact absurd ⟨j, hjn, h1⟩ hno
        have hb := h.oweP i j ho hjr
        have p1 := h.num0 i (.inl hi)
        have p2 := h.num0 j (.inl hjr)
        refine ih j hjr ?_
        unfold TS.bef at hb
        rcases hb with hb | ⟨hb1, hb2⟩
        · have h3 : (S.num j).toNat + 1 ≤ (S.num i).toNat := by omega
          have h4 : ((S.num j).toNat + 1) * n ≤ (S.num i).toNat * n := Nat.mul_le_mul_right n h3
          rw [Nat.succ_mul] at h4
          omega
        · rw [hb1]; omega
    exact key _ i hi (Nat.lt_succ_self _)

#print axioms drained
#print axioms TInv.goes
end Go.Proofs.Ytejckoffllhjcaa
