/-
  When all has been received: nothing is on the way, and somebody is in the critical section if anybody waits. Plain.
-/
import Derived.Test.YtejckoffllhjcaaKfy
namespace Go.Proofs.Ytejckoffllhjcaa
set_option linter.unusedVariables false

section
variable {n : Nat} {S T : KS} {W K : Int}
/-- How many receipts may still come: h is how far the token may still go. -/
def PotK (n : Nat) (S : KS) (h : Nat) : Int := rqK n S + 2 * tkK n S + 2 * (h : Int) + (n : Int) - cntK n S
def GInv (n : Nat) (S : KS) (k : Int) : Prop := ∃ h, PotK n S h ≤ k ∧
  ((∃ j, j < n ∧ S.ptr j = j ∧ S.ins j = true) ∨ (∃ j, j < n ∧ S.ptr j = j ∧ S.ins j = false ∧ n ≤ h + 1) ∨ (∃ x y r, (1 : Int) ∈ S.q x y ∧ AtK n S y (x :: r) ∧ n ≤ h + (r.length + 2)))
/-- What is ahead of it being served. -/
def GPre (n : Nat) (S : KS) (j : Nat) (k : Int) : Prop := ∃ h r, PotK n S h ≤ k ∧ AtK n S j r ∧ n ≤ h + (r.length + 1)
theorem GPre.serve {j : Nat} {k : Int} (h : GPre n S j k) (hK : KInvX n S j n) (hj : j < n) (hp : S.ptr j = j) (hi : S.ins j = false) (hne : S.row j ≠ []) : GInv n (S.serve j) k := by
  obtain ⟨d, r, h1, h2, h3⟩ := h
  unfold KS.serve
  rw [if_neg (by rw [hp, hi]; simpa using hne)]
  cases hr : S.row j with
  | nil => exact absurd hr hne
  | cons y t =>
    show GInv n (if y = j then _ else S.pass j y) k
    by_cases e : y = j
    · rw [if_pos e]
      subst e
      have ro : ∀ x, x ≠ y → ((S.cut y).into y).row x = S.row x := fun x hx => up1_other _ _ hx
      have c1 : cntK n ((S.cut y).into y) = cntK n S := by
        rw [cnt_at (S := S) hj (fun x hx => ⟨ro x hx, rfl⟩)]
        have a1 : cK S y = 0 := by unfold cK; rw [if_neg (fun h => h.2 hp)]
        have a2 : cK ((S.cut y).into y) y = 0 := by unfold cK; rw [if_neg (fun h => h.2 hp)]
        omega
      refine ⟨d, ?_, .inl ⟨y, hj, hp, up1_same _ _ _⟩⟩
      unfold PotK
      rw [c1]; exact h1
    · rw [if_neg e]
      have hyn := (hK.rowlt j y (by rw [hr]; simp)).2
      have hch : S.q j y = [] := by
        by_cases e2 : S.q j y = []
        · exact e2
        · have := hK.chan j y e2
          exact absurd (hp.symm.trans this.2.2.2.1) this.1
      obtain ⟨p1, p2, p3, p4⟩ := pass_parts hr hch
      have hon := h2.on hK hp hr e
      have hl := hon.len
      rw [List.length_cons] at hl
      have ro : ∀ x, x ≠ j → (S.pass j y).row x = S.row x := fun x hx => by rw [p3, up1_other _ _ hx]
      have rj : (S.pass j y).row j = t := by rw [p3, up1_same]
      have po : ∀ x, x ≠ j → (S.pass j y).ptr x = S.ptr x := fun x hx => by rw [p1, up1_other _ _ hx]
      have pj : (S.pass j y).ptr j = y := by rw [p1, up1_same]
      obtain ⟨l1, l2⟩ := len_set hj hyn _ p4
      have c1 : cntK n (S.pass j y) = cntK n S + if t = [] then 0 else 1 := by
        rw [cnt_at (S := S) hj (fun x hx => ⟨ro x hx, po x hx⟩)]
        have a1 : cK S j = 0 := by unfold cK; rw [if_neg (fun h => h.2 hp)]
        have a2 : cK (S.pass j y) j = if t = [] then 0 else 1 := by
          unfold cK
          rw [rj, pj]
          by_cases e2 : t = []
          · rw [if_pos e2, if_neg (fun h => h.1 e2)]
          · rw [if_neg e2, if_pos ⟨e2, e⟩]
        omega
      refine ⟨d - 1, ?_, .inr (.inr ⟨j, y, r, ?_, hon, by omega⟩)⟩
      · unfold PotK at h1 ⊢
        rw [hch] at l1 l2
        rw [l1, l2, c1]
        by_cases e2 : t = []
        · simp only [if_pos e2, nA, nZ]
          simp
          omega
        · simp only [if_neg e2, nA, nZ]
          simp
          omega
      · rw [p4, up2_same]; split <;> simp
theorem GInv.serve {j : Nat} {k : Int} (h : GInv n S k) (hK : KInvX n S j n) (hj : j < n) : GInv n (S.serve j) k := by
  by_cases hp : S.ptr j = j
  · cases hi : S.ins j with
    | true =>
      unfold KS.serve
      rw [if_pos (.inr (.inl hi))]; exact h
    | false =>
      by_cases hr : S.row j = []
      · unfold KS.serve
        rw [if_pos (.inr (.inr hr))]; exact h
      · refine GPre.serve ?_ hK hj hp hi hr
        obtain ⟨d, h1, ⟨j', a1, a2, a3⟩ | ⟨j', a1, a2, a3, a4⟩ | ⟨x, y, r, h2, _⟩⟩ := h
        · have := hK.hold1 hj a1 hp a2
          rw [this] at hi; rw [hi] at a3; cases a3
        · exact ⟨d, [], h1, AtK.one hj, by simpa using a4⟩
        · exact absurd h2 (hK.away hj hp x y)
  · unfold KS.serve
    rw [if_pos (.inl hp)]; exact h
theorem GInv.popAsk {i j : Nat} {r : List Int} {k : Int} (h : GInv n S k) (hi : i < n) (hj : j < n) (hq : S.q i j = 0 :: r) : GInv n (S.pop i j) (k - 1) := by
  obtain ⟨d, h1, h2⟩ := h
  have p4 : (S.pop i j).q = up2 S.q i j r := by show up2 S.q i j (S.q i j).tail = _; rw [hq]; rfl
  obtain ⟨l1, l2⟩ := len_set hi hj _ p4
  refine ⟨d, ?_, ?_⟩
  · unfold PotK at h1 ⊢
    rw [l1, l2, hq]
    have c1 : cntK n (S.pop i j) = cntK n S := rfl
    rw [c1]
    simp only [nA, nZ]
    simp
    omega
  · rcases h2 with h2 | h2 | ⟨x, y, r', a1, a2, a3⟩
    · exact .inl h2
    · exact .inr (.inl h2)
    · refine .inr (.inr ⟨x, y, r', ?_, a2.same rfl a2.last, a3⟩)
      rw [p4]
      by_cases e : x = i ∧ y = j
      · rw [e.1, e.2, up2_same]
        rw [e.1, e.2, hq] at a1
        rcases List.mem_cons.1 a1 with h | h
        · cases h
        · exact h
      · rw [up2_other _ _ e]; exact a1
theorem GInv.join {j y : Nat} {k : Int} (h : GInv n S k) (hK : KInvX n S n y) (hj : j < n) (hyj : y ≠ j) (hn : S.q y j = []) : GInv n ((S.add j y).ask j) k := by
  obtain ⟨p1, p2, p3, p4⟩ := join_parts S j y
  have hc := cnt_join (n := n) S (y := y) hj
  obtain ⟨l1, l2⟩ := len_join (n := n) S (y := y) hj (hK.ptrlt j hj)
  obtain ⟨d, h1, h2⟩ := h
  refine ⟨d, ?_, ?_⟩
  · unfold PotK at h1 ⊢
    rw [l1, l2, hc]
    split <;> omega
  · rcases h2 with ⟨j', a1, a2, a3⟩ | ⟨j', a1, a2, a3⟩ | ⟨x, b, r', a1, a2, a3⟩
    · exact .inl ⟨j', a1, by rw [p1]; exact a2, by rw [p2]; exact a3⟩
    · exact .inr (.inl ⟨j', a1, by rw [p1]; exact a2, by rw [p2]; exact a3⟩)
    · refine .inr (.inr ⟨x, b, r', ?_, a2.same p1 fun i hi => ?_, a3⟩)
      · rw [p4]
        split
        · by_cases e : x = j ∧ b = S.ptr j
          · rw [e.1, e.2, up2_same]
            rw [e.1, e.2] at a1
            exact List.mem_append.2 (.inl a1)
          · rw [up2_other _ _ e]; exact a1
        · exact a1
      · have e0 : i = x := by injection hi with hi; exact hi.symm
        rw [e0, p3]
        have ha := a2.last x rfl
        by_cases e : b = j
        · rw [e, up1_same]
          rw [e] at ha a1
          intro hb
          rcases List.mem_append.1 hb with h3 | h3
          · exact ha h3
          · have e2 := List.mem_singleton.1 h3
            rw [e2, hn] at a1
            cases a1
        · rw [up1_other _ _ e]; exact ha
theorem GInv.popTok {i j : Nat} {x : Int} {r : List Int} {k : Int} (h : GInv n S k) (hK : KInv n S) (hq : S.q i j = x :: r) (hx : x ≠ 0) : GPre n ((S.pop i j).aim j j) j (k - 1) := by
  obtain ⟨_, hi, hj, hij, hpj, _, _, hrj, _, hx1, _⟩ := KInvX.popTok hK hq hx
  obtain ⟨c1, c2, c3, c4⟩ := popTok_counts hK hq hx
  have hm : (1 : Int) ∈ S.q i j := by rw [hq, hx1]; simp
  obtain ⟨d, h1, ⟨j', a1, a2, _⟩ | ⟨j', a1, a2, _⟩ | ⟨a, b, r', a1, a2, a3⟩⟩ := h
  · exact absurd hm (hK.away a1 a2 i j)
  · exact absurd hm (hK.away a1 a2 i j)
  · obtain ⟨rfl, rfl⟩ := hK.tok1 hm a1
    refine ⟨d, a :: r', ?_, a2.taken, by rw [List.length_cons]; omega⟩
    unfold PotK at h1 ⊢
    rw [c1, c2, c3]
    omega
theorem GInv.come {i j : Nat} {k : Int} (h : GInv n S k) (hI : KInv n S) (hq : S.q i j ≠ []) : GInv n (S.come i j) (k - 1) := by
  cases e : S.q i j with
  | nil => exact absurd e hq
  | cons x r =>
    rw [come_eq e]
    by_cases hx : x = 0
    · subst hx
      rw [if_pos rfl]
      obtain ⟨a0, a1, a2, a3, a4, a5, a6, a7, a8, a9⟩ := KInvX.popAsk hI e
      have hqj : (S.pop i j).q j i = S.q j i := up2_other _ _ (fun e2 => a3 e2.2)
      have hj := KInvX.join a0 a2 a1 (.inr ⟨rfl, a3⟩) a4 (fun e2 => absurd e2 a3) (fun _ => ⟨a5, a6, a7, by rw [hqj]; exact a8⟩)
      exact ((h.popAsk a1 a2 e).join a0 a2 a3 a6).serve hj a2
    · obtain ⟨a0, a1, a2, a3, a4, a5, a6, a7, _⟩ := KInvX.popTok hI e hx
      rw [if_neg hx]
      exact (h.popTok hI e hx).serve a0 a2 (up1_same _ _ _) (by
        cases e2 : S.ins j with
        | false => exact e2
        | true =>
          have := (hI.insp j e2).2.1
          exact absurd (this.symm.trans a4) (fun e3 => a3 e3.symm)) a7
theorem GInv.weak {k k' : Int} (h : GInv n S k) (hk : k ≤ k') : GInv n S k' := by
  obtain ⟨d, h1, h2⟩ := h
  exact ⟨d, by omega, h2⟩
/-- Requests under way are those of processes that wait for the token. -/
theorem rq_le_cnt (h : KInv n S) : rqK n S ≤ cntK n S := by
  unfold rqK cntK sum2
  refine sumN_mono2 fun i hi => ?_
  have key : ∀ m, sumN m (fun j => nZ (S.q i j)) ≤ if S.ptr i < m then cK S i else 0 := fun m => by
    induction m with
    | zero => rw [if_neg (by omega)]; exact Int.le_refl _
    | succ m ih =>
      rw [sumN]
      by_cases e : S.q i m = []
      · rw [e]
        have : nZ ([] : List Int) = 0 := rfl
        have c0 := cK_ge S i
        by_cases e2 : S.ptr i < m
        · rw [if_pos e2] at ih; rw [if_pos (by omega)]; omega
        · rw [if_neg e2] at ih
          split <;> omega
      · obtain ⟨a1, a2, a3, a4, a5, a6⟩ := h.chan i m e
        rw [if_neg (by omega)] at ih
        rw [if_pos (by omega)]
        have : nZ (S.q i m) ≤ cK S i := by
          rcases a6 with a6 | ⟨a6, a7⟩
          · rw [a6]; exact cK_ge S i
          · have : cK S i = 1 := if_pos ⟨a6, by rw [a4]; exact fun e2 => a1 e2.symm⟩
            rw [this]
            rcases a7 with a7 | a7 <;> rw [a7] <;> decide
        omega
  have := key n
  rw [if_pos (h.ptrlt i hi)] at this
  exact this
/-- Eight receipts, at most, among three. -/
theorem PInv.ginv (h : PInv n S W K) (hn : n ≤ 3) : GInv n S 8 := by
  have hr := rq_le_cnt h.inv
  have c0 := cnt_le n S
  have hone := h.inv.one
  have ht : tkK n S = sum2 n (fun i j => nA (S.q i j)) := rfl
  have hh : 0 ≤ sumN n (holdN S) := sumN_nonneg fun i _ => holdN_ge S i
  obtain ⟨ts, _, ⟨⟨j, hj, hp⟩, _⟩ | ⟨x, y, r, h3, h4, _⟩⟩ := h.few
  · have ht0 : tkK n S = 0 := by
      have h2 := le_sumN (n := n) (f := holdN S) (fun i _ => holdN_ge S i) hj
      have e2 : holdN S j = 1 := if_pos hp
      have := tk_ge n S
      omega
    cases hi : S.ins j with
    | true => exact ⟨0, by unfold PotK; omega, .inl ⟨j, hj, hp, hi⟩⟩
    | false => exact ⟨n - 1, by unfold PotK; omega, .inr (.inl ⟨j, hj, hp, hi, by omega⟩)⟩
  · have hl := h4.len
    rw [List.length_cons] at hl
    exact ⟨n - (r.length + 2), by unfold PotK; omega, .inr (.inr ⟨x, y, r, h3, h4, by omega⟩)⟩
theorem GInv.end_ (h : GInv n S 0) (hI : KInv n S) (a b : Nat) : S.q a b = [] := by
  by_cases e : S.q a b = []
  · exact e
  · exfalso
    obtain ⟨d, h1, _⟩ := h
    have c0 := cnt_le n S
    have t0 := tk_ge n S
    have r0 := rq_ge n S
    unfold PotK at h1
    obtain ⟨a1, a2, a3, _⟩ := hI.chan a b e
    have h2 := le_sum2 (n := n) (f := fun i j => nA (S.q i j)) (fun i j => nA_nonneg _) a2 a3
    have h3 := le_sum2 (n := n) (f := fun i j => nZ (S.q i j)) (fun i j => nZ_nonneg _) a2 a3
    have h4 := nAZ (S.q a b)
    have h5 : 0 < (S.q a b).length := List.length_pos_iff.2 e
    have e1 : tkK n S = sum2 n (fun i j => nA (S.q i j)) := rfl
    have e2 : rqK n S = sum2 n (fun i j => nZ (S.q i j)) := rfl
    omega

theorem step_cmvK {p : Nat × Nat} (hp : Vld n p) : (stepK n S (cmv p)).1 = if S.q p.1 p.2 = [] then S else S.come p.1 p.2 := by
  obtain ⟨h1, h2, h3⟩ := hp
  unfold stepK cmv
  simp only
  rw [if_neg (by omega), if_neg (by omega), if_neg (by omega), if_neg (by omega), if_neg (by omega), Int.toNat_natCast, Int.toNat_natCast]
  split <;> rfl
end
def runK (n : Nat) (S : KS) (l : List Mv) : KS := l.foldl (fun S m => (stepK n S m).1) S
theorem runK_append (n : Nat) (S : KS) (l r : List Mv) : runK n S (l ++ r) = runK n (runK n S l) r := by unfold runK; rw [List.foldl_append]
theorem kAt_run (n : Nat) (u : Nat → Nat) (l : List Mv) {k : Nat} (hk : k ≤ l.length) : kAt n u l k = runK n (KS.begin u) (l.take k) := by
  induction k with
  | zero => rfl
  | succ k ih =>
    rw [kAt, ih (by omega), List.take_add_one, runK_append, List.getElem?_eq_getElem (by omega), mv_get l (by omega)]
    rfl
theorem kAt_all (n : Nat) (u : Nat → Nat) (l : List Mv) : kAt n u l l.length = runK n (KS.begin u) l := by rw [kAt_run n u l (Nat.le_refl _), List.take_length]
theorem runK_inv {n : Nat} : ∀ (l : List Mv) (S : KS), (∃ W K, PInv n S W K) → ∃ W K, PInv n (runK n S l) W K
  | [], _, h => h
  | m :: l, S, ⟨W, K, h⟩ => runK_inv l (stepK n S m).1 ⟨_, _, stepK_counts h m⟩
/-- Receipts one after another. -/
theorem GInv.run {n : Nat} : ∀ (P : List (Nat × Nat)) (S : KS) (k : Int), (∀ p ∈ P, Vld n p) → KInv n S → GInv n S k → GInv n (runK n S (P.map cmv)) k ∧ ((∃ p ∈ P, S.q p.1 p.2 ≠ []) → GInv n (runK n S (P.map cmv)) (k - 1))
  | [], S, k, _, _, h => ⟨h, fun ⟨p, hp, _⟩ => by cases hp⟩
  | p :: P, S, k, hv, hI, h => by
    have hP : ∀ q ∈ P, Vld n q := fun q hq => hv q (List.mem_cons_of_mem _ hq)
    have hstep := KInvX.step hI (cmv p)
    show GInv n (runK n (stepK n S (cmv p)).1 (P.map cmv)) k ∧ (_ → GInv n (runK n (stepK n S (cmv p)).1 (P.map cmv)) (k - 1))
    rw [step_cmvK (hv p (by simp))] at hstep ⊢
    by_cases e : S.q p.1 p.2 = []
    · rw [if_pos e] at hstep ⊢
      obtain ⟨h1, h2⟩ := GInv.run P S k hP hI h
      refine ⟨h1, fun ⟨q, hq, hne⟩ => h2 ?_⟩
      rcases List.mem_cons.1 hq with e2 | e2
      · rw [e2] at hne; exact absurd e hne
      · exact ⟨q, e2, hne⟩
    · rw [if_neg e] at hstep ⊢
      obtain ⟨h1, _⟩ := GInv.run P (S.come p.1 p.2) (k - 1) hP hstep (h.come hI e)
      exact ⟨h1.weak (by omega), fun _ => h1⟩
theorem run_quiet {n : Nat} : ∀ (P : List (Nat × Nat)) (S : KS), (∀ p ∈ P, Vld n p) → (∀ a b, S.q a b = []) → runK n S (P.map cmv) = S
  | [], _, _, _ => rfl
  | p :: P, S, hv, hq => by
    show runK n (stepK n S (cmv p)).1 (P.map cmv) = S
    rw [step_cmvK (hv p (by simp)), if_pos (hq _ _)]
    exact run_quiet P S (fun q hq => hv q (List.mem_cons_of_mem _ hq)) hq
theorem rowP_mem {i m b : Nat} (hb : b < m) (hne : i ≠ b) : (i, b) ∈ rowP i m := by
  induction m with
  | zero => omega
  | succ m ih =>
    rw [rowP]
    by_cases e : b = m
    · rw [e] at hne
      rw [if_pos hne, e]; simp
    · have := ih (by omega)
      split
      · exact List.mem_append.2 (.inl this)
      · exact this
theorem rowsP_mem {n m a b : Nat} (ha : a < m) (hb : b < n) (hne : a ≠ b) : (a, b) ∈ rowsP n m := by
  induction m with
  | zero => omega
  | succ m ih =>
    rw [rowsP]
    by_cases e : a = m
    · exact List.mem_append.2 (.inr (by rw [← e]; exact rowP_mem hb hne))
    · exact List.mem_append.2 (.inl (ih (by omega)))
/-- Behind as many rounds nothing is on the way. -/
theorem GInv.drain {n : Nat} (m : Nat) {S : KS} (hI : ∃ W K, PInv n S W K) (k : Nat) (h : (∀ a b, S.q a b = []) ∨ GInv n S ((k + m : Nat) : Int)) : (∀ a b, (runK n S ((drainP n m).map cmv)).q a b = []) ∨ GInv n (runK n S ((drainP n m).map cmv)) (k : Int) := by
  induction m generalizing k with
  | zero => exact h
  | succ m ih =>
    rw [drainP, List.map_append, runK_append]
    have hI2 := runK_inv ((drainP n m).map cmv) S hI
    rcases ih (k + 1) (by rw [show k + 1 + m = k + (m + 1) by omega]; exact h) with h1 | h1
    · left
      rw [run_quiet _ _ (rowsP_vld (Nat.le_refl _)) h1]
      exact h1
    · generalize runK n S ((drainP n m).map cmv) = T at *
      obtain ⟨W, K, hT⟩ := hI2
      obtain ⟨g1, g2⟩ := GInv.run (rowsP n n) T _ (rowsP_vld (Nat.le_refl _)) hT.inv h1
      by_cases e : ∃ p ∈ rowsP n n, T.q p.1 p.2 ≠ []
      · right
        exact (g2 e).weak (by omega)
      · left
        have hq : ∀ a b, T.q a b = [] := fun a b => by
          by_cases e2 : T.q a b = []
          · exact e2
          · obtain ⟨a1, a2, a3, _⟩ := hT.inv.chan a b e2
            exact absurd ⟨(a, b), rowsP_mem a2 a3 a1, e2⟩ e
        rw [run_quiet _ _ (rowsP_vld (Nat.le_refl _)) hq]
        exact hq
/-- When nothing is on the way somebody is in, if anybody waits. -/
theorem PInv.goes {n : Nat} {S : KS} {W K : Int} (h : PInv n S W K) (hq : ∀ a b, S.q a b = []) {i : Nat} (hi : i ∈ S.row i) : ∃ j, j < n ∧ S.ins j = true := by
  obtain ⟨rk, b, hr⟩ := h.rank
  have hn1 : ∀ a b, (1 : Int) ∉ S.q a b := fun a b hm => by rw [hq] at hm; cases hm
  obtain ⟨ts, _, ⟨⟨j, hj, hp⟩, _⟩ | ⟨x, y, r, h3, _⟩⟩ := h.few
  · cases hin : S.ins j with
    | true => exact ⟨j, hj, hin⟩
    | false =>
      exfalso
      have h0 : S.row j = [] := h.inv.idle j (by omega) hj hp hin
      have key : ∀ (v p : Nat), rk p < v → p < n → S.row p ≠ [] → False := by
        intro v
        induction v with
        | zero => intro p hv; omega
        | succ v ih =>
          intro p hv hpn hne
          have hpp : S.ptr p ≠ p := fun e => by
            have := h.inv.hold1 hpn hj e hp
            rw [this] at hne; exact hne h0
          rcases h.inv.out p (by omega) hne hpp with h1 | h1 | h1
          · rw [hq] at h1; cases h1
          · have h2 := (hr p hpn).2 hpp (hn1 _ _)
            exact ih (S.ptr p) (by omega) (h.inv.ptrlt p hpn) (fun e => by rw [e] at h1; cases h1)
          · exact hn1 _ _ h1
      exact key _ i (Nat.lt_succ_self _) (h.inv.rowlt i i hi).1 (fun e => by rw [e] at hi; cases hi)
  · exact absurd h3 (hn1 _ _)

#print axioms GInv.drain
#print axioms PInv.goes
end Go.Proofs.Ytejckoffllhjcaa
