/-
  Edge reversal: sinks, cycles told by taking sinks away, the reversal of sinks, many times. Plain.
-/
import Derived.Test.YtieicimoolegoaaLks
import Derived.Test.YtieicimoolegoaaWgr
namespace Go.Proofs.Ytieicimoolegoaa
open Go.RowKit Go.Maps
set_option linter.unusedVariables false

/-- The ends of the k-th link. -/
def la (l : List Lk) (k : Nat) : Nat := (lat l k).a.toNat
def lb (l : List Lk) (k : Nat) : Nat := (lat l k).b.toNat
/-- Links of N processes, no two of the same two. -/
structure FV (N : Nat) (l : List Lk) : Prop where
  one : 1 ≤ N
  six : N ≤ 6
  ok : LOk (N : Int) l
  once : Once l
section
variable {N : Nat} {l : List Lk}
theorem LOk.at_ (h : LOk (N : Int) l) {k : Nat} (hk : k < l.length) : (lat l k).a = (la l k : Int) ∧ (lat l k).b = (lb l k : Int) ∧ la l k < N ∧ lb l k < N ∧ la l k ≠ lb l k := by
  have := (okL_iff _ _).1 (h _ (lat_mem l hk))
  unfold la lb
  omega
theorem FV.at_ (h : FV N l) {k : Nat} (hk : k < l.length) : (lat l k).a = (la l k : Int) ∧ (lat l k).b = (lb l k : Int) ∧ la l k < N ∧ lb l k < N ∧ la l k ≠ lb l k := h.ok.at_ hk

/-- Leads a link from i to j? -/
def Edg (l : List Lk) (i j : Nat) : Prop := ∃ k, k < l.length ∧ la l k = i ∧ lb l k = j

/-- Those of s from which no link leads to s. -/
def snk (s : Nat) (l : List Lk) : Nat → Nat
  | 0 => s
  | k + 1 => if s.testBit (lb l k) = true then snk s l k &&& (4294967295 - 2 ^ la l k) else snk s l k
theorem subW_lt {s t : Nat} (h : subW s t) (n : Nat) (ht : t < 2 ^ n) : s < 2 ^ n := by
  apply Nat.lt_pow_two_of_testBit
  intro i hi
  cases hb : s.testBit i with
  | false => rfl
  | true => have := bit_lt ht (h i hb); omega
theorem snk_sub (s : Nat) (l : List Lk) (k : Nat) : subW (snk s l k) s := by
  induction k with
  | zero => exact subW.refl _
  | succ k ih =>
    unfold snk
    split
    · intro b hb
      rw [Nat.testBit_and, Bool.and_eq_true] at hb
      exact ih b hb.1
    · exact ih
theorem snk_bit {s : Nat} (hN : N ≤ 6) (h : LOk (N : Int) l) (hs : s < 2 ^ N) (i : Nat) {k : Nat} (hk : k ≤ l.length) : (snk s l k).testBit i = true ↔ (s.testBit i = true ∧ ∀ j, j < k → la l j = i → s.testBit (lb l j) = false) := by
  induction k with
  | zero => simp [snk]
  | succ k ih =>
    have ih := ih (by omega)
    obtain ⟨_, _, h1, h2, _⟩ := h.at_ (show k < l.length by omega)
    have hp := pow_lt (la l k) (by omega)
    unfold snk
    split
    · next e =>
      rw [andNot_bit _ _ _ hp, ih]
      have hpb := pow_bit (la l k) i
      constructor
      · rintro ⟨_, ⟨h3, h4⟩, h5⟩
        refine ⟨h3, fun j hj hji => ?_⟩
        by_cases ej : j = k
        · subst ej
          rw [hpb.2 hji.symm] at h5; cases h5
        · exact h4 j (by omega) hji
      · rintro ⟨h3, h4⟩
        have : i < N := bit_lt hs h3
        refine ⟨by omega, ⟨h3, fun j hj => h4 j (by omega)⟩, ?_⟩
        rw [← Bool.not_eq_true, hpb]
        intro e2
        rw [h4 k (by omega) e2.symm] at e; cases e
    · next e =>
      rw [ih]
      constructor
      · rintro ⟨h3, h4⟩
        refine ⟨h3, fun j hj hji => ?_⟩
        by_cases ej : j = k
        · subst ej; simpa using e
        · exact h4 j (by omega) hji
      · rintro ⟨h3, h4⟩
        exact ⟨h3, fun j hj => h4 j (by omega)⟩
/-- The sinks of s. -/
def low (s : Nat) (l : List Lk) : Nat := snk s l l.length
theorem low_lt {s : Nat} (hs : s < 2 ^ N) (l : List Lk) : low s l < 2 ^ N := subW_lt (snk_sub _ _ _) N hs
theorem low_bit {s : Nat} (hN : N ≤ 6) (h : LOk (N : Int) l) (hs : s < 2 ^ N) (i : Nat) : (low s l).testBit i = true ↔ (s.testBit i = true ∧ ∀ j, Edg l i j → s.testBit j = false) := by
  unfold low
  rw [snk_bit hN h hs i (Nat.le_refl _)]
  constructor
  · rintro ⟨h1, h2⟩
    refine ⟨h1, ?_⟩
    rintro j ⟨k, hk, e1, e2⟩
    rw [← e2]; exact h2 k hk e1
  · rintro ⟨h1, h2⟩
    exact ⟨h1, fun k hk e => h2 _ ⟨k, hk, e, rfl⟩⟩
theorem all_lt (N : Nat) : 2 ^ N - 1 < 2 ^ N := by have : 0 < 2 ^ N := Nat.pow_pos (by omega); omega
theorem all_bit (N i : Nat) : (2 ^ N - 1).testBit i = true ↔ i < N := by rw [Nat.testBit_two_pow_sub_one, decide_eq_true_iff]
/-- The sinks. -/
def lowN (N : Nat) (l : List Lk) : Nat := low (2 ^ N - 1) l
theorem lowN_lt (N : Nat) (l : List Lk) : lowN N l < 2 ^ N := low_lt (all_lt N) l
theorem lowN_bit (hN : N ≤ 6) (h : LOk (N : Int) l) (i : Nat) : (lowN N l).testBit i = true ↔ (i < N ∧ ∀ k, k < l.length → la l k ≠ i) := by
  unfold lowN
  rw [low_bit hN h (all_lt N), all_bit]
  constructor
  · rintro ⟨h1, h2⟩
    refine ⟨h1, fun k hk e => ?_⟩
    have := h2 _ ⟨k, hk, e, rfl⟩
    rw [(all_bit N _).2 (h.at_ hk).2.2.2.1] at this
    cases this
  · rintro ⟨h1, h2⟩
    refine ⟨h1, ?_⟩
    rintro j ⟨k, hk, e1, _⟩
    exact absurd e1 (h2 k hk)
/-- Leads a link of the first k from i? -/
def fromB (l : List Lk) (i k : Nat) : Bool := anyB (fun j => decide ((lat l j).a = (i : Int))) k
def lowB (l : List Lk) (i : Nat) : Bool := !fromB l i l.length
theorem fromB_iff (h : LOk (N : Int) l) (i : Nat) : fromB l i l.length = true ↔ ∃ k, k < l.length ∧ la l k = i := by
  unfold fromB
  rw [anyB_iff]
  constructor
  · rintro ⟨k, hk, e⟩
    rw [decide_eq_true_iff] at e
    have := (h.at_ hk).1
    exact ⟨k, hk, by omega⟩
  · rintro ⟨k, hk, e⟩
    have := (h.at_ hk).1
    exact ⟨k, hk, by rw [decide_eq_true_iff]; omega⟩
theorem lowN_word (hN : N ≤ 6) (h : LOk (N : Int) l) : lowN N l = wordB N (lowB l) := by
  apply Nat.eq_of_testBit_eq
  intro i
  rw [Bool.eq_iff_iff, lowN_bit hN h, wordB_bit, Bool.and_eq_true, decide_eq_true_iff]
  unfold lowB
  have := fromB_iff h i
  constructor
  · rintro ⟨h1, h2⟩
    refine ⟨h1, ?_⟩
    cases e : fromB l i l.length with
    | false => rfl
    | true =>
      obtain ⟨k, hk, e1⟩ := this.1 e
      exact absurd e1 (h2 k hk)
  · rintro ⟨h1, h2⟩
    refine ⟨h1, fun k hk e => ?_⟩
    rw [this.2 ⟨k, hk, e⟩] at h2
    cases h2

/-! Cycles. -/
/-- To whom links lead, as words. -/
def outB (l : List Lk) (i j k : Nat) : Bool := anyB (fun m => decide (la l m = i) && decide (lb l m = j)) k
def outF (l : List Lk) (N k : Nat) (i : Nat) : Nat := wordB N fun j => outB l i j k
def outG (N : Nat) (l : List Lk) : List Nat := (List.range N).map (outF l N l.length)
theorem outG_len (N : Nat) (l : List Lk) : (outG N l).length = N := by simp [outG]
theorem outG_wat (N : Nat) (l : List Lk) {i : Nat} (hi : i < N) : wat (outG N l) i = outF l N l.length i := by
  rw [wat_get _ (by rw [outG_len]; exact hi)]
  simp [outG]
theorem outF_lt (l : List Lk) (N k i : Nat) : outF l N k i < 2 ^ N := wordB_lt _ _
theorem outG_WV (h1 : 1 ≤ N) (h6 : N ≤ 6) (l : List Lk) : WV (outG N l) := by
  refine ⟨by rw [outG_len]; exact h1, by rw [outG_len]; exact h6, fun i => ?_⟩
  rw [outG_len]
  rcases Nat.lt_or_ge i N with hi | hi
  · rw [outG_wat N l hi]; exact outF_lt _ _ _ _
  · rw [wat_out _ (by rw [outG_len]; exact hi)]; exact Nat.pow_pos (by omega)
theorem outG_Wt (h : LOk (N : Int) l) (i j : Nat) : Wt (outG N l) i j ↔ Edg l i j := by
  unfold Wt
  constructor
  · intro e
    have hi : i < N := by have := Wt.of (l := outG N l) (i := i) (j := j) e; rwa [outG_len] at this
    rw [outG_wat N l hi] at e
    unfold outF at e
    rw [wordB_bit, Bool.and_eq_true] at e
    obtain ⟨k, hk, e1⟩ := (anyB_iff _ _).1 e.2
    rw [Bool.and_eq_true, decide_eq_true_iff, decide_eq_true_iff] at e1
    exact ⟨k, hk, e1⟩
  · rintro ⟨k, hk, e1, e2⟩
    have := h.at_ hk
    rw [outG_wat N l (by omega)]
    unfold outF
    rw [wordB_bit, Bool.and_eq_true, decide_eq_true_iff]
    refine ⟨by omega, (anyB_iff _ _).2 ⟨k, hk, ?_⟩⟩
    rw [Bool.and_eq_true, decide_eq_true_iff, decide_eq_true_iff]
    exact ⟨e1, e2⟩
/-- Is there a cycle? -/
def Cyc (N : Nat) (l : List Lk) : Prop := ∃ j, Wtg (outG N l) j j
/-- What rests, sinks taken away k times. -/
def rst (N : Nat) (l : List Lk) : Nat → Nat
  | 0 => 2 ^ N - 1
  | k + 1 => rst N l k &&& (4294967295 - low (rst N l k) l)
theorem rst_succ (N : Nat) (l : List Lk) (k : Nat) : rst N l (k + 1) = rst N l k &&& (4294967295 - low (rst N l k) l) := rfl
theorem rst_lt (N : Nat) (l : List Lk) (k : Nat) : rst N l k < 2 ^ N := by
  induction k with
  | zero => exact all_lt N
  | succ k ih =>
    have : rst N l (k + 1) ≤ rst N l k := Nat.and_le_left
    omega
theorem rst_bit (hN : N ≤ 6) (h : LOk (N : Int) l) (k i : Nat) : (rst N l (k + 1)).testBit i = true ↔ ((rst N l k).testBit i = true ∧ ∃ j, Edg l i j ∧ (rst N l k).testBit j = true) := by
  have h64 := Nat.pow_le_pow_right (n := 2) (by omega) hN
  have hr := rst_lt N l k
  have hl := low_lt (N := N) hr l
  rw [rst_succ, andNot_bit _ _ _ (by omega)]
  have hb := low_bit hN h hr i
  constructor
  · rintro ⟨_, h1, h2⟩
    refine ⟨h1, ?_⟩
    apply Classical.byContradiction
    intro hn
    rw [hb.2 ⟨h1, fun j e => by
      cases e2 : (rst N l k).testBit j with
      | false => rfl
      | true => exact absurd ⟨j, e, e2⟩ hn⟩] at h2
    cases h2
  · rintro ⟨h1, j, e, h2⟩
    refine ⟨by have := bit_lt hr h1; omega, h1, ?_⟩
    rw [← Bool.not_eq_true, hb]
    rintro ⟨_, h3⟩
    rw [h3 j e] at h2; cases h2
theorem rst_sub (hN : N ≤ 6) (h : LOk (N : Int) l) (k : Nat) : subW (rst N l (k + 1)) (rst N l k) := fun i hi => ((rst_bit hN h k i).1 hi).1
/-- Links lead from all that rest to some that rest. -/
def Held (l : List Lk) (s : Nat) : Prop := ∀ i, s.testBit i = true → ∃ j, Edg l i j ∧ s.testBit j = true
theorem rst_held (hN : N ≤ 6) (h : LOk (N : Int) l) : Held l (rst N l N) := by
  have key : ∀ k, Held l (rst N l k) ∨ bcnt (rst N l k) N + k ≤ N := by
    intro k
    induction k with
    | zero => exact .inr (by have := bcnt_le (rst N l 0) N; omega)
    | succ k ih =>
      by_cases hc : Held l (rst N l k)
      · left
        have he : rst N l (k + 1) = rst N l k := by
          apply Nat.eq_of_testBit_eq
          intro i
          rw [Bool.eq_iff_iff, rst_bit hN h]
          exact ⟨fun x => x.1, fun x => ⟨x, hc i x⟩⟩
        rw [he]; exact hc
      · right
        rcases ih with ih | ih
        · exact absurd ih hc
        · have : ∃ i, (rst N l k).testBit i = true ∧ (rst N l (k + 1)).testBit i = false := by
            apply Classical.byContradiction
            intro hn
            refine hc fun i hi => ?_
            cases e : (rst N l (k + 1)).testBit i with
            | true => exact ((rst_bit hN h k i).1 e).2
            | false => exact absurd ⟨i, hi, e⟩ hn
          obtain ⟨i, h1, h2⟩ := this
          have := bcnt_lt (rst_sub hN h k) (bit_lt (rst_lt N l k) h1) h1 h2
          omega
  rcases key N with hk | hk
  · exact hk
  · intro i hi
    have h0 : 0 < bcnt (rst N l N) N := by
      have := bcnt_lt (s := 0) (t := rst N l N) (subW_zero _) (bit_lt (rst_lt N l N) hi) hi (Nat.zero_testBit _)
      omega
    omega
theorem rst_iff (h : FV N l) : rst N l N ≠ 0 ↔ Cyc N l := by
  have hV := outG_WV h.one h.six l
  have hL := outG_len N l
  constructor
  · intro hne
    obtain ⟨i, hi⟩ := Nat.exists_testBit_of_ne_zero hne
    have hiN := bit_lt (rst_lt N l N) hi
    have hf : (fAll (outG N l)).testBit i = false := by
      rw [← Bool.not_eq_true]
      intro hf
      refine fin_ind (T := fun v => (rst N l N).testBit v = false) (fun v s hv hs hp => ?_) i hf ▸ hi |> fun x => by cases x
      rw [← Bool.not_eq_true]
      intro hr
      obtain ⟨j, e, hj⟩ := rst_held h.six h.ok v hr
      rw [hs j ((qAll_iff v s).1 hp j ((outG_Wt h.ok v j).2 e))] at hj
      cases hj
    obtain ⟨j, _, hj⟩ := (stuck_all hV (by omega)).1 hf
    exact ⟨j, hj⟩
  · rintro ⟨j, hj⟩ h0
    have hall : ∀ k i, i < N → (fAll (outG N l)).testBit i = false → (rst N l k).testBit i = true := by
      intro k
      induction k with
      | zero => intro i hi _; exact (all_bit N i).2 hi
      | succ k ih =>
        intro i hi hf
        rw [rst_bit h.six h.ok]
        refine ⟨ih i hi hf, ?_⟩
        have : ¬ ∀ b, Wt (outG N l) i b → (fAll (outG N l)).testBit b = true := fun hb => by
          rw [(fAll_iff (by omega)).2 hb] at hf; cases hf
        apply Classical.byContradiction
        intro hn
        apply this
        intro b hb
        cases e : (fAll (outG N l)).testBit b with
        | true => rfl
        | false => exact absurd ⟨b, (outG_Wt h.ok i b).1 hb, ih b (by have := hV.to hb; omega) e⟩ hn
    have hjN : j < N := by have := hj.lt hV; omega
    have := hall N j hjN ((stuck_all hV (by omega)).2 ⟨j, .refl _, hj⟩)
    rw [h0, Nat.zero_testBit] at this
    cases this
/-- Without a cycle there is a sink. -/
theorem low_some (h : FV N l) (hc : ¬ Cyc N l) : lowN N l ≠ 0 := by
  intro h0
  apply hc
  rw [← rst_iff h]
  have key : ∀ k, rst N l k = 2 ^ N - 1 := by
    intro k
    induction k with
    | zero => rfl
    | succ k ih =>
      rw [rst_succ, ih]
      unfold lowN at h0
      rw [h0]
      apply Nat.eq_of_testBit_eq
      intro i
      have h64 := Nat.pow_le_pow_right (n := 2) (by omega) h.six
      rw [Bool.eq_iff_iff, andNot_bit _ _ _ (by omega), all_bit, Nat.zero_testBit]
      have := h.six
      constructor
      · rintro ⟨_, h1, _⟩; exact h1
      · intro h1; exact ⟨by omega, h1, rfl⟩
  rw [key]
  have := Nat.pow_le_pow_right (n := 2) (by omega) h.one
  omega

/-! Reversal. -/
def swp (x : Lk) : Lk := ⟨x.b, x.a⟩
/-- Turned, if it leads to s. -/
def trn (s : Nat) (x : Lk) : Lk := if s.testBit x.b.toNat = true then swp x else x
def revL (s : Nat) (l : List Lk) : List Lk := l.map (trn s)
theorem revL_len (s : Nat) (l : List Lk) : (revL s l).length = l.length := by simp [revL]
theorem revL_lat (s : Nat) (l : List Lk) {k : Nat} (hk : k < l.length) : lat (revL s l) k = trn s (lat l k) := by
  rw [lat_get _ (by rw [revL_len]; exact hk), lat_get _ hk]
  simp [revL]
theorem revL_on {s k : Nat} (hk : k < l.length) (h : s.testBit (lb l k) = true) : la (revL s l) k = lb l k ∧ lb (revL s l) k = la l k := by
  unfold la lb at *
  rw [revL_lat s l hk]
  unfold trn
  rw [if_pos h]
  exact ⟨rfl, rfl⟩
theorem revL_off {s k : Nat} (hk : k < l.length) (h : s.testBit (lb l k) = false) : la (revL s l) k = la l k ∧ lb (revL s l) k = lb l k := by
  unfold la lb at *
  rw [revL_lat s l hk]
  unfold trn
  rw [if_neg (by rw [h]; decide)]
  exact ⟨rfl, rfl⟩
theorem trn_same (s : Nat) (x : Lk) : SameL x (trn s x) := by
  unfold trn
  split
  · exact .inr ⟨rfl, rfl⟩
  · exact .inl ⟨rfl, rfl⟩
theorem revL_ok {n : Int} (s : Nat) (h : LOk n l) : LOk n (revL s l) := by
  intro x hx
  obtain ⟨y, hy, rfl⟩ := List.mem_map.1 hx
  have := (okL_iff _ _).1 (h y hy)
  rw [okL_iff]
  unfold trn
  split
  · exact ⟨this.2.2.1, this.2.2.2.1, this.1, this.2.1, fun e => this.2.2.2.2 e.symm⟩
  · exact this
theorem revL_once (s : Nat) (h : Once l) : Once (revL s l) := by
  unfold Once at *
  rw [List.pairwise_iff_getElem] at *
  intro i j hi hj hij hs
  have hi' : i < l.length := by rw [revL_len] at hi; exact hi
  have hj' : j < l.length := by rw [revL_len] at hj; exact hj
  have e1 : (revL s l)[i] = trn s l[i] := by simp [revL]
  have e2 : (revL s l)[j] = trn s l[j] := by simp [revL]
  rw [e1, e2] at hs
  refine h i j hi' hj' hij ?_
  have h1 := trn_same s l[i]
  have h2 := trn_same s l[j]
  unfold SameL at *
  omega
theorem revL_FV (s : Nat) (h : FV N l) : FV N (revL s l) := ⟨h.one, h.six, revL_ok s h.ok, revL_once s h.once⟩
theorem revL_fits (s : Nat) (h : LFits l) : LFits (revL s l) := by
  intro x hx
  obtain ⟨y, hy, rfl⟩ := List.mem_map.1 hx
  have := h y hy
  unfold trn
  split
  · exact ⟨this.2, this.1⟩
  · exact this
end
#print axioms rst_iff
#print axioms low_some
end Go.Proofs.Ytieicimoolegoaa
