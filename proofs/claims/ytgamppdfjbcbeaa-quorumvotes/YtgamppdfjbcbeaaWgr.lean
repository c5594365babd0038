/-
  Who waits for whom: who never proceeds, told by closing a set, is who comes to a process that comes to itself (if all must proceed), and who comes to nobody that waits for nobody (if one must).
-/
import Derived.Test.YtgamppdfjbcbeaaWsp
namespace Go.Proofs.Ytgamppdfjbcbeaa
open Go.RowKit Go.Maps
set_option linter.unusedVariables false

/-- For whom process i waits. -/
def wat (l : List Nat) (i : Nat) : Nat := l.getD i 0
theorem wat_get (l : List Nat) {i : Nat} (h : i < l.length) : wat l i = l[i] := by
  unfold wat
  rw [List.getD_eq_getElem?_getD, List.getElem?_eq_getElem h]
  rfl
theorem wat_out (l : List Nat) {i : Nat} (h : l.length ≤ i) : wat l i = 0 := by
  unfold wat
  rw [List.getD_eq_getElem?_getD, List.getElem?_eq_none h]
  rfl
/-- Does i wait for j? -/
def Wt (l : List Nat) (i j : Nat) : Prop := (wat l i).testBit j = true
/-- Waits of one to six processes. -/
structure WV (l : List Nat) : Prop where
  one : 1 ≤ l.length
  six : l.length ≤ 6
  small : ∀ i, wat l i < 2 ^ l.length
theorem WV.u32 {l : List Nat} (h : WV l) (i : Nat) : wat l i < 4294967296 := by
  have h1 := h.small i
  have h2 : 2 ^ l.length ≤ 2 ^ 6 := Nat.pow_le_pow_right (by omega) h.six
  omega
theorem WV.to {l : List Nat} (h : WV l) {i j : Nat} (e : Wt l i j) : j < l.length := bit_lt (h.small i) e
theorem Wt.of {l : List Nat} {i j : Nat} (e : Wt l i j) : i < l.length := by
  rcases Nat.lt_or_ge i l.length with h | h
  · exact h
  · unfold Wt at e; rw [wat_out l h, Nat.zero_testBit] at e; cases e
/-- Whom one comes to, in n steps. -/
def WtoN (l : List Nat) : Nat → Nat → Nat → Prop
  | 0, i, k => i = k
  | n + 1, i, k => ∃ j, Wt l i j ∧ WtoN l n j k
/-- In no step or more. -/
def Wto (l : List Nat) (i k : Nat) : Prop := ∃ n, WtoN l n i k
theorem Wto.refl {l : List Nat} (i : Nat) : Wto l i i := ⟨0, rfl⟩
theorem Wto.step {l : List Nat} {i j k : Nat} (e : Wt l i j) (h : Wto l j k) : Wto l i k := by
  obtain ⟨n, h⟩ := h
  exact ⟨n + 1, j, e, h⟩
theorem Wto.ind {l : List Nat} {motive : (i k : Nat) → Wto l i k → Prop} (refl : ∀ i, motive i i (Wto.refl i)) (step : ∀ {i j k : Nat} (e : Wt l i j) (h : Wto l j k), motive j k h → motive i k (Wto.step e h)) {i k : Nat} (h : Wto l i k) : motive i k h := by
  obtain ⟨n, hn⟩ := h
  induction n generalizing i with
  | zero =>
    have e : i = k := hn
    subst e
    exact refl i
  | succ n ih =>
    obtain ⟨j, e, hj⟩ := hn
    exact step e ⟨n, hj⟩ (ih hj)
/-- In a step or more. -/
def Wtg (l : List Nat) (i k : Nat) : Prop := ∃ j, Wt l i j ∧ Wto l j k
section
variable {l : List Nat}
theorem Wto.trans {i j k : Nat} (h : Wto l i j) (g : Wto l j k) : Wto l i k := by
  induction h using Wto.ind with
  | refl => exact g
  | step e _ ih => exact .step e (ih g)
theorem Wtg.to {i k : Nat} (h : Wtg l i k) : Wto l i k := by obtain ⟨j, e, h⟩ := h; exact .step e h
theorem Wto.tg {i j k : Nat} (h : Wto l i j) (g : Wtg l j k) : Wtg l i k := by
  induction h using Wto.ind with
  | refl => exact g
  | step e _ ih => exact ⟨_, e, (ih g).to⟩
theorem Wtg.on {i j k : Nat} (h : Wtg l i j) (g : Wto l j k) : Wtg l i k := by obtain ⟨m, e, h⟩ := h; exact ⟨m, e, h.trans g⟩
theorem Wto_iff {i k : Nat} : Wto l i k ↔ i = k ∨ Wtg l i k := by
  constructor
  · intro h
    cases h using Wto.ind with
    | refl => exact .inl rfl
    | step e h => exact .inr ⟨_, e, h⟩
  · rintro (rfl | h)
    · exact .refl _
    · exact h.to
theorem Wt.tg {i j : Nat} (e : Wt l i j) : Wtg l i j := ⟨j, e, .refl _⟩
theorem Wtg.lt (hV : WV l) {i k : Nat} (h : Wtg l i k) : k < l.length := by
  obtain ⟨j, e, h⟩ := h
  have := hV.to e
  clear e
  induction h using Wto.ind with
  | refl => exact this
  | step e _ ih => exact ih (hV.to e)

/-- Whom one comes to, by closing. -/
def reach (l : List Nat) (i : Nat) : Nat := rnds (fun j s => s.testBit j) (wat l) l.length l.length (wat l i)
theorem reach_lt (hV : WV l) (i : Nat) : reach l i < 2 ^ l.length := rnds_lt (fun j _ => hV.small j) (hV.small i) _
theorem reach_mono : MonoP (fun j s => s.testBit j) := fun j _ _ h => h j
theorem reach_iff (hV : WV l) (i j : Nat) : (reach l i).testBit j = true ↔ Wtg l i j := by
  constructor
  · have : ∀ b, (reach l i).testBit b = true → Wtg l i b := by
      refine rnds_ind (T := fun s => ∀ b, s.testBit b = true → Wtg l i b) (fun j s hj hs hp b hb => ?_) (fun b hb => Wt.tg hb) _
      rw [Nat.testBit_or, Bool.or_eq_true] at hb
      rcases hb with hb | hb
      · exact hs b hb
      · exact (hs j hp).on (Wt.tg hb).to
    exact this j
  · have hc : ∀ u v, (reach l i).testBit u = true → Wt l u v → (reach l i).testBit v = true := by
      intro u v hu e
      have := rnds_closed reach_mono (fun j _ => hV.small j) (hV.small i) u (Wt.of e)
      change gst _ _ u (reach l i) = reach l i at this
      unfold gst at this
      rw [if_pos hu] at this
      rw [← this]
      exact subW_or_right _ _ v e
    rintro ⟨m, e, h⟩
    have hm : (reach l i).testBit m = true := rnds_up _ _ m e
    clear e
    induction h using Wto.ind with
    | refl => exact hm
    | step e _ ih => exact ih (hc _ _ hm e)

/-- i may proceed once all of s have, if it needs all. -/
def pAll (l : List Nat) (i s : Nat) : Bool := (wat l i &&& (4294967295 - s)) == 0
/-- And if it needs one. -/
def pAny (l : List Nat) (i s : Nat) : Bool := wat l i == 0 || (wat l i &&& s) != 0
theorem pAny_iff (i s : Nat) : pAny l i s = true ↔ wat l i = 0 ∨ ∃ b, Wt l i b ∧ s.testBit b = true := by
  unfold pAny
  rw [Bool.or_eq_true, beq_iff_eq, bne_iff_ne, and_zero]
  rfl
theorem sub_u32 (s : Nat) (b : Nat) (h : 4294967296 ≤ s) : 4294967295 - s = 0 := by omega
/-- It needs all: told of words of 32 bits. -/
theorem pAll_iff (hV : WV l) (i s : Nat) (hs : s < 4294967296) : pAll l i s = true ↔ ∀ b, Wt l i b → s.testBit b = true := by
  unfold pAll
  rw [beq_iff_eq, andNot_zero _ _ (hV.u32 i) hs]
  rfl
/-- The same, of sets: fit to be closed. -/
def qAll (l : List Nat) (i s : Nat) : Bool := (wat l i &&& s) == wat l i
theorem qAll_iff (i s : Nat) : qAll l i s = true ↔ ∀ b, Wt l i b → s.testBit b = true := by
  unfold qAll
  rw [beq_iff_eq]
  constructor
  · intro h b hb
    unfold Wt at hb
    rw [← h, Nat.testBit_and, Bool.and_eq_true] at hb
    exact hb.2
  · intro h
    apply Nat.eq_of_testBit_eq
    intro b
    rw [Nat.testBit_and]
    cases e : (wat l i).testBit b with
    | false => rfl
    | true => rw [h b e]; rfl
theorem pq_all (hV : WV l) (i s : Nat) (hs : s < 4294967296) : pAll l i s = qAll l i s := by
  rw [Bool.eq_iff_iff, pAll_iff hV i s hs, qAll_iff]
theorem qAll_mono : MonoP (qAll l) := fun j s t h e => (qAll_iff j t).2 fun b hb => h b ((qAll_iff j s).1 e b hb)
theorem pAny_mono : MonoP (pAny l) := fun j s t h e => (pAny_iff j t).2 (by
  rcases (pAny_iff j s).1 e with h0 | ⟨b, h1, h2⟩
  · exact .inl h0
  · exact .inr ⟨b, h1, h b h2⟩)

/-- Who has proceeded, in the end. -/
def fin (p : Nat → Nat → Bool) (n : Nat) : Nat := rnds p (fun j => 2 ^ j) n n 0
theorem two_pow_lt {n : Nat} (j : Nat) (hj : j < n) : 2 ^ j < 2 ^ n := Nat.pow_lt_pow_right (by omega) hj
theorem fin_lt (p : Nat → Nat → Bool) (n : Nat) : fin p n < 2 ^ n := rnds_lt two_pow_lt (Nat.pow_pos (by omega)) _
theorem fin_closed {p : Nat → Nat → Bool} (hp : MonoP p) {n j : Nat} (hj : j < n) (h : p j (fin p n) = true) : (fin p n).testBit j = true := by
  have := rnds_closed (n := n) hp two_pow_lt (Nat.pow_pos (by omega) : 0 < 2 ^ n) j hj
  change gst p _ j (fin p n) = fin p n at this
  unfold gst at this
  rw [if_pos h] at this
  rw [← this]
  exact subW_or_right _ _ j ((pow_bit j j).2 rfl)
/-- What holds of whoever may proceed when it holds of all that have, holds of all that proceed. -/
theorem fin_ind {p : Nat → Nat → Bool} {n : Nat} {T : Nat → Prop} (hT : ∀ j s, j < n → (∀ b, s.testBit b = true → T b) → p j s = true → T j) (i : Nat) (h : (fin p n).testBit i = true) : T i := by
  have : ∀ b, (fin p n).testBit b = true → T b := by
    refine rnds_ind (T := fun s => ∀ b, s.testBit b = true → T b) (fun j s hj hs hp b hb => ?_) (fun b hb => by rw [Nat.zero_testBit] at hb; cases hb) _
    rw [Nat.testBit_or, Bool.or_eq_true] at hb
    rcases hb with hb | hb
    · exact hs b hb
    · rw [(pow_bit j b).1 hb]; exact hT j s hj hs hp
  exact this i h
/-- Who has proceeded may. -/
theorem fin_may {p : Nat → Nat → Bool} (hp : MonoP p) {n i : Nat} (h : (fin p n).testBit i = true) : i < n ∧ p i (fin p n) = true := by
  have : ∀ s, s = fin p n → ∀ b, s.testBit b = true → b < n ∧ p b s = true := by
    have h2 : (fun s => ∀ b, s.testBit b = true → b < n ∧ p b s = true) (fin p n) := by
      refine rnds_ind (T := fun s => ∀ b, s.testBit b = true → b < n ∧ p b s = true) (fun j s hj hs hpj b hb => ?_) (fun b hb => by rw [Nat.zero_testBit] at hb; cases hb) _
      rw [Nat.testBit_or, Bool.or_eq_true] at hb
      have hb2 : b < n ∧ p b s = true := by
        rcases hb with hb | hb
        · exact hs b hb
        · rw [(pow_bit j b).1 hb]; exact ⟨hj, hpj⟩
      exact ⟨hb2.1, hp b _ _ (subW_or_left _ _) hb2.2⟩
    intro s e
    rw [e]
    exact h2
  exact this _ rfl i h
theorem fin_iff {p : Nat → Nat → Bool} (hp : MonoP p) {n i : Nat} (hi : i < n) : (fin p n).testBit i = true ↔ p i (fin p n) = true :=
  ⟨fun h => (fin_may hp h).2, fin_closed hp hi⟩

abbrev fAll (l : List Nat) : Nat := fin (qAll l) l.length
abbrev fAny (l : List Nat) : Nat := fin (pAny l) l.length
theorem fAll_iff {i : Nat} (hi : i < l.length) : (fAll l).testBit i = true ↔ ∀ b, Wt l i b → (fAll l).testBit b = true := by
  rw [fin_iff qAll_mono hi, qAll_iff]
theorem fAny_iff {i : Nat} (hi : i < l.length) : (fAny l).testBit i = true ↔ wat l i = 0 ∨ ∃ b, Wt l i b ∧ (fAny l).testBit b = true := by
  rw [fin_iff pAny_mono hi, pAny_iff]
/-- Who never proceeds, if all must, comes to a process that comes to itself. -/
theorem stuck_all (hV : WV l) {i : Nat} (hi : i < l.length) : (fAll l).testBit i = false ↔ ∃ j, Wto l i j ∧ Wtg l j j := by
  constructor
  · intro h
    apply Classical.byContradiction
    intro hn
    have key : ∀ m v, bcnt (reach l v) l.length < m → Wto l i v → v < l.length → (fAll l).testBit v = true := by
      intro m
      induction m with
      | zero => intro v hv; omega
      | succ m ih =>
        intro v hv hiv hvl
        rw [fAll_iff hvl]
        intro b hb
        have hib : Wto l i b := hiv.trans (Wt.tg hb).to
        have hsub : subW (reach l b) (reach l v) := fun c hc => (reach_iff hV v c).2 ((Wt.tg hb).on ((reach_iff hV b c).1 hc).to)
        have h1 : (reach l v).testBit b = true := (reach_iff hV v b).2 (Wt.tg hb)
        have h2 : (reach l b).testBit b = false := by
          rw [← Bool.not_eq_true, reach_iff hV]
          intro hc
          exact hn ⟨b, hib, hc⟩
        have := bcnt_lt hsub (hV.to hb) h1 h2
        exact ih b (by omega) hib (hV.to hb)
    rw [key _ i (Nat.lt_succ_self _) (.refl _) hi] at h
    cases h
  · rintro ⟨j, h1, h2⟩
    rw [← Bool.not_eq_true]
    intro hf
    refine fin_ind (T := fun v => ¬ Wto l v j) (fun v s hv hs hp hw => ?_) i hf h1
    obtain ⟨u, e, hu⟩ := hw.tg h2
    exact hs u ((qAll_iff v s).1 hp u e) hu
/-- Who never proceeds, if one must, comes to nobody that waits for nobody. -/
theorem stuck_any (hV : WV l) {i : Nat} (hi : i < l.length) : (fAny l).testBit i = true ↔ ∃ j, j < l.length ∧ Wto l i j ∧ wat l j = 0 := by
  constructor
  · intro h
    refine fin_ind (T := fun v => ∃ j, j < l.length ∧ Wto l v j ∧ wat l j = 0) (fun v s hv hs hp => ?_) i h
    rcases (pAny_iff v s).1 hp with h0 | ⟨b, e, hb⟩
    · exact ⟨v, hv, .refl _, h0⟩
    · obtain ⟨j, h1, h2, h3⟩ := hs b hb
      exact ⟨j, h1, .step e h2, h3⟩
  · rintro ⟨j, hj, h1, h2⟩
    clear hi
    induction h1 using Wto.ind with
    | refl => exact (fAny_iff hj).2 (.inl h2)
    | step e _ ih => exact (fAny_iff (Wt.of e)).2 (.inr ⟨_, e, ih hj h2⟩)
/-- Who proceeds if all must proceeds if one must. -/
theorem all_any {i : Nat} (h : (fAll l).testBit i = true) : (fAny l).testBit i = true := by
  refine fin_ind (T := fun v => (fAny l).testBit v = true) (fun v s hv hs hp => ?_) i h
  rw [fAny_iff hv]
  by_cases e : wat l v = 0
  · exact .inl e
  · obtain ⟨b, hb⟩ := Nat.exists_testBit_of_ne_zero e
    exact .inr ⟨b, hb, hs b ((qAll_iff v s).1 hp b hb)⟩
/-- Who waits for no fewer proceeds no sooner. -/
theorem all_more {l' : List Nat} (hlen : l'.length = l.length) (hm : ∀ i b, Wt l i b → Wt l' i b) {i : Nat} (h : (fAll l').testBit i = true) : (fAll l).testBit i = true := by
  refine fin_ind (T := fun v => (fAll l).testBit v = true) (fun v s hv hs hp => ?_) i h
  rw [fAll_iff (by omega)]
  intro b hb
  exact hs b ((qAll_iff v s).1 hp b (hm v b hb))
/-- Who waits for itself never proceeds. -/
theorem all_own {i : Nat} (e : Wt l i i) : (fAll l).testBit i = false := by
  rw [← Bool.not_eq_true]
  intro h
  refine fin_ind (T := fun v => v ≠ i) (fun v s hv hs hp hvi => ?_) i h rfl
  subst hvi
  exact hs v ((qAll_iff v s).1 hp v e) rfl

/-- All of n that are not in s. -/
def nev (n s : Nat) : Nat := (2 ^ n - 1) &&& (4294967295 - s)
theorem nev_bit {n s : Nat} (hn : n ≤ 6) (hs : s < 2 ^ n) (i : Nat) : (nev n s).testBit i = true ↔ (i < n ∧ s.testBit i = false) := by
  have h2 : 2 ^ n ≤ 2 ^ 6 := Nat.pow_le_pow_right (by omega) hn
  unfold nev
  rw [andNot_bit _ _ _ (by omega), Nat.testBit_two_pow_sub_one, decide_eq_true_iff]
  constructor
  · rintro ⟨_, h⟩; exact h
  · intro h; exact ⟨by omega, h⟩
theorem nev_lt {n s : Nat} (hn : n ≤ 6) (hs : s < 2 ^ n) : nev n s < 2 ^ n := by
  have hp : 0 < 2 ^ n := Nat.pow_pos (by omega)
  have : nev n s ≤ 2 ^ n - 1 := Nat.and_le_left
  omega
theorem nev_word {n s : Nat} (hn : n ≤ 6) (hs : s < 2 ^ n) {f : Nat → Bool} (h : ∀ i, i < n → (s.testBit i = false ↔ f i = true)) : nev n s = wordB n f := by
  apply Nat.eq_of_testBit_eq
  intro i
  rw [Bool.eq_iff_iff, nev_bit hn hs, wordB_bit, Bool.and_eq_true, decide_eq_true_iff]
  exact ⟨fun ⟨a, b⟩ => ⟨a, (h i a).1 b⟩, fun ⟨a, b⟩ => ⟨a, (h i a).2 b⟩⟩

/-- Does j come to itself, and i to it? -/
def sAll (l : List Nat) (i j : Nat) : Bool := (reach l i ||| 2 ^ i).testBit j && (reach l j).testBit j
/-- Does j wait for nobody, and i come to it? -/
def sAny (l : List Nat) (i j : Nat) : Bool := (reach l i ||| 2 ^ i).testBit j && wat l j == 0
def gAll (l : List Nat) (i : Nat) : Bool := anyB (sAll l i) l.length
def gAny (l : List Nat) (i : Nat) : Bool := !anyB (sAny l i) l.length
theorem reach_or (hV : WV l) (i j : Nat) : (reach l i ||| 2 ^ i).testBit j = true ↔ Wto l i j := by
  rw [Nat.testBit_or, Bool.or_eq_true, reach_iff hV, pow_bit, Wto_iff]
  constructor
  · rintro (h | h)
    · exact .inr h
    · exact .inl h.symm
  · rintro (h | h)
    · exact .inr h.symm
    · exact .inl h
theorem nev_all (hV : WV l) : nev l.length (fAll l) = wordB l.length (gAll l) := by
  refine nev_word hV.six (fin_lt _ _) fun i hi => ?_
  rw [stuck_all hV hi]
  unfold gAll
  rw [anyB_iff]
  unfold sAll
  constructor
  · rintro ⟨j, h1, h2⟩
    exact ⟨j, h2.lt hV, by rw [Bool.and_eq_true, reach_or hV, reach_iff hV]; exact ⟨h1, h2⟩⟩
  · rintro ⟨j, _, h⟩
    rw [Bool.and_eq_true, reach_or hV, reach_iff hV] at h
    exact ⟨j, h⟩
theorem nev_any (hV : WV l) : nev l.length (fAny l) = wordB l.length (gAny l) := by
  refine nev_word hV.six (fin_lt _ _) fun i hi => ?_
  have h := stuck_any hV hi
  have hg : anyB (sAny l i) l.length = true ↔ ∃ j, j < l.length ∧ Wto l i j ∧ wat l j = 0 := by
    rw [anyB_iff]
    unfold sAny
    constructor
    · rintro ⟨j, hj, h⟩
      rw [Bool.and_eq_true, reach_or hV, beq_iff_eq] at h
      exact ⟨j, hj, h⟩
    · rintro ⟨j, hj, h⟩
      exact ⟨j, hj, by rw [Bool.and_eq_true, reach_or hV, beq_iff_eq]; exact h⟩
  unfold gAny
  rw [← hg] at h
  have h' := Bool.eq_iff_iff.2 h
  rw [h']
  cases anyB (sAny l i) l.length <;> simp
end
#print axioms nev_all
#print axioms nev_any
#print axioms all_more
end Go.Proofs.Ytgamppdfjbcbeaa
