/-
  How many cuts are whole: all of them in one list; those one event larger; each is reached from the empty one: plain.
-/
import Derived.Test.YtpofmhlmaejmoaaCut
import Derived.Test.YtpofmhlmaejmoaaLin
namespace Go.Proofs.Ytpofmhlmaejmoaa

/-- The number of events of a process. -/
def tot (l : List Ev) (p : Nat) : Nat := own l (p : Int) l.length
/-- Numbers, as ints. -/
def up (F : Nat → Nat) : Nat → Int := fun p => (F p : Int)
/-- A function turned at one place. -/
def upN (F : Nat → Nat) (i k : Nat) : Nat → Nat := fun x => if x = i then k else F x
theorem upN_same (F : Nat → Nat) (i k : Nat) : upN F i k i = k := by simp [upN]
theorem upN_other (F : Nat → Nat) {i x : Nat} (k : Nat) (h : x ≠ i) : upN F i k x = F x := by simp [upN, h]
/-- One event more of process q. -/
def bump (F : Nat → Nat) (q : Nat) : Nat → Nat := upN F q (F q + 1)

open Classical in
/-- All whole cuts that are F but for processes i to i + m - 1. -/
noncomputable def whF (l : List Ev) : Nat → Nat → (Nat → Nat) → List (Nat → Nat)
  | 0, _, F => if WholeC l (up F) then [F] else []
  | m + 1, i, F => (List.range (tot l i + 1)).flatMap fun k => whF l m (i + 1) (upN F i k)

theorem whF_mem (l : List Ev) : ∀ (m i : Nat) (F G : Nat → Nat), G ∈ whF l m i F ↔ (∀ x, x < i ∨ i + m ≤ x → G x = F x) ∧ (∀ x, i ≤ x → x < i + m → G x ≤ tot l x) ∧ WholeC l (up G) := by
  intro m
  induction m with
  | zero =>
    intro i F G
    unfold whF
    constructor
    · intro h
      split at h
      · rename_i hw
        have e : G = F := by simpa using h
        subst e
        exact ⟨fun _ _ => rfl, fun x h1 h2 => by omega, hw⟩
      · simp at h
    · rintro ⟨h1, _, h3⟩
      have e : G = F := funext fun x => h1 x (by omega)
      subst e
      rw [if_pos h3]
      simp
  | succ m ih =>
    intro i F G
    unfold whF
    rw [List.mem_flatMap]
    constructor
    · rintro ⟨k, hk, h⟩
      obtain ⟨h1, h2, h3⟩ := (ih _ _ _).1 h
      have hk' := List.mem_range.1 hk
      refine ⟨fun x hx => ?_, fun x hx1 hx2 => ?_, h3⟩
      · rw [h1 x (by omega), upN_other _ _ (by omega)]
      · by_cases e : x = i
        · subst e
          rw [h1 x (by omega), upN_same]
          omega
        · exact h2 x (by omega) (by omega)
    · rintro ⟨h1, h2, h3⟩
      have := h2 i (by omega) (by omega)
      refine ⟨G i, List.mem_range.2 (by omega), (ih _ _ _).2 ⟨fun x hx => ?_, fun x hx1 hx2 => h2 x (by omega) (by omega), h3⟩⟩
      by_cases e : x = i
      · subst e; rw [upN_same]
      · rw [upN_other _ _ e]; exact h1 x (by omega)
theorem whF_nodup (l : List Ev) : ∀ (m i : Nat) (F : Nat → Nat), (whF l m i F).Nodup := by
  intro m
  induction m with
  | zero =>
    intro i F
    unfold whF
    split <;> simp
  | succ m ih =>
    intro i F
    unfold whF
    rw [List.Nodup, List.pairwise_flatMap]
    refine ⟨fun k _ => ih _ _, ?_⟩
    refine pairs_of (R := fun a b => a ≠ b) List.nodup_range fun a b hab x hx y hy e => hab ?_
    subst e
    have h1 := ((whF_mem l m _ _ _).1 hx).1 i (by omega)
    have h2 := ((whF_mem l m _ _ _).1 hy).1 i (by omega)
    rw [upN_same] at h1 h2
    omega

/-- The number of all cuts, whole or not. -/
def prodR (l : List Ev) : Nat → Nat → Nat
  | 0, _ => 1
  | m + 1, i => (tot l i + 1) * prodR l m (i + 1)
def prodT (l : List Ev) : Nat → Nat
  | 0 => 1
  | k + 1 => prodT l k * (tot l k + 1)
theorem prodT_R (l : List Ev) : ∀ m i, prodT l i * prodR l m i = prodT l (i + m) := by
  intro m
  induction m with
  | zero => intro i; simp [prodR]
  | succ m ih =>
    intro i
    have := ih (i + 1)
    rw [prodR, ← Nat.mul_assoc, ← show prodT l (i + 1) = prodT l i * (tot l i + 1) from rfl, this]
    congr 1
    omega
theorem flat_le {α β : Type} (f : α → List β) (b : Nat) : ∀ (as : List α), (∀ a, (f a).length ≤ b) → (as.flatMap f).length ≤ as.length * b := by
  intro as h
  induction as with
  | nil => simp
  | cons a r ih =>
    rw [List.flatMap_cons, List.length_append, List.length_cons, Nat.succ_mul]
    have := h a
    omega
theorem whF_le (l : List Ev) : ∀ (m i : Nat) (F : Nat → Nat), (whF l m i F).length ≤ prodR l m i := by
  intro m
  induction m with
  | zero =>
    intro i F
    unfold whF prodR
    split <;> simp
  | succ m ih =>
    intro i F
    unfold whF prodR
    have := flat_le (fun k => whF l m (i + 1) (upN F i k)) (prodR l m (i + 1)) (List.range (tot l i + 1)) fun k => ih _ _
    rw [List.length_range] at this
    exact this
theorem prodT_le (l : List Ev) (h : l.length ≤ 30) : ∀ k, prodT l k ≤ 31 ^ k := by
  intro k
  induction k with
  | zero => simp [prodT]
  | succ k ih =>
    have h1 : tot l k ≤ 30 := Nat.le_trans (own_le l (k : Int) l.length) h
    rw [prodT, Nat.pow_succ]
    exact Nat.mul_le_mul ih (by omega)
theorem prodT_small (l : List Ev) (h : l.length ≤ 30) {k : Nat} (hk : k ≤ 6) : 1 ≤ prodT l k ∧ prodT l k ≤ 887503681 := by
  constructor
  · clear hk
    induction k with
    | zero => simp [prodT]
    | succ k ih =>
      rw [prodT]
      exact Nat.mul_le_mul ih (show 1 ≤ tot l k + 1 by omega)
  · have h1 := prodT_le l h k
    have h2 : 31 ^ k ≤ 31 ^ 6 := Nat.pow_le_pow_right (by omega) hk
    omega

/-- A whole cut. -/
structure CutF (l : List Ev) (c : Nat) (F : Nat → Nat) : Prop where
  off : ∀ x, c ≤ x → F x = 0
  le : ∀ x, x < c → F x ≤ tot l x
  whole : WholeC l (up F)
noncomputable def cutsL (l : List Ev) (c : Nat) : List (Nat → Nat) := whF l c 0 (fun _ => 0)
theorem cutsL_mem (l : List Ev) (c : Nat) (F : Nat → Nat) : F ∈ cutsL l c ↔ CutF l c F := by
  unfold cutsL
  rw [whF_mem]
  constructor
  · rintro ⟨h1, h2, h3⟩
    exact ⟨fun x hx => h1 x (by omega), fun x hx => h2 x (by omega) (by omega), h3⟩
  · rintro ⟨h1, h2, h3⟩
    exact ⟨fun x hx => h1 x (by omega), fun x _ hx => h2 x (by omega), h3⟩
theorem cutsL_nodup (l : List Ev) (c : Nat) : (cutsL l c).Nodup := whF_nodup _ _ _ _
theorem cutsL_le (l : List Ev) (c : Nat) : (cutsL l c).length ≤ prodT l c := by
  have h1 := whF_le l c 0 (fun _ => 0)
  have h2 := prodT_R l c 0
  rw [Nat.zero_add] at h2
  have h3 : prodT l 0 = 1 := rfl
  rw [h3, Nat.one_mul] at h2
  rw [← h2]
  exact h1
theorem fun_sub {a b : List (Nat → Nat)} (h : a.Nodup) (hs : ∀ x ∈ a, x ∈ b) : a.length ≤ b.length := by
  letI : DecidableEq (Nat → Nat) := fun a b => Classical.propDecidable (a = b)
  exact nodup_sub a b h hs
theorem CutF.ranged {l : List Ev} {c : Nat} {F : Nat → Nat} (h : CutF l c F) : Ranged l c (up F) := fun p hp => by
  have := h.le p hp
  unfold up
  unfold tot at this
  omega
theorem CutF.zero (l : List Ev) (c : Nat) : CutF l c (fun _ => 0) := ⟨fun _ _ => rfl, fun _ _ => Nat.zero_le _, whole_zero l⟩

theorem bump_same (F : Nat → Nat) (q : Nat) : bump F q q = F q + 1 := upN_same _ _ _
theorem bump_other (F : Nat → Nat) {q x : Nat} (h : x ≠ q) : bump F q x = F x := upN_other _ _ h
theorem bump_ge (F : Nat → Nat) (q x : Nat) : F x ≤ bump F q x := by
  by_cases e : x = q
  · rw [e, bump_same]; omega
  · rw [bump_other F e]; omega
/-- When one event more leaves a whole cut whole. -/
theorem bump_iff {c : Nat} {l : List Ev} (g : Good (c : Int) l) {F : Nat → Nat} (h : CutF l c F) {q : Nat} (hq : q < c) :
    CutF l c (bump F q) ↔ F q < tot l q ∧ ∀ r : Nat, r < c → (vec l ((hist l (q : Int) l.length).getD (F q) 0) (r : Int) : Int) ≤ (bump F q r : Int) := by
  have key : ∀ p, p ≠ q → lastC l (up (bump F q)) p = lastC l (up F) p := fun p hp => by
    unfold lastC up
    rw [bump_other F hp]
  have keq : lastC l (up (bump F q)) q = (hist l (q : Int) l.length).getD (F q) 0 := by
    unfold lastC up
    rw [bump_same]
    congr 1
  constructor
  · intro hb
    have h1 := hb.le q hq
    rw [bump_same] at h1
    refine ⟨by omega, fun r hr => ?_⟩
    have h2 := (whole_last g hb.ranged).1 hb.whole q hq (by unfold up; rw [bump_same]; omega) r hr
    rw [keq] at h2
    exact h2
  · rintro ⟨h1, h2⟩
    have hr : ∀ x, x < c → bump F q x ≤ tot l x := fun x hx => by
      by_cases e : x = q
      · rw [e, bump_same]; omega
      · rw [bump_other F e]; exact h.le x hx
    have hrg : Ranged l c (up (bump F q)) := fun p hp => by
      have := hr p hp
      unfold up
      unfold tot at this
      omega
    refine ⟨fun x hx => by rw [bump_other F (by omega)]; exact h.off x hx, hr, (whole_last g hrg).2 fun p hp h0 r hrc => ?_⟩
    by_cases e : p = q
    · subst e
      rw [keq]
      exact h2 r hrc
    · rw [key p e]
      have h3 : 0 < up F p := by
        unfold up at h0 ⊢
        rw [bump_other F e] at h0
        exact h0
      have h4 := (whole_last g h.ranged).1 h.whole p hp h3 r hrc
      have h5 := bump_ge F q r
      unfold up at h4 ⊢
      omega

theorem max_of (P : Nat → Prop) : ∀ n i, i < n → P i → ∃ j, j < n ∧ P j ∧ ∀ x, x < n → P x → x ≤ j := by
  intro n
  induction n with
  | zero => intro i hi; omega
  | succ n ih =>
    intro i hi hp
    by_cases hn : P n
    · exact ⟨n, by omega, hn, fun x hx _ => by omega⟩
    · have : i ≠ n := fun e => hn (e ▸ hp)
      obtain ⟨j, h1, h2, h3⟩ := ih i (by omega) hp
      refine ⟨j, by omega, h2, fun x hx hpx => ?_⟩
      have : x ≠ n := fun e => hn (e ▸ hpx)
      exact h3 x (by omega) hpx
/-- A cut that is not empty is one event more than another one. -/
theorem cut_down {c : Nat} {l : List Ev} (g : Good (c : Int) l) {F : Nat → Nat} (h : CutF l c F) (h0 : F ≠ fun _ => 0) : ∃ G q, q < c ∧ CutF l c G ∧ F = bump G q := by
  obtain ⟨p, hp0⟩ : ∃ p, 0 < F p := by
    rcases Classical.em (∃ p, 0 < F p) with h1 | h1
    · exact h1
    · exact absurd (funext fun x => by
        rcases Nat.eq_zero_or_pos (F x) with h2 | h2
        · exact h2
        · exact absurd ⟨x, h2⟩ h1) h0
  have hpc : p < c := by
    rcases Nat.lt_or_ge p c with h1 | h1
    · exact h1
    · have := h.off p h1; omega
  obtain ⟨e1, e2, e3⟩ := lastC_at h.ranged hpc (by unfold up; omega)
  obtain ⟨j, hj, hin, hmax⟩ := max_of (fun i => inC l (up F) i = true) l.length _ e1 ((inC_at e2).2 (by omega))
  obtain ⟨q, hq, he⟩ := g.procN hj
  have hjF := (inC_at he).1 hin
  have hFq : (own l (q : Int) j : Int) = up F q - 1 := by
    obtain ⟨a1, a2, a3⟩ := lastC_at h.ranged hq (show 0 < up F q by omega)
    have a4 := hmax _ a1 ((inC_at a2).2 (by omega))
    have a5 := own_mono l (q : Int) a4
    omega
  have hpos : 0 < F q := by unfold up at hFq; omega
  have hin' : ∀ i, i < l.length → (inC l (up (upN F q (F q - 1))) i = true ↔ inC l (up F) i = true ∧ i ≠ j) := fun i hi => by
    obtain ⟨r, hr, hre⟩ := g.procN hi
    rw [inC_at hre, inC_at hre]
    by_cases e : r = q
    · subst e
      unfold up at hFq ⊢
      rw [upN_same]
      constructor
      · intro h1
        refine ⟨by omega, fun e => ?_⟩
        subst e
        omega
      · rintro ⟨h1, h2⟩
        rcases Nat.lt_trichotomy i j with h3 | h3 | h3
        · have := own_lt l h3 hre
          omega
        · exact absurd h3 h2
        · have := own_lt l h3 he
          omega
    · unfold up
      rw [upN_other _ _ e]
      constructor
      · intro h1
        refine ⟨h1, fun e' => e ?_⟩
        subst e'
        rw [hre] at he
        omega
      · exact fun h1 => h1.1
  refine ⟨upN F q (F q - 1), q, hq, ⟨fun x hx => by rw [upN_other _ _ (by omega)]; exact h.off x hx, fun x hx => ?_, fun a b ha hb h1 h2 => ?_⟩, ?_⟩
  · by_cases e : x = q
    · subst e
      rw [upN_same]
      have := h.le x hx
      omega
    · rw [upN_other _ _ e]; exact h.le x hx
  · rw [hin' a ha]
    rw [hin' b hb] at h1
    refine ⟨h.whole a b ha hb h1.1 h2, fun e => ?_⟩
    subst e
    have h3 := h2.lt
    have h4 := hmax b hb h1.1
    omega
  · funext x
    by_cases e : x = q
    · subst e
      rw [bump_same, upN_same]
      omega
    · rw [bump_other _ e, upN_other _ _ e]

/-- How many events a cut has. -/
def szF (c : Nat) (F : Nat → Nat) : Nat := ((List.range c).map F).sum
theorem sz_bump {c q : Nat} (hq : q < c) (F : Nat → Nat) : szF c (bump F q) = szF c F + 1 := by
  unfold szF
  induction c with
  | zero => omega
  | succ c ih =>
    rw [List.range_succ, List.map_append, List.map_append, List.sum_append, List.sum_append]
    simp only [List.map_cons, List.map_nil, List.sum_cons, List.sum_nil]
    by_cases e : q = c
    · subst e
      rw [bump_same]
      have : (List.range q).map (bump F q) = (List.range q).map F := List.map_congr_left fun x hx => bump_other F (by have := List.mem_range.1 hx; omega)
      rw [this]
      omega
    · rw [ih (by omega), bump_other F (by omega)]
      omega
/-- What holds the empty cut, and with each cut all that are one event more, holds all. -/
theorem all_cuts {c : Nat} {l : List Ev} (g : Good (c : Int) l) {ks : List (Nat → Nat)} (h0 : (fun _ => 0) ∈ ks) (hs : ∀ F ∈ ks, ∀ q, q < c → CutF l c (bump F q) → bump F q ∈ ks) : ∀ n F, szF c F = n → CutF l c F → F ∈ ks := by
  intro n
  induction n with
  | zero =>
    intro F hn h
    rcases Classical.em (F = fun _ => 0) with e | e
    · rw [e]; exact h0
    · obtain ⟨G, q, hq, hG, rfl⟩ := cut_down g h e
      rw [sz_bump hq] at hn
      omega
  | succ n ih =>
    intro F hn h
    rcases Classical.em (F = fun _ => 0) with e | e
    · rw [e]; exact h0
    · obtain ⟨G, q, hq, hG, rfl⟩ := cut_down g h e
      rw [sz_bump hq] at hn
      exact hs G (ih G (by omega) hG) q hq h

#print axioms all_cuts
end Go.Proofs.Ytpofmhlmaejmoaa
