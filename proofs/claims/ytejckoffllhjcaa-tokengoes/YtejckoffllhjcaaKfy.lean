/-
  How many messages the algorithm of Raymond sends: the bound. Plain.
-/
import Derived.Test.YtejckoffllhjcaaKfx
namespace Go.Proofs.Ytejckoffllhjcaa
set_option linter.unusedVariables false

section
variable {n : Nat} {S T : KS} {W K : Int}
theorem stepK_counts (h : PInv n S W K) (m : Mv) : PInv n (stepK n S m).1 (W + if (stepK n S m).2 = 0 ∧ m.k = 1 then 1 else 0) (K + if (stepK n S m).2 = 0 ∧ m.k = 2 then 1 else 0) := by
  have stay : ∀ c : Int, c ≠ 0 → PInv n S (W + if c = 0 ∧ m.k = 1 then 1 else 0) (K + if c = 0 ∧ m.k = 2 then 1 else 0) := fun c hc => by
    rw [if_neg (fun h => hc h.1), if_neg (fun h => hc h.1), Int.add_zero, Int.add_zero]; exact h
  unfold stepK
  split
  · exact stay 6 (by decide)
  split
  · exact stay 2 (by decide)
  next hf =>
  have hfn : m.f.toNat < n := by omega
  split
  · next hk =>
    split
    · exact stay 7 (by decide)
    · next hw =>
      show PInv n (S.enq m.f.toNat m.f.toNat) (W + if (0 : Int) = 0 ∧ m.k = 1 then 1 else 0) (K + if (0 : Int) = 0 ∧ m.k = 2 then 1 else 0)
      rw [if_pos ⟨rfl, hk⟩, if_neg (fun h => by have := h.2; omega), Int.add_zero]
      exact h.want hfn (by
        cases e : S.ins m.f.toNat with
        | false => rfl
        | true => exact absurd (.inl e) hw) (fun e => hw (.inr e))
  next hk1 =>
  split
  · next hk =>
    split
    · next hw =>
      show PInv n (S.leave m.f.toNat) (W + if (0 : Int) = 0 ∧ m.k = 1 then 1 else 0) (K + if (0 : Int) = 0 ∧ m.k = 2 then 1 else 0)
      rw [if_neg (fun h => hk1 h.2), if_neg (fun h => by have := h.2; omega), Int.add_zero, Int.add_zero]
      exact h.leave hfn hw
    · exact stay 7 (by decide)
  next hk3 =>
  split
  · exact stay 2 (by decide)
  split
  · exact stay 5 (by decide)
  · next hq =>
    show PInv n (S.come m.f.toNat m.t.toNat) (W + if (0 : Int) = 0 ∧ m.k = 1 then 1 else 0) (K + if (0 : Int) = 0 ∧ m.k = 2 then 1 else 0)
    rw [if_neg (fun h => hk1 h.2), if_pos ⟨rfl, by omega⟩, Int.add_zero]
    exact h.come hq
end
/-- How many wanted to enter, how many messages were taken, among the first k moves. -/
def wantsK (n : Nat) (u : Nat → Nat) (l : List Mv) : Nat → Nat
  | 0 => 0
  | k + 1 => wantsK n u l k + if codeK n u l k = 0 ∧ (mv l k).k = 1 then 1 else 0
def tooksK (n : Nat) (u : Nat → Nat) (l : List Mv) : Nat → Nat
  | 0 => 0
  | k + 1 => tooksK n u l k + if codeK n u l k = 0 ∧ (mv l k).k = 2 then 1 else 0
theorem wantsK_le (n : Nat) (u : Nat → Nat) (l : List Mv) (k : Nat) : wantsK n u l k ≤ k ∧ tooksK n u l k ≤ k := by
  induction k with
  | zero => exact ⟨Nat.le_refl _, Nat.le_refl _⟩
  | succ k ih => rw [wantsK, tooksK]; constructor <;> split <;> omega
theorem PInv.begin {n : Nat} {u : Nat → Nat} (h : KInv n (KS.begin u)) (hr : RInv n (KS.begin u)) : PInv n (KS.begin u) 0 0 := by
  have hh : ∃ j, j < n ∧ u j = j := by
    have h1 := h.one
    rw [sum2_congr (f := fun _ _ => 0) (fun i j _ _ => by simp [KS.begin, nA])] at h1
    unfold sum2 at h1
    rw [sumN_congr (n := n) (f := fun _ => 0) (g := fun _ => sumN n fun _ => 0) (fun i _ => by rw [sumN_const]; simp), sumN_const] at h1
    by_cases e : ∃ j, j < n ∧ u j = j
    · exact e
    · exfalso
      rw [sumN_congr (f := fun _ => 0) (fun i hi => by
        exact if_neg (fun h => e ⟨i, hi, h⟩)), sumN_const] at h1
      simp at h1
  have z2 : ∀ (f : Nat → Nat → Int), (∀ i j, f i j = 0) → sum2 n f = 0 := fun f hf => by
    unfold sum2
    rw [sumN_congr (f := fun _ => 0) (fun i _ => by rw [sumN_congr (f := fun _ => 0) (fun j _ => hf i j), sumN_const]; simp), sumN_const]
    simp
  have l0 : lenK n (KS.begin u) = 0 := z2 _ fun i j => rfl
  have t0 : tkK n (KS.begin u) = 0 := z2 _ fun i j => rfl
  have p0 : pendK n (KS.begin u) = 0 := by
    unfold pendK
    rw [sumN_congr (f := fun _ => 0) (fun i _ => by unfold pK; rw [if_neg (by simp [KS.begin])]), sumN_const]
    simp
  have c0 := cnt_ge n (KS.begin u)
  refine ⟨h, hr, ⟨0, by rw [l0, t0]; omega, .inl ⟨hh, by rw [p0]; simp⟩⟩, Int.le_refl _, Int.le_refl _, fun _ => ⟨fun _ => rfl, fun _ _ => rfl, fun _ => rfl, rfl⟩⟩
theorem PInv.at_ {n : Nat} {u : Nat → Nat} (h : PInv n (KS.begin u) 0 0) (l : List Mv) (k : Nat) : PInv n (kAt n u l k) (wantsK n u l k) (tooksK n u l k) := by
  induction k with
  | zero => exact h
  | succ k ih =>
    have h1 := stepK_counts ih (mv l k)
    rw [wantsK, tooksK]
    have e1 : ((wantsK n u l k + if codeK n u l k = 0 ∧ (mv l k).k = 1 then 1 else 0 : Nat) : Int) = (wantsK n u l k : Int) + if codeK n u l k = 0 ∧ (mv l k).k = 1 then 1 else 0 := by split <;> simp
    have e2 : ((tooksK n u l k + if codeK n u l k = 0 ∧ (mv l k).k = 2 then 1 else 0 : Nat) : Int) = (tooksK n u l k : Int) + if codeK n u l k = 0 ∧ (mv l k).k = 2 then 1 else 0 := by split <;> simp
    rw [e1, e2]
    exact h1
/-- The bound. -/
theorem PInv.bound {n : Nat} {S : KS} {W K : Int} (h : PInv n S W K) (hn : 1 ≤ n) : K + lenK n S ≤ 4 * ((n : Int) - 1) * W := by
  have hw := h.w0
  have p0 := pend_ge n S
  have t0 := tk_ge n S
  have hN : (0 : Int) ≤ (n : Int) - 1 := by omega
  have e4 : 4 * ((n : Int) - 1) * W = 4 * (((n : Int) - 1) * W) := by rw [Int.mul_assoc]
  rw [e4]
  by_cases hz : W = 0
  · obtain ⟨z1, z2, z3, z4⟩ := h.zero hz
    have l0 : lenK n S = 0 := by
      unfold lenK sum2
      rw [sumN_congr (f := fun _ => 0) (fun i _ => by rw [sumN_congr (f := fun _ => 0) (fun j _ => by show ((S.q _ j).length : Int) = 0; rw [z2]; rfl), sumN_const]; simp), sumN_const]
      simp
    rw [z4, l0, hz]
    simp
  · have hNW : (n : Int) - 1 ≤ ((n : Int) - 1) * W := by
      have := Int.mul_le_mul_of_nonneg_left (show (1 : Int) ≤ W by omega) hN
      rw [Int.mul_one] at this
      exact this
    obtain ⟨ts, h1, h2⟩ := h.few
    rcases h2 with ⟨⟨j, hj, hp⟩, h3⟩ | ⟨x, y, r, h3, h4, h5⟩
    · have c1 := cnt_hold hj hp
      have m1 : ((n : Int) - 1) * (W - pendK n S) ≤ ((n : Int) - 1) * W := Int.mul_le_mul_of_nonneg_left (by omega) hN
      omega
    · have c1 := cnt_le n S
      have hl := h4.len
      rw [List.length_cons] at hl
      have ht : 1 ≤ tkK n S := by
        have c2 := h.inv.chan x y (fun e => by rw [e] at h3; cases h3)
        have h6 := le_sum2 (n := n) (f := fun i j => nA (S.q i j)) (fun i j => nA_nonneg _) c2.2.1 c2.2.2.1
        have h7 := nA_mem h3 (by decide)
        have h8 := nA_nonneg (S.q x y)
        have : tkK n S = sum2 n (fun i j => nA (S.q i j)) := rfl
        omega
      have hp1 : 1 ≤ pendK n S := by
        obtain ⟨p, hpn, hp⟩ := h.rank.pend h.inv (h.inv.tok x y h3).2.1
        have h6 := le_sumN (n := n) (f := pK S) (fun i _ => pK_ge S i) hpn
        have : pK S p = 1 := if_pos hp
        have : pendK n S = sumN n (pK S) := rfl
        omega
      have m1 : ((n : Int) - 1) * (W - pendK n S) ≤ ((n : Int) - 1) * (W - 1) := Int.mul_le_mul_of_nonneg_left (by omega) hN
      have e5 : ((n : Int) - 1) * (W - 1) = ((n : Int) - 1) * W - ((n : Int) - 1) := by rw [Int.mul_sub, Int.mul_one]
      rw [e5] at m1
      omega

/-! The ranks at the start. -/
theorem itU_comm (u : Nat → Nat) (k p : Nat) (it : Nat → Nat → Nat) (h0 : ∀ p, it 0 p = p) (hs : ∀ k p, it (k + 1) p = u (it k p)) : it k (u p) = it (k + 1) p := by
  induction k with
  | zero => rw [h0, hs, h0]
  | succ k ih => rw [hs, ih, hs (k + 1)]
theorem sumN_shift (n : Nat) (f : Nat → Int) : sumN n (fun k => f (k + 1)) = sumN n f - f 0 + f n := by
  induction n with
  | zero => show (0 : Int) = 0 - f 0 + f 0; omega
  | succ n ih => rw [sumN, sumN, ih]; omega
theorem RInv.begin {n : Nat} {u : Nat → Nat} (it : Nat → Nat → Nat) (h0 : ∀ p, it 0 p = p) (hs : ∀ k p, it (k + 1) p = u (it k p)) (hu : ∀ p, p < n → u (it n p) = it n p) : RInv n (KS.begin u) := by
  let f : Nat → Nat → Int := fun p k => if u (it k p) = it k p then 0 else 1
  have f0 : ∀ p k, 0 ≤ f p k ∧ f p k ≤ 1 := fun p k => by show 0 ≤ (if _ then _ else _ : Int) ∧ (if _ then _ else _ : Int) ≤ 1; split <;> decide
  have hb : ∀ p m, 0 ≤ sumN m (f p) ∧ sumN m (f p) ≤ m := fun p m => by
    induction m with
    | zero => exact ⟨Int.le_refl _, Int.le_refl _⟩
    | succ m ih => rw [sumN]; have := f0 p m; omega
  refine ⟨fun p => (sumN n (f p)).toNat, n, fun p hp => ⟨by show (sumN n (f p)).toNat ≤ n; have := hb p n; omega, fun h1 _ => ?_⟩⟩
  have h1' : u p ≠ p := h1
  show (sumN n (f (u p))).toNat < (sumN n (f p)).toNat
  have e : sumN n (f (u p)) = sumN n (fun k => f p (k + 1)) := sumN_congr fun k _ => by
    show (if u (it k (u p)) = it k (u p) then (0 : Int) else 1) = if u (it (k + 1) p) = it (k + 1) p then 0 else 1
    rw [itU_comm u k p it h0 hs]
  have e0 : f p 0 = 1 := by
    show (if u (it 0 p) = it 0 p then (0 : Int) else 1) = 1
    rw [h0, if_neg h1']
  have en : f p n = 0 := by
    show (if u (it n p) = it n p then (0 : Int) else 1) = 0
    rw [if_pos (hu p hp)]
  rw [e, sumN_shift, e0, en]
  have := hb p n
  have h2 := (hb p n).1
  have h3 : 0 ≤ sumN n (fun k => f p (k + 1)) := sumN_nonneg fun k _ => (f0 p (k + 1)).1
  rw [sumN_shift, e0, en] at h3
  omega

#print axioms PInv.bound
#print axioms RInv.begin
end Go.Proofs.Ytejckoffllhjcaa
