/-
  Chang and Roberts where all begin: how many messages there are; turning the ring: plain.
-/
import Derived.Test.YtcmfpnghejapbaaEla
namespace Go.Proofs.Ytcmfpnghejapbaa

/-- The t places behind s have smaller numbers. -/
def farB (l : List Int) (s : Nat) : Nat → Bool
  | 0 => true
  | t + 1 => farB l s t && decide (vat l ((s + (t + 1)) % l.length) < vat l s)
theorem farB_succ (l : List Int) (s t : Nat) : farB l s (t + 1) = (farB l s t && decide (vat l ((s + (t + 1)) % l.length) < vat l s)) := rfl
theorem farB_iff (l : List Int) (s t : Nat) : farB l s t = true ↔ ∀ i, 1 ≤ i → i ≤ t → vat l ((s + i) % l.length) < vat l s := by
  induction t with
  | zero => exact ⟨fun _ i h1 h2 => by omega, fun _ => rfl⟩
  | succ t ih =>
    unfold farB
    rw [Bool.and_eq_true, ih, decide_eq_true_eq]
    constructor
    · rintro ⟨h1, h2⟩ i hi hi'
      by_cases e : i = t + 1
      · rw [e]; exact h2
      · exact h1 i hi (by omega)
    · intro h
      exact ⟨fun i hi hi' => h i hi (by omega), h (t + 1) (by omega) (Nat.le_refl _)⟩
def sumN (f : Nat → Nat) : Nat → Nat
  | 0 => 0
  | k + 1 => sumN f k + f k
theorem sumN_congr {f g : Nat → Nat} {k : Nat} (h : ∀ i, i < k → f i = g i) : sumN f k = sumN g k := by
  induction k with
  | zero => rfl
  | succ k ih => unfold sumN; rw [ih fun i hi => h i (by omega), h k (by omega)]
/-- How many numbers come on at the t-th time. -/
def onN (l : List Int) (t : Nat) : Nat := cnt (fun s => farB l s t) l.length

structure AllAt (l : List Int) (b : Nat → Bool) (r : Nat) : Prop where
  tr : ∀ p, p < l.length → (sim l b r).tr ((p + (r + 1)) % l.length) = if farB l p r = true then some (vat l p) else none
  sent : ∀ p, p < l.length → (sim l b r).sent p = true
  ms : (sim l b r).ms = sumN (onN l) (r + 1)
theorem all_at {l : List Int} {b : Nat → Bool} (hb : ∀ p, p < l.length → b p = true) (r : Nat) : AllAt l b r := by
  induction r with
  | zero =>
    refine ⟨fun p hp => ?_, fun p hp => ?_, ?_⟩
    · show trTo l.length (out0 l b) l.length ((p + 1) % l.length) = _
      rw [trTo_next _ hp]
      unfold out0
      rw [if_pos (hb p hp)]
      rfl
    · show sentTo (fun _ => false) b l.length p = true
      rw [sentTo_all _ _ hp, hb p hp]
      rfl
    · show cnt (someB (out0 l b)) l.length = sumN (onN l) 0 + onN l 0
      have : sumN (onN l) 0 = 0 := rfl
      rw [this, Nat.zero_add]
      unfold onN
      exact cnt_congr fun i hi => by unfold someB out0; rw [if_pos (hb i hi)]; rfl
  | succ r ih =>
    have hout : ∀ p, p < l.length → outS l (sim l b r) ((p + (r + 1)) % l.length) = if farB l p (r + 1) = true then some (vat l p) else none := fun p hp => by
      have hn : 0 < l.length := by omega
      unfold outS
      rw [ih.tr p hp, farB_succ]
      cases hf : farB l p r with
      | false => simp
      | true =>
        simp only [Bool.true_and, if_true]
        by_cases h : vat l ((p + (r + 1)) % l.length) < vat l p
        · rw [if_pos h, decide_eq_true h]; rfl
        · rw [if_neg h, if_pos (ih.sent _ (Nat.mod_lt _ hn)), decide_eq_false h]; rfl
    refine ⟨fun p hp => ?_, fun p hp => ?_, ?_⟩
    · have hn : 0 < l.length := by omega
      have e : (p + (r + 1 + 1)) % l.length = ((p + (r + 1)) % l.length + 1) % l.length := by rw [Nat.mod_add_mod, ← Nat.add_assoc]
      rw [e]
      show trTo l.length (outS l (sim l b r)) l.length _ = _
      rw [trTo_next _ (Nat.mod_lt _ hn)]
      exact hout p hp
    · show sentTo (sim l b r).sent (ownS l (sim l b r)) l.length p = true
      rw [sentTo_all _ _ hp, ih.sent p hp]
      rfl
    · show (sim l b r).ms + cnt (someB (outS l (sim l b r))) l.length = sumN (onN l) (r + 1) + onN l (r + 1)
      rw [ih.ms, ← cnt_rot (someB (outS l (sim l b r))) (n := l.length) (r + 1)]
      unfold onN
      rw [cnt_congr (f := fun i => someB (outS l (sim l b r)) ((i + (r + 1)) % l.length)) (g := fun s => farB l s (r + 1)) fun i hi => by
        simp only [someB, hout i hi]
        cases farB l i (r + 1) <;> rfl]

theorem mod_same {n p d : Nat} (hp : p < n) (h1 : 1 ≤ d) (h2 : d ≤ n) (e : (p + d) % n = p) : d = n := by
  rcases Nat.lt_or_ge d n with h3 | h3
  · by_cases h4 : p + d < n
    · rw [Nat.mod_eq_of_lt h4] at e; omega
    · rw [show p + d = (p + d - n) + n by omega, Nat.add_mod_right, Nat.mod_eq_of_lt (by omega)] at e; omega
  · omega
/-- It is found behind as many rounds as there are others. -/
theorem all_lead {l : List Int} (hR : Rng l) {b : Nat → Bool} (hb : ∀ p, p < l.length → b p = true) {T m : Nat} (h : LeadAt l b T m) : (sim l b T).ms = sumN (onN l) l.length := by
  have hn := hR.len
  have hT : T = l.length - 1 := by
    have hA := all_at hb T
    have hlead := (leadB_iff l _ m).1 h.is
    -- no later than that
    have hle : T ≤ l.length - 1 := by
      rcases Nat.lt_or_ge (l.length - 1) T with h1 | h1
      · obtain ⟨M, hM, hg0⟩ := most_at l (by omega)
        have hB := all_at hb (l.length - 1)
        have h2 := hB.tr M hM
        rw [show l.length - 1 + 1 = l.length by omega, Nat.add_mod_right, Nat.mod_eq_of_lt hM] at h2
        rw [if_pos ((farB_iff l M _).2 fun i hi hi' => by
          have hq := Nat.mod_lt (M + i) (show 0 < l.length by omega)
          rcases Int.lt_or_eq_of_le (hg0 _ hq) with h3 | h3
          · exact h3
          · have := mod_same hM hi (by omega) (hR.inj hq hM h3)
            omega)] at h2
        have h3 := h.first _ h1 M hM
        rw [(leadB_iff l _ M).2 h2] at h3
        cases h3
      · exact h1
    -- no sooner
    have hq : (m + (l.length - 1 - T)) % l.length < l.length := Nat.mod_lt _ (by omega)
    have h2 := hA.tr ((m + (l.length - 1 - T)) % l.length) hq
    rw [Nat.mod_add_mod, show m + (l.length - 1 - T) + (T + 1) = m + l.length by omega, Nat.add_mod_right, Nat.mod_eq_of_lt h.lt, hlead] at h2
    by_cases h3 : farB l ((m + (l.length - 1 - T)) % l.length) T = true
    · rw [if_pos h3] at h2
      injection h2 with h2
      have h4 := hR.inj h.lt hq h2
      by_cases h5 : l.length - 1 - T = 0
      · omega
      · have := mod_same h.lt (by omega) (by omega) h4.symm
        omega
    · rw [if_neg h3] at h2
      cases h2
  subst hT
  rw [(all_at hb (l.length - 1)).ms, show l.length - 1 + 1 = l.length by omega]

theorem onN_zero (l : List Int) : onN l 0 = l.length := by
  unfold onN
  have : ∀ k, cnt (fun s => farB l s 0) k = k := fun k => by
    induction k with
    | zero => rfl
    | succ k ih => unfold cnt; rw [ih]; rfl
  exact this _
theorem cnt_front {f : Nat → Bool} {a d : Nat} (h : ∀ i, a ≤ i → i < a + d → f i = false) : cnt f (a + d) ≤ a := by
  induction d with
  | zero => exact cnt_le _ _
  | succ d ih =>
    have h1 := ih (fun i hi hi' => h i hi (by omega))
    show cnt f (a + d) + (if f (a + d) = true then 1 else 0) ≤ a
    rw [h (a + d) (by omega) (by omega)]
    simpa using h1
section
variable {l : List Int} (hR : Rng l)
include hR
theorem onN_pos {t : Nat} (ht : t < l.length) : 1 ≤ onN l t := by
  have hn := hR.len
  obtain ⟨M, hM, hg0⟩ := most_at l (by omega)
  refine cnt_pos.2 ⟨M, hM, ?_⟩
  rw [farB_iff]
  intro i hi hi'
  have hq := Nat.mod_lt (M + i) (show 0 < l.length by omega)
  rcases Int.lt_or_eq_of_le (hg0 _ hq) with h3 | h3
  · exact h3
  · have := mod_same hM hi (by omega) (hR.inj hq hM h3)
    omega
theorem onN_le {t : Nat} (ht : t < l.length) : onN l t ≤ l.length - t := by
  have hn := hR.len
  obtain ⟨M, hM, hg0⟩ := most_at l (by omega)
  unfold onN
  rw [← cnt_rot (fun s => farB l s t) (n := l.length) M]
  have h1 := cnt_front (f := fun i => farB l ((i + M) % l.length) t) (a := l.length - t) (d := t) (fun i hi hi' => by
    rw [← Bool.not_eq_true, farB_iff]
    intro h
    have h2 := h (l.length - i) (by omega) (by omega)
    rw [Nat.mod_add_mod, show i + M + (l.length - i) = M + l.length by omega, Nat.add_mod_right, Nat.mod_eq_of_lt hM] at h2
    have h3 := hg0 ((i + M) % l.length) (Nat.mod_lt _ (by omega))
    omega)
  rw [show l.length - t + t = l.length by omega] at h1
  exact h1
theorem many_least : 2 * l.length - 1 ≤ sumN (onN l) l.length := by
  have hn := hR.len
  have : ∀ k, 1 ≤ k → k ≤ l.length → l.length + (k - 1) ≤ sumN (onN l) k := by
    intro k
    induction k with
    | zero => intro h; omega
    | succ k ih =>
      intro _ hk
      show _ ≤ sumN (onN l) k + onN l k
      by_cases e : k = 0
      · subst e
        have h0 : sumN (onN l) 0 = 0 := rfl
        rw [onN_zero, h0]
        omega
      · have h1 := ih (by omega) (by omega)
        have h2 := onN_pos hR (t := k) (by omega)
        omega
  have h1 := this l.length hn.1 (Nat.le_refl _)
  omega
theorem many_most : 2 * sumN (onN l) l.length ≤ l.length * (l.length + 1) := by
  have : ∀ k, k ≤ l.length → 2 * sumN (onN l) k + k * k ≤ (2 * l.length + 1) * k := by
    intro k
    induction k with
    | zero => intro _; simp [sumN]
    | succ k ih =>
      intro hk
      have h1 := ih (by omega)
      have h2 := onN_le hR (t := k) (by omega)
      have e1 : sumN (onN l) (k + 1) = sumN (onN l) k + onN l k := rfl
      have e2 : (k + 1) * (k + 1) = k * k + 2 * k + 1 := by rw [Nat.mul_succ, Nat.succ_mul]; omega
      have e3 : (2 * l.length + 1) * (k + 1) = (2 * l.length + 1) * k + (2 * l.length + 1) := Nat.mul_succ _ _
      omega
  have h1 := this l.length (Nat.le_refl _)
  have e1 : (2 * l.length + 1) * l.length = 2 * (l.length * l.length) + l.length := by rw [Nat.add_mul, Nat.one_mul, Nat.mul_assoc]
  have e2 : l.length * (l.length + 1) = l.length * l.length + l.length := Nat.mul_succ _ _
  omega
end

/-- The ring turned by i. -/
def turnL (l : List Int) (i : Nat) : List Int := l.drop i ++ l.take i
theorem turnL_len (l : List Int) {i : Nat} (hi : i ≤ l.length) : (turnL l i).length = l.length := by simp [turnL]; omega
theorem turnL_at (l : List Int) {i : Nat} (hi : i < l.length) {j : Nat} (hj : j < l.length) : vat (turnL l i) j = vat l ((j + i) % l.length) := by
  have hq : (j + i) % l.length < l.length := Nat.mod_lt _ (by omega)
  rw [vat_get _ (by rw [turnL_len l (by omega)]; exact hj), vat_get _ hq]
  by_cases h : j < l.length - i
  · have e : (j + i) % l.length = i + j := by rw [Nat.mod_eq_of_lt (by omega)]; omega
    have h1 : (turnL l i)[j]? = l[i + j]? := by
      unfold turnL
      rw [List.getElem?_append_left (by simp; omega), List.getElem?_drop]
    rw [List.getElem?_eq_getElem (by rw [turnL_len l (by omega)]; exact hj), List.getElem?_eq_getElem (by omega)] at h1
    injection h1 with h1
    rw [h1]
    simp only [e]
  · have e : (j + i) % l.length = j - (l.length - i) := by
      rw [show j + i = (j - (l.length - i)) + l.length by omega, Nat.add_mod_right, Nat.mod_eq_of_lt (by omega)]
    have h1 : (turnL l i)[j]? = l[j - (l.length - i)]? := by
      unfold turnL
      rw [List.getElem?_append_right (by simp; omega), List.length_drop, List.getElem?_take_of_lt (by omega)]
    rw [List.getElem?_eq_getElem (by rw [turnL_len l (by omega)]; exact hj), List.getElem?_eq_getElem (by omega)] at h1
    injection h1 with h1
    rw [h1]
    simp only [e]
theorem turnL_rng {l : List Int} (hR : Rng l) {i : Nat} (hi : i < l.length) : Rng (turnL l i) := by
  refine ⟨by rw [turnL_len l (by omega)]; exact hR.len, ?_⟩
  have : (turnL l i).Perm l := by
    unfold turnL
    exact List.perm_append_comm.trans (by rw [List.take_append_drop])
  exact this.nodup_iff.2 hR.dis
theorem turnL_far {l : List Int} {i : Nat} (hi : i < l.length) {s : Nat} (hs : s < l.length) (t : Nat) : farB (turnL l i) s t = farB l ((s + i) % l.length) t := by
  rw [Bool.eq_iff_iff, farB_iff, farB_iff, turnL_len l (by omega)]
  have key : ∀ j, vat (turnL l i) ((s + j) % l.length) = vat l (((s + i) % l.length + j) % l.length) := fun j => by
    rw [turnL_at l hi (Nat.mod_lt _ (by omega)), Nat.mod_add_mod, Nat.mod_add_mod, show s + j + i = s + i + j by omega]
  have hv : vat (turnL l i) s = vat l ((s + i) % l.length) := turnL_at l hi hs
  constructor <;> intro h j h1 h2
  · have := h j h1 h2
    rw [key, hv] at this
    exact this
  · rw [key, hv]
    exact h j h1 h2
theorem turn_many {l : List Int} {i : Nat} (hi : i < l.length) : sumN (onN (turnL l i)) (turnL l i).length = sumN (onN l) l.length := by
  rw [turnL_len l (by omega)]
  refine sumN_congr fun t ht => ?_
  unfold onN
  rw [turnL_len l (by omega), cnt_congr (g := fun s => farB l ((s + i) % l.length) t) fun s hs => turnL_far hi hs t]
  exact cnt_rot (fun s => farB l s t) i

#print axioms all_lead
#print axioms many_least
#print axioms many_most
#print axioms turn_many
end Go.Proofs.Ytcmfpnghejapbaa
