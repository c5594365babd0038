/-
  How many messages the algorithm of Ricart and Agrawala sends: plain.
-/
import Derived.Test.YtejckoffllhjcaaTrs
namespace Go.Proofs.Ytejckoffllhjcaa

theorem sum2_add (n : Nat) (f g : Nat → Nat → Int) : sum2 n (fun i j => f i j + g i j) = sum2 n f + sum2 n g := by
  unfold sum2
  rw [← sumN_add]
  exact sumN_congr fun i _ => sumN_add n (f i) (g i)
theorem sumN_mono2 {n : Nat} {f g : Nat → Int} (h : ∀ i, i < n → f i ≤ g i) : sumN n f ≤ sumN n g := by
  induction n with
  | zero => exact Int.le_refl _
  | succ n ih =>
    rw [sumN, sumN]
    have := ih (fun i hi => h i (by omega))
    have := h n (by omega)
    omega
theorem sum2_mono {n : Nat} {f g : Nat → Nat → Int} (h : ∀ i j, i < n → j < n → f i j ≤ g i j) : sum2 n f ≤ sum2 n g := sumN_mono2 fun i hi => sumN_mono2 fun j hj => h i j hi hj
/-- A number for each other one, in one's own row. -/
theorem sum2_row {n i : Nat} (hi : i < n) (c : Int) : sum2 n (fun a b => if a = i ∧ b ≠ i then c else 0) = c * ((n : Int) - 1) := by
  unfold sum2
  have hz : ∀ a, a ≠ i → sumN n (fun b => if a = i ∧ b ≠ i then c else 0) = 0 := fun a ha => by
    rw [sumN_congr (f := fun _ => 0) (fun b _ => if_neg (fun h => ha h.1)), sumN_const]; simp
  have hs : sumN n (fun b => if i = i ∧ b ≠ i then c else 0) = c * ((n : Int) - 1) := by
    rw [sumN_at hi (f := fun _ => c) (g := fun b => if i = i ∧ b ≠ i then c else 0) (fun x hx => if_pos ⟨rfl, hx⟩), sumN_const, if_neg (fun h => h.2 rfl), Int.mul_sub]
    omega
  rw [sumN_at hi (f := fun _ => 0) (g := fun a => sumN n (fun b => if a = i ∧ b ≠ i then c else 0)) (fun a ha => hz a ha), hs, sumN_const]
  omega

/-- What is still to be sent and taken, at most. -/
def phiT (n : Nat) (S : TS) : Int := sum2 n fun i j => 2 * nA (S.q i j) + nZ (S.q i j) + b01 (S.owe i j)
def lenT (n : Nat) (S : TS) : Int := sum2 n fun i j => ((S.q i j).length : Int)
theorem phi_same {n : Nat} {S T : TS} (h1 : T.q = S.q) (h2 : T.owe = S.owe) : phiT n T = phiT n S := by unfold phiT; rw [h1, h2]
theorem len_same {n : Nat} {S T : TS} (h1 : T.q = S.q) : lenT n T = lenT n S := by unfold lenT; rw [h1]
theorem enter_q (S : TS) (i : Nat) : (S.enter i).q = S.q ∧ (S.enter i).owe = S.owe := by unfold TS.enter; split <;> exact ⟨rfl, rfl⟩
theorem len_le_phi (n : Nat) (S : TS) : lenT n S ≤ phiT n S := sum2_mono fun i j _ _ => by
  have := nAZ (S.q i j)
  have := nA_nonneg (S.q i j)
  have := b01_ge (S.owe i j)
  omega
section
variable {n : Nat} {S : TS}
theorem phi_pop {i j : Nat} {x : Int} {r : List Int} (hi : i < n) (hj : j < n) (hq : S.q i j = x :: r) : phiT n (S.pop i j) = phiT n S - (if x = 0 then 1 else 2) ∧ lenT n (S.pop i j) = lenT n S - 1 := by
  have e : ∀ a b, (S.pop i j).q a b = up2 S.q i j r a b := fun a b => by show up2 S.q i j (S.q i j).tail a b = _; rw [hq]; rfl
  constructor
  · unfold phiT
    rw [sum2_at hi hj (f := fun a b => 2 * nA (S.q a b) + nZ (S.q a b) + b01 (S.owe a b)) (g := fun a b => 2 * nA ((S.pop i j).q a b) + nZ ((S.pop i j).q a b) + b01 ((S.pop i j).owe a b)) (fun a b h => by
      rw [e, up2_other _ _ h]; rfl)]
    rw [e, up2_same, hq]
    simp only [nA, nZ]
    have : b01 ((S.pop i j).owe i j) = b01 (S.owe i j) := rfl
    rw [this]
    split <;> omega
  · unfold lenT
    rw [sum2_at hi hj (f := fun a b => ((S.q a b).length : Int)) (g := fun a b => (((S.pop i j).q a b).length : Int)) (fun a b h => by
      rw [e, up2_other _ _ h])]
    rw [e, up2_same, hq]
    simp only [List.length_cons]
    omega
theorem phi_put {i j : Nat} (hi : i < n) (hj : j < n) : phiT n (S.put i j 0) = phiT n S + 1 ∧ lenT n (S.put i j 0) = lenT n S + 1 := by
  constructor
  · unfold phiT
    rw [sum2_at hi hj (f := fun a b => 2 * nA (S.q a b) + nZ (S.q a b) + b01 (S.owe a b)) (g := fun a b => 2 * nA ((S.put i j 0).q a b) + nZ ((S.put i j 0).q a b) + b01 ((S.put i j 0).owe a b)) (fun a b h => by
      show 2 * nA (up2 S.q i j (S.q i j ++ [0]) a b) + nZ (up2 S.q i j (S.q i j ++ [0]) a b) + b01 (S.owe a b) = _
      rw [up2_other _ _ h])]
    have e : (S.put i j 0).q i j = S.q i j ++ [0] := up2_same _ _ _ _
    rw [e, nA_append, nZ_append]
    have : b01 ((S.put i j 0).owe i j) = b01 (S.owe i j) := rfl
    rw [this]
    simp only [nA, nZ, if_pos]
    omega
  · unfold lenT
    rw [sum2_at hi hj (f := fun a b => ((S.q a b).length : Int)) (g := fun a b => (((S.put i j 0).q a b).length : Int)) (fun a b h => by
      show ((up2 S.q i j (S.q i j ++ [0]) a b).length : Int) = _
      rw [up2_other _ _ h])]
    have e : (S.put i j 0).q i j = S.q i j ++ [0] := up2_same _ _ _ _
    rw [e, List.length_append]
    simp only [List.length_singleton]
    omega
theorem phi_defer {i j : Nat} (hi : i < n) (hj : j < n) (ho : S.owe i j = false) : phiT n (S.defer i j) = phiT n S + 1 ∧ lenT n (S.defer i j) = lenT n S := by
  refine ⟨?_, len_same rfl⟩
  unfold phiT
  rw [sum2_at hi hj (f := fun a b => 2 * nA (S.q a b) + nZ (S.q a b) + b01 (S.owe a b)) (g := fun a b => 2 * nA ((S.defer i j).q a b) + nZ ((S.defer i j).q a b) + b01 ((S.defer i j).owe a b)) (fun a b h => by
    show 2 * nA (S.q a b) + nZ (S.q a b) + b01 (up2 S.owe i j true a b) = _
    rw [up2_other _ _ h])]
  have e : (S.defer i j).owe i j = true := up2_same _ _ _ _
  rw [e, ho]
  show _ - (2 * nA (S.q i j) + nZ (S.q i j) + b01 false) + (2 * nA (S.q i j) + nZ (S.q i j) + b01 true) = _
  simp only [b01]
  simp
  omega
theorem phi_asks {i : Nat} (hi : i < n) {x : Int} (hx : x ≠ 0) : phiT n (S.asks i x n) = phiT n S + 2 * ((n : Int) - 1) ∧ lenT n (S.asks i x n) = lenT n S + ((n : Int) - 1) := by
  have hq : ∀ a b, a < n → b < n → (S.asks i x n).q a b = if a = i ∧ b ≠ i then S.q a b ++ [x] else S.q a b := fun a b ha hb => by
    show (if a = i ∧ b ≠ i ∧ b < n then _ else _) = _
    by_cases e : a = i ∧ b ≠ i
    · rw [if_pos e, if_pos ⟨e.1, e.2, hb⟩]
    · rw [if_neg e, if_neg (fun h => e ⟨h.1, h.2.1⟩)]
  constructor
  · unfold phiT
    rw [← sum2_row hi 2, ← sum2_add]
    refine sum2_congr fun a b ha hb => ?_
    rw [hq a b ha hb]
    have : b01 ((S.asks i x n).owe a b) = b01 (S.owe a b) := rfl
    rw [this]
    by_cases e : a = i ∧ b ≠ i
    · rw [if_pos e, if_pos e, nA_append, nZ_append]
      simp only [nA, nZ, if_neg hx]
      omega
    · rw [if_neg e, if_neg e]; omega
  · unfold lenT
    have h1 := sum2_row hi 1
    rw [Int.one_mul] at h1
    rw [← h1, ← sum2_add]
    refine sum2_congr fun a b ha hb => ?_
    rw [hq a b ha hb]
    by_cases e : a = i ∧ b ≠ i
    · rw [if_pos e, if_pos e, List.length_append]
      simp
    · rw [if_neg e, if_neg e]; simp
theorem phi_gives (i : Nat) : phiT n (S.gives i n) = phiT n S ∧ lenT n S ≤ lenT n (S.gives i n) := by
  constructor
  · unfold phiT
    refine sum2_congr fun a b ha hb => ?_
    show 2 * nA (if a = i ∧ b < n ∧ S.owe i b = true then S.q a b ++ [0] else S.q a b) + nZ (if a = i ∧ b < n ∧ S.owe i b = true then S.q a b ++ [0] else S.q a b) + b01 (if a = i ∧ b < n then false else S.owe a b) = _
    by_cases e : a = i
    · subst e
      rw [if_pos (⟨rfl, hb⟩ : a = a ∧ b < n)]
      cases ho : S.owe a b with
      | false => simp [b01]
      | true =>
        rw [if_pos ⟨rfl, hb, rfl⟩, nA_append, nZ_append]
        simp [nA, nZ, b01]
        omega
    · rw [if_neg (fun h => e h.1), if_neg (fun h => e h.1)]
  · refine sum2_mono fun a b _ _ => ?_
    show ((S.q a b).length : Int) ≤ ((if a = i ∧ b < n ∧ S.owe i b = true then S.q a b ++ [0] else S.q a b : List Int).length : Int)
    split
    · rw [List.length_append]; omega
    · exact Int.le_refl _
/-- What one step does. -/
theorem few_step (hI : TInv n S) (m : Mv) :
    ((stepT n S m).2 = 0 ∧ m.k = 1 → phiT n (stepT n S m).1 = phiT n S + 2 * ((n : Int) - 1) ∧ lenT n (stepT n S m).1 = lenT n S + ((n : Int) - 1)) ∧
    ((stepT n S m).2 = 0 ∧ m.k = 2 → phiT n (stepT n S m).1 + 1 = phiT n S ∧ lenT n S ≤ lenT n (stepT n S m).1 + 1) ∧
    (¬ ((stepT n S m).2 = 0 ∧ (m.k = 1 ∨ m.k = 2)) → phiT n (stepT n S m).1 = phiT n S ∧ lenT n S ≤ lenT n (stepT n S m).1) := by
  have idle : ∀ c : Int, c ≠ 0 → ((c = 0 ∧ m.k = 1 → phiT n S = phiT n S + 2 * ((n : Int) - 1) ∧ lenT n S = lenT n S + ((n : Int) - 1)) ∧ (c = 0 ∧ m.k = 2 → phiT n S + 1 = phiT n S ∧ lenT n S ≤ lenT n S + 1) ∧ (¬ (c = 0 ∧ (m.k = 1 ∨ m.k = 2)) → phiT n S = phiT n S ∧ lenT n S ≤ lenT n S)) := fun c hc =>
    ⟨fun h => absurd h.1 hc, fun h => absurd h.1 hc, fun _ => ⟨rfl, Int.le_refl _⟩⟩
  unfold stepT
  split
  · exact idle 6 (by decide)
  split
  · exact idle 2 (by decide)
  next hf =>
  have hfn : m.f.toNat < n := by omega
  split
  · next hk =>
    split
    · exact idle 7 (by decide)
    · refine ⟨fun _ => ?_, fun h => absurd h.2 (by omega), fun h => absurd ⟨rfl, .inl hk⟩ h⟩
      show phiT n (S.request n m.f.toNat) = _ ∧ lenT n (S.request n m.f.toNat) = _
      unfold TS.request
      obtain ⟨e1, e2⟩ := enter_q ((S.want n m.f.toNat).asks m.f.toNat (S.clk m.f.toNat + 1) n) m.f.toNat
      rw [phi_same e1 e2, len_same e1]
      obtain ⟨h1, h2⟩ := phi_asks (S := S.want n m.f.toNat) hfn (x := S.clk m.f.toNat + 1) (by have := hI.clk0 m.f.toNat; omega)
      rw [h1, h2]
      exact ⟨by rw [phi_same (S := S) (T := S.want n m.f.toNat) rfl rfl], by rw [len_same (S := S) (T := S.want n m.f.toNat) rfl]⟩
  next hk1 =>
  split
  · next hk3 =>
    split
    · refine ⟨fun h => absurd h.2 hk1, fun h => absurd h.2 (by omega), fun _ => ?_⟩
      show phiT n ((S.off m.f.toNat).gives m.f.toNat n) = _ ∧ _ ≤ lenT n ((S.off m.f.toNat).gives m.f.toNat n)
      obtain ⟨h1, h2⟩ := phi_gives (n := n) (S := S.off m.f.toNat) m.f.toNat
      rw [h1]
      exact ⟨phi_same rfl rfl, by rw [len_same (S := S) (T := S.off m.f.toNat) rfl] at h2; exact h2⟩
    · exact idle 7 (by decide)
  next hk3 =>
  split
  · exact idle 2 (by decide)
  next ht =>
  have htn : m.t.toNat < n := by omega
  split
  · exact idle 5 (by decide)
  · next hq =>
    refine ⟨fun h => absurd h.2 hk1, fun _ => ?_, fun h => absurd ⟨rfl, .inr (by omega)⟩ h⟩
    generalize m.f.toNat = a at *
    generalize m.t.toNat = b at *
    show phiT n (S.come a b) + 1 = _ ∧ _ ≤ lenT n (S.come a b) + 1
    unfold TS.come
    cases e : S.q a b with
    | nil => exact absurd e hq
    | cons x r =>
      obtain ⟨p1, p2⟩ := phi_pop hfn htn e
      show phiT n (if x = 0 then _ else _) + 1 = _ ∧ _ ≤ lenT n (if x = 0 then _ else _) + 1
      by_cases hx : x = 0
      · rw [if_pos hx]
        obtain ⟨e1, e2⟩ := enter_q ((S.pop a b).less b) b
        rw [phi_same e1 e2, len_same e1, phi_same (S := S.pop a b) (T := (S.pop a b).less b) rfl rfl, len_same (S := S.pop a b) (T := (S.pop a b).less b) rfl, p1, p2, if_pos hx]
        omega
      · rw [if_neg hx]
        rw [if_neg hx] at p1
        show phiT n ((S.pop a b).answer b a x) + 1 = _ ∧ _ ≤ lenT n ((S.pop a b).answer b a x) + 1
        unfold TS.answer
        have h1 : phiT n ((S.pop a b).hear b x) = phiT n (S.pop a b) := phi_same rfl rfl
        have h2 : lenT n ((S.pop a b).hear b x) = lenT n (S.pop a b) := len_same rfl
        split
        · have ho : S.owe b a = false := by
            have h3 := hI.own1 a b
            have h4 : nA (S.q a b) = 1 + nA r := by rw [e]; simp [nA, hx]
            have h5 := nA_nonneg r
            have h6 := nZ_nonneg (S.q b a)
            have h7 := b01_ge (S.owe b a)
            unfold TS.own at h3
            exact b01_zero.1 (by omega)
          obtain ⟨q1, q2⟩ := phi_defer (S := (S.pop a b).hear b x) htn hfn ho
          rw [q1, q2, h1, h2, p1, p2]
          omega
        · obtain ⟨q1, q2⟩ := phi_put (S := (S.pop a b).hear b x) htn hfn
          rw [q1, q2, h1, h2, p1, p2]
          omega
end
/-- How many requests, how many receipts there were among the first k moves. -/
def wantsT (n : Nat) (l : List Mv) : Nat → Nat
  | 0 => 0
  | k + 1 => wantsT n l k + if codeT n l k = 0 ∧ (mv l k).k = 1 then 1 else 0
def tooksT (n : Nat) (l : List Mv) : Nat → Nat
  | 0 => 0
  | k + 1 => tooksT n l k + if codeT n l k = 0 ∧ (mv l k).k = 2 then 1 else 0
theorem wants_le (n : Nat) (l : List Mv) (k : Nat) : wantsT n l k ≤ k ∧ tooksT n l k ≤ k := by
  induction k with
  | zero => exact ⟨Nat.le_refl _, Nat.le_refl _⟩
  | succ k ih => rw [wantsT, tooksT]; constructor <;> split <;> omega
theorem few_all (n : Nat) (l : List Mv) (k : Nat) : (tooksT n l k : Int) + phiT n (tAt n l k) = 2 * ((n : Int) - 1) * wantsT n l k ∧ ((n : Int) - 1) * wantsT n l k ≤ tooksT n l k + lenT n (tAt n l k) := by
  induction k with
  | zero =>
    have h1 : phiT n TS.begin = 0 := by
      unfold phiT
      rw [sum2_congr (f := fun _ _ => 0) (fun i j _ _ => by simp [TS.begin, nA, nZ, b01])]
      unfold sum2
      rw [sumN_congr (f := fun _ => 0) (fun i _ => by rw [sumN_const]; simp), sumN_const]; simp
    have h2 : lenT n TS.begin = 0 := by
      unfold lenT
      rw [sum2_congr (f := fun _ _ => 0) (fun i j _ _ => by simp [TS.begin])]
      unfold sum2
      rw [sumN_congr (f := fun _ => 0) (fun i _ => by rw [sumN_const]; simp), sumN_const]; simp
    show (((0 : Nat) : Int)) + phiT n TS.begin = 2 * ((n : Int) - 1) * ((0 : Nat) : Int) ∧ ((n : Int) - 1) * ((0 : Nat) : Int) ≤ ((0 : Nat) : Int) + lenT n TS.begin
    rw [h1, h2]
    simp
  | succ k ih =>
    obtain ⟨f1, f2, f3⟩ := few_step (TInv.at_ n l k) (mv l k)
    have e1 : tAt n l (k + 1) = (stepT n (tAt n l k) (mv l k)).1 := rfl
    have e2 : codeT n l k = (stepT n (tAt n l k) (mv l k)).2 := rfl
    rw [← e1, ← e2] at f1 f2 f3
    obtain ⟨i1, i2⟩ := ih
    rw [wantsT, tooksT]
    by_cases c1 : codeT n l k = 0 ∧ (mv l k).k = 1
    · obtain ⟨g1, g2⟩ := f1 c1
      have c2 : ¬ (codeT n l k = 0 ∧ (mv l k).k = 2) := fun h => by have := h.2; have := c1.2; omega
      rw [if_pos c1, if_neg c2, g1, g2]
      have m1 : 2 * ((n : Int) - 1) * ((wantsT n l k + 1 : Nat) : Int) = 2 * ((n : Int) - 1) * (wantsT n l k : Int) + 2 * ((n : Int) - 1) := by
        rw [Int.natCast_add, Int.mul_add]; simp
      have m2 : ((n : Int) - 1) * ((wantsT n l k + 1 : Nat) : Int) = ((n : Int) - 1) * (wantsT n l k : Int) + ((n : Int) - 1) := by
        rw [Int.natCast_add, Int.mul_add]; simp
      rw [m1, m2]
      omega
    · rw [if_neg c1]
      by_cases c2 : codeT n l k = 0 ∧ (mv l k).k = 2
      · obtain ⟨g1, g2⟩ := f2 c2
        rw [if_pos c2]
        simp only [Nat.add_zero]
        constructor <;> omega
      · obtain ⟨g1, g2⟩ := f3 (fun h => by
          rcases h.2 with h2 | h2
          · exact c1 ⟨h.1, h2⟩
          · exact c2 ⟨h.1, h2⟩)
        rw [if_neg c2]
        simp only [Nat.add_zero]
        constructor <;> omega
theorem few_bounds (n : Nat) (l : List Mv) (k : Nat) : (tooksT n l k : Int) + lenT n (tAt n l k) ≤ 2 * ((n : Int) - 1) * wantsT n l k ∧ ((n : Int) - 1) * wantsT n l k ≤ tooksT n l k + lenT n (tAt n l k) := by
  obtain ⟨h1, h2⟩ := few_all n l k
  have := len_le_phi n (tAt n l k)
  exact ⟨by omega, h2⟩

#print axioms few_bounds
end Go.Proofs.Ytejckoffllhjcaa
