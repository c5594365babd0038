/-
  How many messages are in transit behind all events: those sent less those received: plain.
-/
import Derived.Test.YtpofmhlmaejmoaaWay
namespace Go.Proofs.Ytpofmhlmaejmoaa
open Go.RowKit Go.Maps

def leftTo (l : List Ev) : Nat → Int
  | 0 => 0
  | k + 1 => leftTo l k + (if (ev l k).k = 2 then 1 else 0) - (if (ev l k).k = 3 then 1 else 0)
theorem leftTo_le (l : List Ev) (k : Nat) : -(k : Int) ≤ leftTo l k ∧ leftTo l k ≤ (k : Int) := by
  induction k with
  | zero => simp [leftTo]
  | succ k ih =>
    unfold leftTo
    split <;> split <;> omega

theorem pick_same {P Q : Nat → Bool} {n : Nat} (h : ∀ i, i < n → P i = Q i) : (pickTo P n).length = (pickTo Q n).length := by rw [pickTo_congr h]
theorem pick_add {P Q : Nat → Bool} {m : Nat} (h1 : P m = false) (h2 : Q m = true) : ∀ n, m < n → (∀ i, i < n → i ≠ m → P i = Q i) → (pickTo Q n).length = (pickTo P n).length + 1 := by
  intro n
  induction n with
  | zero => intro h; omega
  | succ n ih =>
    intro hm h
    by_cases e : m = n
    · subst e
      have := pick_same (P := P) (Q := Q) (n := m) fun i hi => h i (by omega) (by omega)
      rw [pickTo, pickTo, h1, h2]
      simp
      omega
    · have h3 := ih (by omega) fun i hi => h i (by omega)
      have h4 := h n (by omega) (fun h => e h.symm)
      rw [pickTo, pickTo, h4]
      cases Q n <;> simp <;> omega

theorem left_way {n : Int} {l : List Ev} (g : Good n l) {F : Nat → Int} (hall : ∀ i, i < l.length → inC l F i = true) : ∀ k, k ≤ l.length → ((pickTo (fun m => wayB l F k (m : Int)) 21).length : Int) = leftTo l k := by
  intro k
  induction k with
  | zero =>
    intro _
    have : pickTo (fun m => wayB l F 0 (m : Int)) 21 = pickTo (fun _ => false) 21 := pickTo_congr fun _ _ => rfl
    rw [this]
    rfl
  | succ k ih =>
    intro hk
    have ih := ih (by omega)
    have hin := hall k (by omega)
    have st : ∀ m : Int, wayB l F (k + 1) m = if (ev l k).k ≠ 1 ∧ (ev l k).m = m then decide ((ev l k).k = 2) else wayB l F k m := fun m => by
      rw [← trn_way g F (k + 1) hk m, ← trn_way g F k (by omega) m, trn]
      simp only [hin, true_and]
    rw [leftTo]
    rcases g.kind k (by omega) with h | h | h
    · have := pick_same (P := fun m => wayB l F (k + 1) (m : Int)) (Q := fun m => wayB l F k (m : Int)) (n := 21) fun m _ => by
        show wayB l F (k + 1) (m : Int) = wayB l F k (m : Int)
        rw [st, if_neg (fun h' => h'.1 h)]
      rw [if_neg (by omega), if_neg (by omega), ← ih]
      omega
    · obtain ⟨h0, h20⟩ := g.msg k (by omega) (by omega)
      obtain ⟨mm, hmm⟩ := Int.eq_ofNat_of_zero_le h0
      rw [if_pos h, if_neg (by omega), ← ih]
      have := pick_add (P := fun m => wayB l F k (m : Int)) (Q := fun m => wayB l F (k + 1) (m : Int)) (m := mm) (by
        show wayB l F k (mm : Int) = false
        unfold wayB
        have : anyTo (hasC l F 2 (mm : Int)) k = false := by
          rw [← Bool.not_eq_true, anyTo_iff]
          rintro ⟨i, h5, h6⟩
          obtain ⟨_, h7, h8⟩ := (hasC_iff _ _ _ _ _).1 h6
          exact g.send k (by omega) h i h5 ⟨h7, by rw [h8, hmm]⟩
        rw [this]; rfl) (by
        show wayB l F (k + 1) (mm : Int) = true
        rw [st, if_pos ⟨by omega, hmm⟩, decide_eq_true h]) 21 (by omega) (fun i _ hne => by
        show wayB l F k (i : Int) = wayB l F (k + 1) (i : Int)
        rw [st, if_neg (fun h' => hne (by have := h'.2; omega))])
      omega
    · obtain ⟨h0, h20⟩ := g.msg k (by omega) (by omega)
      obtain ⟨mm, hmm⟩ := Int.eq_ofNat_of_zero_le h0
      rw [if_neg (by omega), if_pos h, ← ih]
      have := pick_add (Q := fun m => wayB l F k (m : Int)) (P := fun m => wayB l F (k + 1) (m : Int)) (m := mm) (by
        show wayB l F (k + 1) (mm : Int) = false
        rw [st, if_pos ⟨by omega, hmm⟩, decide_eq_false (by omega)]) (by
        show wayB l F k (mm : Int) = true
        unfold wayB
        have e1 : anyTo (hasC l F 2 (mm : Int)) k = true := by
          obtain ⟨i, h5, h6, h7⟩ := g.sent k (by omega) h
          exact (anyTo_iff _ _).2 ⟨i, h5, (hasC_iff _ _ _ _ _).2 ⟨hall i (by omega), h6, by rw [h7, hmm]⟩⟩
        have e2 : anyTo (hasC l F 3 (mm : Int)) k = false := by
          rw [← Bool.not_eq_true, anyTo_iff]
          rintro ⟨i, h5, h6⟩
          obtain ⟨_, h7, h8⟩ := (hasC_iff _ _ _ _ _).1 h6
          exact g.take k (by omega) h i h5 ⟨h7, by rw [h8, hmm]⟩
        rw [e1, e2]; rfl) 21 (by omega) (fun i _ hne => by
        show wayB l F (k + 1) (i : Int) = wayB l F k (i : Int)
        rw [st, if_neg (fun h' => hne (by have := h'.2; omega))])
      omega

/-- The cut with all events. -/
def vall (l : List Ev) (c : Nat) : List Int := (List.range c).map fun (p : Nat) => (own l (p : Int) l.length : Int)
theorem vall_len (l : List Ev) (c : Nat) : (vall l c).length = c := by simp [vall]
theorem vall_at (l : List Ev) {c p : Nat} (h : p < c) : vat (vall l c) p = (own l (p : Int) l.length : Int) := by
  rw [vat_get _ (by rw [vall_len]; exact h)]
  simp [vall]
theorem vall_in {c : Nat} {l : List Ev} (g : Good (c : Int) l) {i : Nat} (hi : i < l.length) : inC l (vat (vall l c)) i = true := by
  obtain ⟨p, hp, he⟩ := g.procN hi
  rw [inC_at he, vall_at l hp]
  have := own_lt l hi he
  omega
theorem vall_cut {c : Nat} {l : List Ev} (h0 : checkCode (c : Int) l = 0) : cutC (c : Int) l (vall l c) = 0 :=
  cutC_of h0 (vall_len l c) fun p hp => by rw [vall_at l hp]; omega
theorem vall_whole {c : Nat} {l : List Ev} (h0 : checkCode (c : Int) l = 0) : WholeC l (vat (vall l c)) := fun _ _ hi _ _ _ => vall_in (check_good.1 h0).2 hi
theorem vall_left {c : Nat} {l : List Ev} (h0 : checkCode (c : Int) l = 0) : ((wayL l (vat (vall l c))).length : Int) = leftTo l l.length :=
  left_way (check_good.1 h0).2 (fun _ hi => vall_in (check_good.1 h0).2 hi) l.length (Nat.le_refl _)

/-- What the law asks of the messages in transit. -/
structure WayOk (l : List Ev) (xs : List Int) : Prop where
  sent : ∀ k, k < xs.length → ∃ i, i < l.length ∧ (ev l i).k = 2 ∧ (ev l i).m = vat xs k
  rise : ∀ k, k + 1 < xs.length → vat xs k < vat xs (k + 1)
  len : xs.length ≤ 21
theorem wayL_ok (l : List Ev) (F : Nat → Int) : WayOk l (wayL l F) := by
  refine ⟨fun k hk => ?_, fun k hk => ?_, pickTo_len _ _⟩
  · have hm : vat (wayL l F) k ∈ wayL l F := by rw [vat_get _ hk]; exact List.getElem_mem hk
    obtain ⟨m, h1, h2, h3⟩ := (pickTo_mem _ _ _).1 hm
    have h4 : anyTo (hasC l F 2 (m : Int)) l.length = true := by
      have : wayB l F l.length (m : Int) = true := h2
      unfold wayB at this
      rw [Bool.and_eq_true] at this
      exact this.1
    obtain ⟨i, h5, h6⟩ := (anyTo_iff _ _).1 h4
    obtain ⟨_, h7, h8⟩ := (hasC_iff _ _ _ _ _).1 h6
    exact ⟨i, h5, h7, by rw [h8, h3]⟩
  · have hs := pickTo_sorted (fun m => wayB l F l.length (m : Int)) 21
    have := List.pairwise_iff_getElem.1 hs k (k + 1) (by show k < (wayL l F).length; omega) hk (by omega)
    rw [vat_get (wayL l F) (by omega), vat_get (wayL l F) hk]
    exact this
theorem nil_ok (l : List Ev) : WayOk l [] := ⟨fun k hk => by simp at hk, fun k hk => by simp at hk, by simp⟩

#print axioms vall_left
end Go.Proofs.Ytpofmhlmaejmoaa
