/-
  Closing a table (Warshall): plain.
-/
import Derived.Test.YtpofmhlmaejmoaaValid
namespace Go.Proofs.Ytpofmhlmaejmoaa

def Via (R : Nat → Nat → Prop) : Nat → Nat → Nat → Prop
  | 0, i, j => R i j
  | k + 1, i, j => Via R k i j ∨ (Via R k i k ∧ Via R k k j)

theorem Via.of {R : Nat → Nat → Prop} {i j : Nat} (h : R i j) : ∀ k, Via R k i j
  | 0 => h
  | k + 1 => .inl (Via.of h k)

theorem Via.join {R : Nat → Nat → Prop} : ∀ (k : Nat) {i m j : Nat}, m < k → Via R k i m → Via R k m j → Via R k i j
  | 0, _, _, _, h, _, _ => absurd h (Nat.not_lt_zero _)
  | k + 1, i, m, j, h, h1, h2 => by
    by_cases e : m = k
    · subst e
      have a1 : Via R m i m := by rcases h1 with h1 | h1 <;> first | exact h1 | exact h1.1
      have a2 : Via R m m j := by rcases h2 with h2 | h2 <;> first | exact h2 | exact h2.2
      exact .inr ⟨a1, a2⟩
    · have hm : m < k := by omega
      rcases h1 with h1 | ⟨h1, h1'⟩
      · rcases h2 with h2 | ⟨h2, h2'⟩
        · exact .inl (Via.join k hm h1 h2)
        · exact .inr ⟨Via.join k hm h1 h2, h2'⟩
      · rcases h2 with h2 | ⟨h2, h2'⟩
        · exact .inr ⟨h1, Via.join k hm h1' h2⟩
        · exact .inr ⟨h1, h2'⟩

theorem via_hb {l : List Ev} {i j : Nat} (h : HB l i j) : Via (Dir l) l.length i j := by
  induction h with
  | single h => exact Via.of h _
  | @tail b c _ h2 ih => exact Via.join _ (by have := h2.1; have := h2.2.1; omega) ih (Via.of h2 _)

/-- A table of bools, turned at one place. -/
def upd2 (f : Nat → Nat → Bool) (i j : Nat) (v : Bool) : Nat → Nat → Bool := fun a b => if a = i ∧ b = j then v else f a b

def Sound (l : List Ev) (f : Nat → Nat → Bool) : Prop := ∀ i j, f i j = true → HB l i j
def Comp (l : List Ev) (k : Nat) (f : Nat → Nat → Bool) : Prop := ∀ i j, i < l.length → j < l.length → Via (Dir l) k i j → f i j = true
/-- In round k: what stands ahead of (i, j) is through. -/
def CompAt (l : List Ev) (k i j : Nat) (f : Nat → Nat → Bool) : Prop :=
  Sound l f ∧ Comp l k f ∧ ∀ a b, a < l.length → b < l.length → (a < i ∨ (a = i ∧ b < j)) → Via (Dir l) (k + 1) a b → f a b = true

theorem CompAt.start {l : List Ev} {k : Nat} {f : Nat → Nat → Bool} (hs : Sound l f) (hc : Comp l k f) : CompAt l k 0 0 f :=
  ⟨hs, hc, fun a b _ _ h => by omega⟩

theorem CompAt.step {l : List Ev} {k i j : Nat} {f : Nat → Nat → Bool} (h : CompAt l k i j f) (hk : k < l.length) (hi : i < l.length) (hj : j < l.length) : CompAt l k i (j + 1) (upd2 f i j (f i j || (f i k && f k j))) := by
  obtain ⟨hs, hc, ha⟩ := h
  have grow : ∀ a b, f a b = true → upd2 f i j (f i j || (f i k && f k j)) a b = true := by
    intro a b hab
    unfold upd2
    split
    · rename_i e; obtain ⟨rfl, rfl⟩ := e; rw [hab]; rfl
    · exact hab
  refine ⟨fun a b hab => ?_, fun a b h1 h2 h3 => grow a b (hc a b h1 h2 h3), fun a b h1 h2 h3 h4 => ?_⟩
  · unfold upd2 at hab
    by_cases e : a = i ∧ b = j
    · rw [if_pos e] at hab
      obtain ⟨rfl, rfl⟩ := e
      rw [Bool.or_eq_true, Bool.and_eq_true] at hab
      rcases hab with hab | hab
      · exact hs a b hab
      · exact (hs a k hab.1).trans (hs k b hab.2)
    · rw [if_neg e] at hab; exact hs a b hab
  · by_cases e : a = i ∧ b = j
    · obtain ⟨rfl, rfl⟩ := e
      unfold upd2
      rw [if_pos ⟨rfl, rfl⟩]
      rcases h4 with h4 | ⟨h4, h5⟩
      · rw [hc a b h1 h2 h4]; rfl
      · rw [hc a k h1 hk h4, hc k b hk h2 h5]; simp
    · exact grow a b (ha a b h1 h2 (by omega) h4)

theorem CompAt.row {l : List Ev} {k i : Nat} {f : Nat → Nat → Bool} (h : CompAt l k i l.length f) : CompAt l k (i + 1) 0 f :=
  ⟨h.1, h.2.1, fun a b h1 h2 h3 => h.2.2 a b h1 h2 (by omega)⟩
theorem CompAt.done {l : List Ev} {k : Nat} {f : Nat → Nat → Bool} (h : CompAt l k l.length 0 f) : Sound l f ∧ Comp l (k + 1) f :=
  ⟨h.1, fun a b h1 h2 h3 => h.2.2 a b h1 h2 (.inl h1) h3⟩
theorem comp_hb {l : List Ev} {f : Nat → Nat → Bool} (h : Sound l f ∧ Comp l l.length f) {i j : Nat} (hi : i < l.length) (hj : j < l.length) : f i j = true ↔ HB l i j :=
  ⟨h.1 i j, fun hh => h.2 i j hi hj (via_hb hh)⟩

/-- The table to begin with. -/
def linkB (a b : Ev) : Bool := (a.p == b.p) || ((a.k == 2) && (b.k == 3) && (a.m == b.m))
theorem linkB_iff (a b : Ev) : linkB a b = true ↔ Link a b := by
  unfold linkB Link
  simp [and_assoc]
def dirB (l : List Ev) (i j : Nat) : Bool := decide (i < j) && decide (j < l.length) && linkB (ev l i) (ev l j)
theorem dirB_iff (l : List Ev) (i j : Nat) : dirB l i j = true ↔ Dir l i j := by
  unfold dirB Dir
  rw [Bool.and_eq_true, Bool.and_eq_true, decide_eq_true_eq, decide_eq_true_eq, linkB_iff, and_assoc]
theorem dirB_start (l : List Ev) : Sound l (dirB l) ∧ Comp l 0 (dirB l) :=
  ⟨fun i j h => .of ((dirB_iff l i j).1 h), fun i j _ _ h => (dirB_iff l i j).2 h⟩

#print axioms comp_hb
end Go.Proofs.Ytpofmhlmaejmoaa
