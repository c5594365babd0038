/-
  A region that draws its order, at the point from which on the guard strikes out all that is left but the last operation. General: over any program.
-/
import Derived.RegionTactic
namespace Go.Proofs.Ytngagfoikpjpmaa

/-- Operation i is struck out by its guard, and its slot is empty. -/
def Skips (ops : Array Oper) (a : Act) (i : Nat) : Prop := ∃ o, ops[i]? = some o ∧ Region.wanted o (yielded ops a.tmps) = false ∧ a.put o.dst undef = a

/-- From here on only operations of us, and last of all p. -/
def skipB (md : Region.Mode) (ops : Array Oper) (us : List Nat) (p : Nat) : Nat → Array Bool → Bool
  | 0, _ => false
  | f + 1, listed => !(Region.ready md ops listed).isEmpty && (Region.ready md ops listed).all fun i => if i = p then (Region.ready md ops (listed.setIfInBounds i true)).isEmpty else us.contains i && skipB md ops us p f (listed.setIfInBounds i true)

theorem skip_any {P : Program} {md : Region.Mode} {ops : Array Oper} {Q : Exit → Act → World → Prop} {a : Act} {w : World} {us : List Nat} {p : Nat} (hU : ∀ i, us.contains i = true → Skips ops a i) (hp : wpOp P ops Q p (Q .normal) a w) : ∀ f listed, skipB md ops us p f listed = true → wpAny P md ops Q f listed a w := by
  intro f
  induction f with
  | zero => intro listed h; cases h
  | succ f ih =>
    intro listed h
    unfold skipB at h
    rw [Bool.and_eq_true, List.all_eq_true] at h
    refine ⟨fun h0 => absurd h.1 (by rw [h0]; simp), fun i hi => ?_⟩
    have hh := h.2 i hi
    by_cases e : i = p
    · rw [if_pos e] at hh
      subst e
      exact wpOp_mono (fun a' w' h' => wpAny_done (by simpa using hh) h' f) hp
    · rw [if_neg e, Bool.and_eq_true] at hh
      obtain ⟨o, h1, h2, h3⟩ := hU i hh.1
      have := ih _ hh.2
      unfold wpOp
      rw [h1]
      simp only [h2, Bool.false_eq_true, if_false, h3]
      exact this

#print axioms skip_any
end Go.Proofs.Ytngagfoikpjpmaa
