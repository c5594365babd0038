/-
  A region that draws its order, inside the round of a range over a function: where its operations but the last ones only read, and none calls: one walk, in the text's order. General: over any program.
-/
import Derived.StillTail
import Derived.StillTactics
import Derived.OrdersIn
import Derived.TacticsIn
namespace Go.Proofs.Ytiokfehckhbnaaa

/-- Operations that yield a value, or nothing. -/
def calmOp : Op → Bool
  | .move _ => true
  | .assign _ => true
  | .load _ _ => true
  | .store _ _ _ => true
  | .indexAddr _ _ _ => true
  | .fieldAddr _ _ _ => true
  | .call c => match c.callee with
    | .builtin .max => true
    | .builtin .min => true
    | .builtin .len => true
    | _ => false
  | _ => false

/-- What an operation of that kind may come to. -/
def CalmEnd (r : Result Next) : Prop := (∃ v w', r = .ok (.value v) w') ∨ (∃ w', r = .ok .skip w') ∨ ∃ s w', r = .halt s w'

theorem calm_value {P : Program} (s : Sem Value) (w : World) : CalmEnd ((do pure (Next.value (← s)) : Sem Next).run P w) := by
  rw [Sem.run_bind]
  cases h : s.run P w with
  | ok v w' => exact .inl ⟨v, w', rfl⟩
  | halt e w' => exact .inr (.inr ⟨e, w', rfl⟩)
theorem calm_unit {P : Program} (s : Sem Unit) (w : World) : CalmEnd ((do s; pure Next.skip : Sem Next).run P w) := by
  rw [Sem.run_bind]
  cases h : s.run P w with
  | ok v w' => exact .inr (.inl ⟨w', rfl⟩)
  | halt e w' => exact .inr (.inr ⟨e, w', rfl⟩)

theorem calm_run {P : Program} (o : Oper) (h : calmOp o.op = true) (ρ : Operand → Value) (w : World) : CalmEnd ((execOp ρ o).run P w) := by
  unfold execOp
  cases ho : o.op with
  | move x => exact .inl ⟨_, _, rfl⟩
  | assign x => exact .inl ⟨_, _, rfl⟩
  | load t a => exact calm_value _ w
  | store t a x => exact calm_unit _ w
  | indexAddr t x i => exact calm_value _ w
  | fieldAddr t x i => exact calm_value _ w
  | call c =>
    rw [ho] at h
    obtain ⟨callee, args, argTypes⟩ := c
    cases callee with
    | builtin b =>
      cases b with
      | max => exact calm_value _ w
      | min => exact calm_value _ w
      | len => exact calm_value _ w
      | _ => simp [calmOp] at h
    | _ => simp [calmOp] at h
  | _ => rw [ho] at h; simp [calmOp] at h

theorem calm_defer (o : Oper) (h : calmOp o.op = true) : ∀ c, o.op ≠ .defer c := by
  intro c hc
  rw [hc] at h
  simp [calmOp] at h

section
variable {F : Fence} {n : Nat} {P : Program} {ops : Array Oper} {K : Act → World → Prop} {Q : Exit → Act → World → Prop}

theorem calm_in (hF : ∀ f, F.fn f) (o : Oper) (ho : calmOp o.op = true) {N N' : Act → World → Prop} (hN : ∀ a w, N a w → N' a w) {a : Act} {w : World} (h : o.wp P a w N (fun e a w => e = .normal ∧ K a w)) : o.wpIn F n P a w N' Q := by
  refine ⟨fun f _ => hF f, ?_⟩
  rw [Oper.semAt_eq _ _ _ (calm_defer o ho)]
  unfold Oper.wp at h
  rcases calm_run (P := P) o ho a.eval w with ⟨v, w', hr⟩ | ⟨w', hr⟩ | ⟨s, w', hr⟩
  · rw [hr] at h ⊢; exact hN _ _ h
  · rw [hr] at h ⊢; exact hN _ _ h
  · rw [hr] at h
    cases s with
    | panic v => exact absurd h.1 (by intro hh; cases hh)
    | _ => exact h.elim

theorem ops_in (hF : ∀ f, F.fn f) (hc : ∀ (i : Nat) (o : Oper), ops[i]? = some o → calmOp o.op = true) (hQ : ∀ a w, K a w → Q .normal a w) :
    ∀ (l : List Nat) (a : Act) (w : World), wpOps P ops (fun e a w => e = .normal ∧ K a w) l a w → wpOpsIn F n P ops Q l a w := by
  intro l
  induction l with
  | nil => exact fun a w h => hQ a w h.2
  | cons i rest ih =>
    intro a w h
    unfold wpOps at h
    unfold wpOpsIn
    cases ho : ops[i]? with
    | none => rw [ho] at h; exact ih a w h
    | some o =>
      rw [ho] at h
      simp only at h ⊢
      by_cases hw : Region.wanted o (yielded ops a.tmps) = true
      · rw [if_pos hw] at h ⊢
        rcases h with h | ⟨_, _, _, h, _⟩
        · exact calm_in hF o (hc i o ho) ih h
        · cases h
      · rw [if_neg hw] at h ⊢
        exact ⟨fun f _ => hF f, ih _ _ h⟩

/-- The region, walked in the text's order: k operations that read, then the rest. -/
theorem wpIn_round_tail {id : Nat} {a : Act} {w : World} {l : List Oper} (k : Nat) (hF : ∀ f, F.fn f) (hm : P.follows .mixedOrders = true) (hB : Region.lexTailB .any l.toArray k = true) (hcalm : (l.all fun o => calmOp o.op) = true)
    (h : wpStill P l.toArray w.drew (fun a' => wpList P l.toArray (fun e a w => e = .normal ∧ Q .normal a w) (l.drop k) a' w.drew) (l.take k) a) : (Code.region id l.toArray true).wpIn F n P Q a w := by
  refine wpIn_region_draw fun t => ?_
  refine ops_in (K := Q .normal) hF (fun i o hi => ?_) (fun _ _ h => h) _ a w.drew ?_
  · rw [List.all_eq_true] at hcalm
    refine hcalm o ?_
    have := List.mem_of_getElem? (by simpa using hi : l[i]? = some o)
    exact this
  · simp only [Region.lexTailB, Bool.and_eq_true, decide_eq_true_eq] at hB
    have hlen : k < l.length := by simpa using hB.1.1.1.2
    have htake : (l.take k).length = k := by simp; omega
    have hdrop : (l.drop k).length = l.toArray.size - k := by simp
    have start : HeadInv .any l.toArray k (Array.replicate l.toArray.size false) :=
      ⟨by simp, fun j oj _ hl => (by rw [getD_replicate_false] at hl; cases hl), fun t _ ht => getD_in (by simpa using ht) (getD_replicate_false _ _)⟩
    have head := wpAnyL_lex (md := .any) (g := l.toArray.size - k) hB.1.1.1.1 hB.1.1.2 hB.1.2 hB.1.1.1.2 (l.take k) 0 _ a
      (fun j hj => by rw [htake] at hj; simp [hj]) (by omega) start (by rw [htake]; exact hB.2) h
    have whole := wpAny_of_head (Q' := fun e a w => e = .normal ∧ Q .normal a w) (g := l.toArray.size - k)
      (fun listed a' hL => by
        have := wpAny_of_seq (md := .any) (Q' := fun e a w => e = .normal ∧ Q .normal a w) (l.drop k) k listed a' w.drew (fun j => by simp [List.getElem?_drop]) (by rw [hdrop]; exact hL.1) hL.2
        rw [hdrop] at this; exact this) _ _ _ head
    have hsum : k + (l.toArray.size - k) = l.toArray.size := by simp; omega
    rw [htake, hsum] at whole
    have := wpAny_sound l.toArray.size t _ a w.drew whole
    simp only [Region.schedule, hm, Bool.true_or, if_true]
    exact this
end

#print axioms wpIn_round_tail
end Go.Proofs.Ytiokfehckhbnaaa
