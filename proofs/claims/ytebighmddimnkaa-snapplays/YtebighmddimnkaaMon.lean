/-
  Scripts: first moves, and what stays done.
-/
import Derived.Test.YtebighmddimnkaaSnp
namespace Go.Proofs.Ytebighmddimnkaa

theorem mv_take (l : List Mv) {q k : Nat} (h : k < q) : mv (l.take q) k = mv l k := by
  unfold mv
  rw [List.getElem?_take, if_pos h]
theorem stAt_take (n : Nat) (l : List Mv) {q k : Nat} (h : k ≤ q) : stAt n (l.take q) k = stAt n l k := by
  induction k with
  | zero => rfl
  | succ k ih => rw [stAt, stAt, ih (by omega), mv_take l (by omega)]
theorem codeAt_take (n : Nat) (l : List Mv) {q k : Nat} (h : k < q) : codeAt n (l.take q) k = codeAt n l k := by
  unfold codeAt
  rw [stAt_take n l (by omega), mv_take l h]
theorem record_rc (n : Nat) (S : St) (i a : Nat) (h : S.rc a = true) : (S.record n i).rc a = true := by
  show up1 S.rc i true a = true
  unfold up1
  split
  · rfl
  · exact h
theorem take_rc (n : Nat) (S : St) (i j a : Nat) (h : S.rc a = true) : (S.take n i j).rc a = true := by
  unfold St.take
  split
  · show ((S.pop i j).recIf n j).rc a = true
    unfold St.recIf
    split
    · exact h
    · exact record_rc n (S.pop i j) j a h
  · unfold St.got
    split <;> exact h
theorem take_cl (n : Nat) (S : St) (i j a b : Nat) (h : S.cl a b = true) : (S.take n i j).cl a b = true := by
  unfold St.take
  split
  · have e : ((S.pop i j).recIf n j).cl = S.cl := by unfold St.recIf; split <;> rfl
    show up2 ((S.pop i j).recIf n j).cl i j true a b = true
    unfold up2
    split
    · rfl
    · rw [e]; exact h
  · unfold St.got
    split <;> exact h
theorem step_rc (n : Nat) (S : St) (m : Mv) (a : Nat) (h : S.rc a = true) : (stepS n S m).1.rc a = true := by
  unfold stepS
  repeat' split
  all_goals first
    | exact h
    | exact record_rc n S _ a h
    | exact take_rc n S _ _ a h
theorem step_cl (n : Nat) (S : St) (m : Mv) (a b : Nat) (h : S.cl a b = true) : (stepS n S m).1.cl a b = true := by
  unfold stepS
  repeat' split
  all_goals first
    | exact h
    | exact take_cl n S _ _ a b h
theorem done_step {n : Nat} {S : St} (h : DoneS n S) (m : Mv) : DoneS n (stepS n S m).1 := ⟨fun i hi => step_rc n S m i (h.1 i hi), fun i j hi hj hne => step_cl n S m i j (h.2 i j hi hj hne)⟩
theorem done_later {n : Nat} (l : List Mv) {q k : Nat} (hk : q ≤ k) (h : DoneS n (stAt n l q)) : DoneS n (stAt n l k) := by
  induction k with
  | zero => have : q = 0 := by omega
            subst this; exact h
  | succ k ih =>
    by_cases e : q = k + 1
    · subst e; exact h
    · exact done_step (ih (by omega)) _

#print axioms done_later
end Go.Proofs.Ytebighmddimnkaa
