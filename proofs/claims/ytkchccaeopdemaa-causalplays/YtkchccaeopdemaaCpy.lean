/-
  'append([]int{}, xs...)' at whatever slice of ints; a result in one cell; a base that is lower.
-/
import Derived.Test.YtkchccaeopdemaaLbr
import Derived.Deep.AppendSrc
import Derived.Deep.AppendLies
import Derived.Laws.OwnMore
namespace Go.Proofs.Ytkchccaeopdemaa
open Go.RowKit Go.Maps

theorem nums_news {w : World} {B : Nat} {b off : Nat} {l : List Int} (h : Nums w B (some ⟨b, off, none⟩) l) : ∀ j u, (intVals l)[j]? = some u → w.cell? ((⟨b, off, none⟩ : Addr).add j) = some u := by
  intro j u hj
  have hlt : j < l.length := by
    rcases Nat.lt_or_ge j l.length with h1 | h1
    · exact h1
    · rw [List.getElem?_eq_none (by rw [intVals_len]; exact h1)] at hj; cases hj
  have hadd : (⟨b, off, none⟩ : Addr).add j = ⟨b, off + j, none⟩ := by unfold Addr.add; split <;> simp_all
  rw [hadd]
  obtain ⟨b', off', e, _, hc⟩ := h (by omega)
  simp only [Option.some.injEq, Addr.mk.injEq] at e
  obtain ⟨rfl, rfl, _⟩ := e
  rw [hc j hlt, ← hj]
  simp [intVals, hlt]
theorem intVals_one (l : List Int) : ∀ u ∈ intVals l, u.oneCell' = true := by
  intro u hu
  obtain ⟨x, _, rfl⟩ := List.mem_map.1 hu
  rfl
/-- 'append([]int{}, l...)'. -/
theorem wpList_copyI {w : World} {ops : Array Oper} {rest : List Oper} {o : Oper} {a : Act} {Q : Exit → Act → World → Prop} (hgd : o.guard = none) (s x : Operand)
    (ho : o.op = .call { callee := .builtin .append, args := #[s, x], argTypes := #[37, 37] }) (j0 : TypeInfo) (hJi : Try.prog.info? 3 = some j0) (hJz : j0.zero = some (.int .i64 0)) (hJs : j0.size = 1) (hJb : j0.bytes = 8)
    (B g0 : Nat) (hs : a.eval s = .slice (some ⟨g0, 0, none⟩) 0 0) (hown : w.ownsRow B 3 1 (.slice (some ⟨g0, 0, none⟩) 0 0) 0 []) (A : Option Addr) (cap : Nat) (l : List Int) (hx : a.eval x = .slice A l.length cap) (hN : Nums w w.heap.size A l) (hlen : l.length ≤ 1000) (hbase : B ≤ w.heap.size)
    (h : ∀ v' w', OwnInts w' B v' l → w.grownBy w' (some g0) → wpList Try.prog ops Q rest (a.put o.dst v') w') : wpList Try.prog ops Q (o :: rest) a w := by
  cases A with
  | none =>
    have h0 : l = [] := by
      cases l with
      | nil => rfl
      | cons m r =>
        obtain ⟨b, off, e, _⟩ := hN (by simp)
        cases e
    subst h0
    have hrun := run_append_room_src (P := Try.prog) w 37 37 o.type 3 j0 Try.underlying37 hJi g0 0 0 0 (.slice none 0 cap) 0 [] (Src.ofNil w Try.underlying37 cap) (Nat.le_refl _) (fun j hj => absurd hj (by simp)) (fun j hj => absurd hj (by simp))
    refine wpList_plain hgd fun K hK => ?_
    unfold Oper.wp execOp
    simp only [List.length_nil] at hx
    simp only [ho, resolve, invoke, builtin, Sem.run_bind, Sem.run_pure, Result.andThen_ok, List.map_toArray, List.map_cons, List.map_nil, hs, hx, hrun]
    exact hK _ _ (h _ w hown ⟨rfl, rfl, rfl, Nat.le_refl _, fun _ _ _ => rfl⟩)
  | some ad =>
    have hnews : ∀ j u, (intVals l)[j]? = some u → w.cell? (ad.add j) = some u := by
      by_cases h0 : l = []
      · subst h0; intro j u hj; simp [intVals] at hj
      · obtain ⟨b, off, e, _, _⟩ := hN (List.length_pos_iff.2 h0)
        injection e with e
        subst e
        exact nums_news hN
    refine wpList_append_own_at w hgd s x 37 ho B 3 j0 _ 1 8 Try.underlying37 hJi hJz hJs hJb rfl (by decide) _ 0 [] hs hown ad l.length cap (intVals l) hx (by rw [intVals_len, Nat.mul_one]) hnews (intVals_one l) (by unfold maxLen; omega) (by omega) hbase ?_
    intro v' w' h1 h2 _ _
    rw [Nat.zero_add, List.nil_append] at h1
    exact h v' w' h1 h2
theorem owns_low {w : World} {B B' : Nat} {e : TypeId} {size n : Nat} {v : Value} {xs : List Value} (h : w.ownsRow B e size v n xs) (hb : B' ≤ B) : w.ownsRow B' e size v n xs := by
  refine ⟨h.1, ?_⟩
  rcases h.2 with h7 | ⟨g, cap, cur, hv, h1, rest⟩
  · exact .inl h7
  · exact .inr ⟨g, cap, cur, hv, Nat.le_trans hb h1, rest⟩
theorem own_of_ints {w : World} {B : Nat} {v : Value} {q : List Nat} (h : OwnInts w B v (zs q)) : OwnN w B v q := by
  unfold OwnInts at h
  rw [zs_len, ← nv_zs] at h
  exact h
theorem results_cell1 {fn : Func} {p : Tmp} {ty : TypeId} (h : fn.results = #[.cell p ty]) (tmps : Array Value) (P : Program) (w : World) :
    (results fn tmps).run P w = ((asAddr (tmps.getD p undef)).run P w).andThen fun a w₁ => (loadVar ty a).run P w₁ := by
  simp only [results, h]
  simp [Sem.run_bind, Result.andThen]

#print axioms wpList_copyI
end Go.Proofs.Ytkchccaeopdemaa
