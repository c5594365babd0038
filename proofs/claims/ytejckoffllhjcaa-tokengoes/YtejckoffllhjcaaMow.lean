/-
  Words for memory: a slice of moves that the call makes and lengthens.
-/
import Derived.Test.YtejckoffllhjcaaMov
import Derived.Test.YtejckoffllhjcaaRowW
import Derived.Test.YtejckoffllhjcaaRows
import Derived.KernelRfl
import Derived.Laws.OwnMore
import Derived.Deep.AppendLies
import Derived.Deep.AppendSrc
namespace Go.Proofs.Ytejckoffllhjcaa
open Go.RowKit Go.Maps

theorem infoMv : (Try.prog.info? 40).map (fun i => (i.zero, i.size, i.bytes)) = some (some (.agg #[.int .i64 0, .int .i64 0, .int .i64 0, .int .i64 0]), 4, 32) := by kernel_rfl
def cellsM (m : Mv) : List Value := [.int .i64 m.k, .int .i64 m.f, .int .i64 m.t, .int .i64 m.v]
def flatM (l : List Mv) : List Value := l.flatMap cellsM
theorem flatM_len (l : List Mv) : (flatM l).length = l.length * 4 := by
  unfold flatM
  induction l with
  | nil => rfl
  | cons f r ih => rw [List.flatMap_cons, List.length_append, ih, List.length_cons]; show 4 + _ = _; omega
theorem flatM_append (l r : List Mv) : flatM (l ++ r) = flatM l ++ flatM r := by
  unfold flatM
  rw [List.flatMap_append]
theorem flatM_one (m : Mv) : flatM [m] = cellsM m := by simp [flatM]
theorem flatM_at (l : List Mv) {i j : Nat} (hi : i < l.length) (hj : j < 4) : (flatM l)[i * 4 + j]? = (cellsM l[i])[j]? := by
  induction l generalizing i with
  | nil => simp at hi
  | cons f r ih =>
    have e : flatM (f :: r) = cellsM f ++ flatM r := by unfold flatM; rw [List.flatMap_cons]
    rw [e]
    cases i with
    | zero =>
      rw [List.getElem?_append_left (by show 0 * 4 + j < 4; omega), Nat.zero_mul, Nat.zero_add]
      rfl
    | succ i =>
      rw [List.getElem?_append_right (by show 4 ≤ _; omega)]
      have : (i + 1) * 4 + j - (cellsM f).length = i * 4 + j := by show (i + 1) * 4 + j - 4 = _; omega
      rw [this, ih (by simpa using hi)]
      rfl
/-- A slice of moves that the call has made. -/
def OwnMvs (w : World) (B : Nat) (v : Value) (l : List Mv) : Prop := w.ownsRow B 40 4 v l.length (flatM l)
section
variable {w w' : World} {B : Nat} {v : Value} {l : List Mv} {m : Mv}
theorem OwnMvs.push {g cap : Nat} (h : w.ownsRow B 40 4 (.slice (some ⟨g, 0, none⟩) (l.length + 1) cap) (l.length + 1) (flatM l ++ cellsM m)) : OwnMvs w B (.slice (some ⟨g, 0, none⟩) (l.length + 1) cap) (l ++ [m]) := by
  unfold OwnMvs
  rw [flatM_append, flatM_one, List.length_append]
  exact h
theorem OwnMvs.alloc (h : OwnMvs w B v l) (o : Obj) : OwnMvs (w.alloc o) B v l := World.ownsRow.alloc h o
theorem OwnMvs.lt (h : OwnMvs w B v l) : ∀ b, v.ownBlock = some b → B ≤ b := fun b hb => (World.ownsRow.lt h b hb).1
theorem OwnMvs.shape (h : OwnMvs w B v l) : ∃ A cap, v = .slice A l.length cap ∧ l.length ≤ cap ∧ cap ≤ maxLen ∧ Mvs w w.heap.size A l := by
  have hlt := World.ownsRow.lt h
  rcases h.2 with ⟨h7, h8⟩ | ⟨g, cap, cur, hv, hb', hg', hc1, hc2, hc3, hc4⟩
  · exact ⟨none, 0, by rw [h7, h8], by omega, by unfold maxLen; omega, fun q => by omega⟩
  · refine ⟨_, cap, hv, hc1, hc2, fun _ => ⟨g, 0, rfl, (hlt g (by rw [hv]; rfl)).2, fun i hi => ?_⟩⟩
    have key : ∀ j, j < 4 → w.cell? ⟨g, i * 4 + j, none⟩ = (cellsM l[i])[j]? := fun j hj => by
      rw [cell_of_row w g (i * 4 + j) cur 40 (0, 0) hg', ← flatM_at l hi hj, ← hc4, List.getElem?_take, if_pos (by omega)]
      simp
    simp only [Nat.zero_add]
    exact ⟨key 0 (by omega), key 1 (by omega), key 2 (by omega), key 3 (by omega)⟩
end
theorem newsM {w : World} {g : Nat} (m : Mv) (h : g = w.heap.size) : ∀ j u, (cellsM m)[j]? = some u → (w.alloc (.cells #[.int .i64 m.k, .int .i64 m.f, .int .i64 m.t, .int .i64 m.v] 40)).cell? ((⟨g, 0, none⟩ : Addr).add j) = some u := by
  subst h
  exact World.news_of_block (cs := #[.int .i64 m.k, .int .i64 m.f, .int .i64 m.t, .int .i64 m.v]) (fr := (0, 0)) (heap_alloc_new w _)
theorem Mvs.news {w : World} {B : Nat} {b off : Nat} {l : List Mv} (h : Mvs w B (some ⟨b, off, none⟩) l) : ∀ j u, (flatM l)[j]? = some u → w.cell? ((⟨b, off, none⟩ : Addr).add j) = some u := by
  intro j u hj
  have hlt : j < l.length * 4 := by
    rcases Nat.lt_or_ge j (l.length * 4) with h1 | h1
    · exact h1
    · rw [List.getElem?_eq_none (by rw [flatM_len]; exact h1)] at hj; cases hj
  have hadd : (⟨b, off, none⟩ : Addr).add j = ⟨b, off + j, none⟩ := by unfold Addr.add; split <;> simp_all
  rw [hadd]
  obtain ⟨b', off', e, _, hc⟩ := h (by omega)
  simp only [Option.some.injEq, Addr.mk.injEq] at e
  obtain ⟨rfl, rfl, _⟩ := e
  have hi : j / 4 < l.length := by omega
  obtain ⟨c0, c1, c2, c3⟩ := hc (j / 4) hi
  have hjj : j = j / 4 * 4 + j % 4 := by omega
  have hr : j % 4 < 4 := by omega
  rw [hjj, flatM_at l hi hr] at hj
  generalize j % 4 = r at *
  generalize j / 4 = i at *
  subst hjj
  have : r = 0 ∨ r = 1 ∨ r = 2 ∨ r = 3 := by omega
  rcases this with rfl | rfl | rfl | rfl
  · rw [Nat.add_zero, c0, ← hj]; rfl
  · rw [← Nat.add_assoc, c1, ← hj]; rfl
  · rw [← Nat.add_assoc, c2, ← hj]; rfl
  · rw [← Nat.add_assoc, c3, ← hj]; rfl
theorem flatM_one' (l : List Mv) : ∀ u ∈ flatM l, u.oneCell' = true := by
  intro u hu
  obtain ⟨m, _, hm⟩ := List.mem_flatMap.1 hu
  simp [cellsM] at hm
  rcases hm with rfl | rfl | rfl | rfl <;> rfl

/-- 'append([]api.Move{}, l...)'. -/
theorem wpList_copyM {w : World} {ops : Array Oper} {rest : List Oper} {o : Oper} {a : Act} {Q : Exit → Act → World → Prop} (hgd : o.guard = none) (s x : Operand)
    (ho : o.op = .call { callee := .builtin .append, args := #[s, x], argTypes := #[23, 23] }) (j0 : TypeInfo) (hJi : Try.prog.info? 40 = some j0) (hJz : j0.zero = some (.agg #[.int .i64 0, .int .i64 0, .int .i64 0, .int .i64 0])) (hJs : j0.size = 4) (hJb : j0.bytes = 32)
    (B g0 : Nat) (hs : a.eval s = .slice (some ⟨g0, 0, none⟩) 0 0) (hown : w.ownsRow B 40 4 (.slice (some ⟨g0, 0, none⟩) 0 0) 0 []) (A : Option Addr) (cap : Nat) (l : List Mv) (hx : a.eval x = .slice A l.length cap) (hN : Mvs w w.heap.size A l) (hlen : l.length ≤ 1000) (hbase : B ≤ w.heap.size)
    (h : ∀ v' w', OwnMvs w' B v' l → w.grownBy w' (some g0) → wpList Try.prog ops Q rest (a.put o.dst v') w') : wpList Try.prog ops Q (o :: rest) a w := by
  cases A with
  | none =>
    have h0 : l = [] := by
      cases l with
      | nil => rfl
      | cons m r =>
        obtain ⟨b, off, e, _⟩ := hN (by simp)
        cases e
    subst h0
    have hrun := run_append_room_src (P := Try.prog) w 23 23 o.type 40 j0 Try.underlying23 hJi g0 0 0 0 (.slice none 0 cap) 0 [] (Src.ofNil w Try.underlying23 cap) (Nat.le_refl _) (fun j hj => absurd hj (by simp)) (fun j hj => absurd hj (by simp))
    refine wpList_plain hgd fun K hK => ?_
    unfold Oper.wp execOp
    simp only [List.length_nil] at hx
    simp only [ho, resolve, invoke, builtin, Sem.run_bind, Sem.run_pure, Result.andThen_ok, List.map_toArray, List.map_cons, List.map_nil, hs, hx, hrun]
    exact hK _ _ (h _ w hown ⟨rfl, rfl, rfl, Nat.le_refl _, fun _ _ _ => rfl⟩)
  | some ad =>
    have hnews : ∀ j u, (flatM l)[j]? = some u → w.cell? (ad.add j) = some u := by
      by_cases h0 : l = []
      · subst h0; intro j u hj; simp [flatM] at hj
      · obtain ⟨b, off, e, _, _⟩ := hN (List.length_pos_iff.2 h0)
        injection e with e
        subst e
        exact hN.news
    refine wpList_append_own_at w hgd s x 23 ho B 40 j0 _ 4 32 Try.underlying23 hJi hJz hJs hJb rfl (by decide) _ 0 [] hs hown ad l.length cap (flatM l) hx (flatM_len l) hnews (flatM_one' l) (by unfold maxLen; omega) (by omega) hbase ?_
    intro v' w' h1 h2 _ _
    rw [Nat.zero_add, List.nil_append] at h1
    exact h v' w' h1 h2

#print axioms wpList_copyM
end Go.Proofs.Ytejckoffllhjcaa
