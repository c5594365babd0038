/-
  Words for memory: slices of links that the call makes.
-/
import Derived.Test.YtieicimoolegoaaFsk
import Derived.Test.YtieicimoolegoaaIntW
import Derived.Laws.OwnMore
import Derived.Deep.AppendLies
import Derived.Deep.AppendSrc
namespace Go.Proofs.Ytieicimoolegoaa
open Go.RowKit Go.Maps
set_option linter.unusedVariables false

theorem row_ne {w : World} {a b : Nat} {t t' : TypeId} {xs ys : List Value} (h : Row w a t xs) (h' : Row w b t' ys) (hne : t ≠ t') : a ≠ b := by
  intro e
  subst e
  unfold Row at h h'
  rw [h] at h'
  injection h' with h'
  injection h' with _ h'
  exact hne h'
theorem infoLk : (Try.prog.info? 43).map (fun i => (i.zero, i.size, i.bytes)) = some (some (.agg #[.int .i64 0, .int .i64 0]), 2, 16) := by kernel_rfl
def cellsK (m : Lk) : List Value := [.int .i64 m.a, .int .i64 m.b]
def flatK (l : List Lk) : List Value := l.flatMap cellsK
theorem flatK_len (l : List Lk) : (flatK l).length = l.length * 2 := by
  unfold flatK
  induction l with
  | nil => rfl
  | cons f r ih => rw [List.flatMap_cons, List.length_append, ih, List.length_cons]; show 2 + _ = _; omega
theorem flatK_append (l r : List Lk) : flatK (l ++ r) = flatK l ++ flatK r := by unfold flatK; rw [List.flatMap_append]
theorem flatK_one (m : Lk) : flatK [m] = cellsK m := by simp [flatK]
theorem flatK_at (l : List Lk) {i j : Nat} (hi : i < l.length) (hj : j < 2) : (flatK l)[i * 2 + j]? = (cellsK l[i])[j]? := by
  induction l generalizing i with
  | nil => simp at hi
  | cons f r ih =>
    have e : flatK (f :: r) = cellsK f ++ flatK r := by unfold flatK; rw [List.flatMap_cons]
    rw [e]
    cases i with
    | zero =>
      rw [List.getElem?_append_left (by show 0 * 2 + j < 2; omega), Nat.zero_mul, Nat.zero_add]
      rfl
    | succ i =>
      rw [List.getElem?_append_right (by show 2 ≤ _; omega)]
      have : (i + 1) * 2 + j - (cellsK f).length = i * 2 + j := by show (i + 1) * 2 + j - 2 = _; omega
      rw [this, ih (by simpa using hi)]
      rfl
theorem flatK_one' (l : List Lk) : ∀ u ∈ flatK l, u.oneCell' = true := by
  intro u hu
  obtain ⟨m, _, hm⟩ := List.mem_flatMap.1 hu
  simp [cellsK] at hm
  rcases hm with rfl | rfl <;> rfl
/-- A slice of links that the call has made, and lengthens. -/
def OwnL (w : World) (B : Nat) (v : Value) (l : List Lk) : Prop := w.ownsRow B 43 2 v l.length (flatK l)
theorem OwnL.push {w : World} {B g cap : Nat} {l : List Lk} {m : Lk} (h : w.ownsRow B 43 2 (.slice (some ⟨g, 0, none⟩) (l.length + 1) cap) (l.length + 1) (flatK l ++ cellsK m)) : OwnL w B (.slice (some ⟨g, 0, none⟩) (l.length + 1) cap) (l ++ [m]) := by
  unfold OwnL
  rw [flatK_append, flatK_one, List.length_append]
  exact h
theorem OwnL.nil (w : World) (B : Nat) : OwnL w B (.slice none 0 0) [] := ⟨rfl, .inl ⟨rfl, rfl⟩⟩
theorem newsK {w : World} {g : Nat} (m : Lk) (h : g = w.heap.size) : ∀ j u, (cellsK m)[j]? = some u → (w.alloc (.cells #[.int .i64 m.a, .int .i64 m.b] 43)).cell? ((⟨g, 0, none⟩ : Addr).add j) = some u := by
  subst h
  exact World.news_of_block (cs := #[.int .i64 m.a, .int .i64 m.b]) (fr := (0, 0)) (heap_alloc_new w _)

/-- The cells of a row begin with n links that a function gives. -/
def BegF (cur : List Value) (n : Nat) (f : Nat → Lk) : Prop := ∀ k, k < n → cur[k * 2]? = some (.int .i64 (f k).a) ∧ cur[k * 2 + 1]? = some (.int .i64 (f k).b)
theorem BegF.congr {cur : List Value} {n : Nat} {f f' : Nat → Lk} (h : BegF cur n f) (e : ∀ k, k < n → f k = f' k) : BegF cur n f' := fun k hk => by rw [← e k hk]; exact h k hk
theorem getSome_lt {cur : List Value} {k : Nat} {v : Value} (h : cur[k]? = some v) : k < cur.length := by
  rcases Nat.lt_or_ge k cur.length with h1 | h1
  · exact h1
  · rw [List.getElem?_eq_none h1] at h; cases h
theorem BegF.set {cur : List Value} {n : Nat} {f f' : Nat → Lk} (h : BegF cur n f) {k : Nat} (hk : k < n) (x : Lk) (h1 : f' k = x) (h2 : ∀ j, j < n → j ≠ k → f' j = f j) : BegF ((cur.set (k * 2) (.int .i64 x.a)).set (k * 2 + 1) (.int .i64 x.b)) n f' := by
  intro j hj
  obtain ⟨a1, a2⟩ := h j hj
  obtain ⟨b1, b2⟩ := h k hk
  have l1 := getSome_lt b1
  have l2 := getSome_lt b2
  by_cases e : j = k
  · subst e
    rw [h1]
    refine ⟨?_, ?_⟩
    · rw [List.getElem?_set_ne (by omega), List.getElem?_set_self l1]
    · rw [List.getElem?_set_self (by rw [List.length_set]; exact l2)]
  · rw [h2 j hj e]
    refine ⟨?_, ?_⟩
    · rw [List.getElem?_set_ne (by omega), List.getElem?_set_ne (by omega), a1]
    · rw [List.getElem?_set_ne (by omega), List.getElem?_set_ne (by omega), a2]
section
variable {w w' : World} {g B n : Nat} {cur : List Value} {f : Nat → Lk}
theorem BegF.cells (h : BegF cur n f) (hR : Row w g 43 cur) {k : Nat} (hk : k < n) : w.cell? ⟨g, k * 2, none⟩ = some (.int .i64 (f k).a) ∧ w.cell? ⟨g, k * 2 + 1, none⟩ = some (.int .i64 (f k).b) := by
  obtain ⟨a1, a2⟩ := h k hk
  have key : ∀ m v, cur[m]? = some v → w.cell? ⟨g, m, none⟩ = some v := fun m v e => by
    rw [cell_of_row w g m cur.toArray 43 (0, 0) hR]
    simpa using e
  exact ⟨key _ _ a1, key _ _ a2⟩
end
/-- A slice of links that the call has made. -/
def MadeL (w : World) (B : Nat) (v : Value) (l : List Lk) : Prop :=
  ∃ A cap, v = .slice A l.length cap ∧ l.length ≤ cap ∧ cap ≤ maxLen ∧ (0 < l.length → ∃ g cur, A = some ⟨g, 0, none⟩ ∧ B ≤ g ∧ Row w g 43 cur ∧ BegF cur l.length (lat l))
section
variable {w w' : World} {B B' : Nat} {v : Value} {l : List Lk}
theorem MadeL.nil (w : World) (B : Nat) : MadeL w B (.slice none 0 0) [] := ⟨none, 0, rfl, Nat.le_refl _, Nat.zero_le _, fun h => absurd h (Nat.lt_irrefl _)⟩
theorem MadeL.blocks (h : MadeL w B v l) (hb : ∀ g cur, B ≤ g → Row w g 43 cur → w'.heap[g]? = w.heap[g]?) : MadeL w' B v l := by
  obtain ⟨A, cap, h1, h2, h3, h4⟩ := h
  refine ⟨A, cap, h1, h2, h3, fun h0 => ?_⟩
  obtain ⟨g, cur, e, hB, hR, hF⟩ := h4 h0
  exact ⟨g, cur, e, hB, hR.block (hb g cur hB hR), hF⟩
theorem MadeL.below (h : MadeL w B v l) (hb : Below w.heap.size w w') : MadeL w' B v l := h.blocks fun g cur _ hR => hb.block g hR.lt
theorem MadeL.less (h : MadeL w B v l) (hB : B' ≤ B) : MadeL w B' v l := by
  obtain ⟨A, cap, h1, h2, h3, h4⟩ := h
  refine ⟨A, cap, h1, h2, h3, fun h0 => ?_⟩
  obtain ⟨g, cur, e, hB2, hR, hF⟩ := h4 h0
  exact ⟨g, cur, e, by omega, hR, hF⟩
theorem MadeL.lks (h : MadeL w B v l) : ∃ A cap, v = .slice A l.length cap ∧ l.length ≤ cap ∧ cap ≤ maxLen ∧ Lks w w.heap.size A l := by
  obtain ⟨A, cap, h1, h2, h3, h4⟩ := h
  refine ⟨A, cap, h1, h2, h3, fun h0 => ?_⟩
  obtain ⟨g, cur, e, hB2, hR, hF⟩ := h4 h0
  refine ⟨g, 0, e, hR.lt, fun i hi => ?_⟩
  have := hF.cells hR hi
  rw [lat_get l hi] at this
  rw [Nat.zero_add]
  exact this
theorem OwnL.made (h : OwnL w B v l) : MadeL w B v l := by
  rcases h.2 with ⟨h7, h8⟩ | ⟨g, cap, cur, hv, hb', hg', hc1, hc2, hc3, hc4⟩
  · exact ⟨none, 0, by rw [h7, h8], by omega, by unfold maxLen; omega, fun q => by omega⟩
  · refine ⟨_, cap, hv, hc1, hc2, fun _ => ⟨g, cur.toList, rfl, hb', by unfold Row; rw [hg'], fun i hi => ?_⟩⟩
    have key : ∀ j, j < 2 → cur.toList[i * 2 + j]? = (cellsK (lat l i))[j]? := fun j hj => by
      rw [lat_get l hi, ← flatK_at l hi hj, ← hc4, List.getElem?_take, if_pos (by omega)]
    exact ⟨key 0 (by omega), key 1 (by omega)⟩
end
theorem Lks.news {w : World} {B : Nat} {b off : Nat} {l : List Lk} (h : Lks w B (some ⟨b, off, none⟩) l) : ∀ j u, (flatK l)[j]? = some u → w.cell? ((⟨b, off, none⟩ : Addr).add j) = some u := by
  intro j u hj
  have hlt : j < l.length * 2 := by
    rcases Nat.lt_or_ge j (l.length * 2) with h1 | h1
    · exact h1
    · rw [List.getElem?_eq_none (by rw [flatK_len]; exact h1)] at hj; cases hj
  have hadd : (⟨b, off, none⟩ : Addr).add j = ⟨b, off + j, none⟩ := by unfold Addr.add; split <;> simp_all
  rw [hadd]
  obtain ⟨b', off', e, _, hc⟩ := h (by omega)
  simp only [Option.some.injEq, Addr.mk.injEq] at e
  obtain ⟨rfl, rfl, _⟩ := e
  have hi : j / 2 < l.length := by omega
  obtain ⟨c0, c1⟩ := hc (j / 2) hi
  have hjj : j = j / 2 * 2 + j % 2 := by omega
  have hr : j % 2 < 2 := by omega
  rw [hjj, flatK_at l hi hr] at hj
  generalize j % 2 = r at *
  generalize j / 2 = i at *
  subst hjj
  have : r = 0 ∨ r = 1 := by omega
  rcases this with rfl | rfl
  · rw [Nat.add_zero, c0, ← hj]; rfl
  · rw [← Nat.add_assoc, c1, ← hj]; rfl

/-- 'append([][2]int{}, l...)'. -/
theorem wpList_copyK {w : World} {ops : Array Oper} {rest : List Oper} {o : Oper} {a : Act} {Q : Exit → Act → World → Prop} (hgd : o.guard = none) (s x : Operand)
    (ho : o.op = .call { callee := .builtin .append, args := #[s, x], argTypes := #[22, 22] }) (j0 : TypeInfo) (hJi : Try.prog.info? 43 = some j0) (hJz : j0.zero = some (.agg #[.int .i64 0, .int .i64 0])) (hJs : j0.size = 2) (hJb : j0.bytes = 16)
    (B g0 : Nat) (hs : a.eval s = .slice (some ⟨g0, 0, none⟩) 0 0) (hown : w.ownsRow B 43 2 (.slice (some ⟨g0, 0, none⟩) 0 0) 0 []) (A : Option Addr) (cap : Nat) (l : List Lk) (hx : a.eval x = .slice A l.length cap) (hN : Lks w w.heap.size A l) (hlen : l.length ≤ 1000) (hbase : B ≤ w.heap.size)
    (h : ∀ v' w', OwnL w' B v' l → w.grownBy w' (some g0) → wpList Try.prog ops Q rest (a.put o.dst v') w') : wpList Try.prog ops Q (o :: rest) a w := by
  cases A with
  | none =>
    have h0 : l = [] := by
      cases l with
      | nil => rfl
      | cons m r =>
        obtain ⟨b, off, e, _⟩ := hN (by simp)
        cases e
    subst h0
    have hrun := run_append_room_src (P := Try.prog) w 22 22 o.type 43 j0 Try.underlying22 hJi g0 0 0 0 (.slice none 0 cap) 0 [] (Src.ofNil w Try.underlying22 cap) (Nat.le_refl _) (fun j hj => absurd hj (by simp)) (fun j hj => absurd hj (by simp))
    refine wpList_plain hgd fun K hK => ?_
    unfold Oper.wp execOp
    simp only [List.length_nil] at hx
    simp only [ho, resolve, invoke, builtin, Sem.run_bind, Sem.run_pure, Result.andThen_ok, List.map_toArray, List.map_cons, List.map_nil, hs, hx, hrun]
    exact hK _ _ (h _ w hown ⟨rfl, rfl, rfl, Nat.le_refl _, fun _ _ _ => rfl⟩)
  | some ad =>
    have hnews : ∀ j u, (flatK l)[j]? = some u → w.cell? (ad.add j) = some u := by
      by_cases h0 : l = []
      · subst h0; intro j u hj; simp [flatK] at hj
      · obtain ⟨b, off, e, _, _⟩ := hN (List.length_pos_iff.2 h0)
        injection e with e
        subst e
        exact hN.news
    refine wpList_append_own_at w hgd s x 22 ho B 43 j0 _ 2 16 Try.underlying22 hJi hJz hJs hJb rfl (by decide) _ 0 [] hs hown ad l.length cap (flatK l) hx (flatK_len l) hnews (flatK_one' l) (by unfold maxLen; omega) (by omega) hbase ?_
    intro v' w' h1 h2 _ _
    rw [Nat.zero_add, List.nil_append] at h1
    exact h v' w' h1 h2
#print axioms wpList_copyK
#print axioms OwnL.made
end Go.Proofs.Ytieicimoolegoaa
