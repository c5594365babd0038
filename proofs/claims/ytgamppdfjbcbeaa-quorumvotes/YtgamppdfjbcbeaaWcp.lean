/-
  'append([]uint32{}, xs...)': a copy of a slice of words; a word of it turned.
-/
import Derived.Test.YtgamppdfjbcbeaaWme
import Derived.Test.YtgamppdfjbcbeaaRowW
import Derived.Deep.AppendLies
import Derived.KernelRfl
namespace Go.Proofs.Ytgamppdfjbcbeaa
open Go.RowKit Go.Maps
set_option linter.unusedVariables false

theorem infoU32 : (Try.prog.info? 27).map (fun i => (i.zero, i.size, i.bytes)) = some (some (.int .u32 0), 1, 4) := by kernel_rfl
theorem partsU32 : ∃ i : TypeInfo, Try.prog.info? 27 = some i ∧ i.zero = some (.int .u32 0) ∧ i.size = 1 ∧ i.bytes = 4 := by
  have h := infoU32
  cases e : Try.prog.info? 27 with
  | none => rw [e] at h; cases h
  | some i =>
    rw [e] at h
    injection h with h
    injection h with h1 h
    injection h with h2 h3
    exact ⟨i, rfl, h1, h2, h3⟩
/-- Words, as a row's cells. -/
def wordVals (l : List Nat) : List Value := (List.range l.length).map fun j => Value.int .u32 (wat l j : Int)
theorem wordVals_len (l : List Nat) : (wordVals l).length = l.length := by simp [wordVals]
theorem wordVals_get (l : List Nat) {j : Nat} (h : j < l.length) : (wordVals l)[j]? = some (.int .u32 (wat l j : Int)) := by simp [wordVals, h]
/-- The cells of a row begin with the words. -/
def Begins (cur : List Value) (l : List Nat) : Prop := ∀ j, j < l.length → cur[j]? = some (.int .u32 (wat l j : Int))
theorem wat_set (l : List Nat) {i : Nat} (h : i < l.length) (v j : Nat) : wat (l.set i v) j = if j = i then v else wat l j := by
  unfold wat
  rw [List.getD_eq_getElem?_getD, List.getD_eq_getElem?_getD, List.getElem?_set]
  by_cases e : i = j
  · subst e; simp [h]
  · have e' : ¬ j = i := fun x => e x.symm
    rw [if_neg e, if_neg e']
theorem Begins.set {cur : List Value} {l : List Nat} (h : Begins cur l) {i : Nat} (hi : i < l.length) (v : Nat) : Begins (cur.set i (.int .u32 (v : Int))) (l.set i v) := by
  intro j hj
  rw [List.length_set] at hj
  rw [wat_set l hi, List.getElem?_set]
  have hlen : i < cur.length := by
    rcases Nat.lt_or_ge i cur.length with h1 | h1
    · exact h1
    · have := h i hi
      rw [List.getElem?_eq_none h1] at this
      cases this
  by_cases e : i = j
  · subst e; simp [hlen]
  · have e' : ¬ j = i := fun x => e x.symm
    rw [if_neg e, if_neg e']
    exact h j hj
section
variable {w : World} {g B : Nat} {cur : List Value} {l : List Nat}
theorem Begins.cell (h : Begins cur l) (hR : Row w g 27 cur) {j : Nat} (hj : j < l.length) : w.cell? ⟨g, j, none⟩ = some (.int .u32 (wat l j : Int)) := by
  have := h j hj
  rw [List.getElem?_eq_some_iff] at this
  obtain ⟨hl, e⟩ := this
  rw [Row.cell hR hl, e]
theorem Begins.wds (h : Begins cur l) (hR : Row w g 27 cur) (hB : g < B) : Wds w B (some ⟨g, 0, none⟩) l :=
  fun _ => ⟨g, 0, rfl, hB, fun i hi => by rw [Nat.zero_add]; exact h.cell hR hi⟩
end

theorem wpList_copyW {w : World} {ops : Array Oper} {rest : List Oper} {o : Oper} {a : Act} {Q : Exit → Act → World → Prop} (hgd : o.guard = none) (s x : Operand)
    (ho : o.op = .call { callee := .builtin .append, args := #[s, x], argTypes := #[22, 22] })
    (B g0 : Nat) (hs : a.eval s = .slice (some ⟨g0, 0, none⟩) 0 0) (hown : w.ownsRow B 27 1 (.slice (some ⟨g0, 0, none⟩) 0 0) 0 []) (A : Option Addr) (n capc : Nat) (l : List Nat) (hn : l.length = n) (h1 : 1 ≤ n) (hx : a.eval x = .slice A n capc) (hN : Wds w w.heap.size A l) (hlen : n ≤ 1000) (hbase : B ≤ w.heap.size)
    (h : ∀ g cap w' cur, B ≤ g → g < w'.heap.size → Row w' g 27 cur → Begins cur l → w.grownBy w' (some g0) → wpList Try.prog ops Q rest (a.put o.dst (.slice (some ⟨g, 0, none⟩) n cap)) w') : wpList Try.prog ops Q (o :: rest) a w := by
  obtain ⟨j0, hJi, hJz, hJs, hJb⟩ := partsU32
  obtain ⟨b, off, rfl, hb, hc⟩ := hN (by omega)
  refine wpList_append_lies w hgd s x 22 ho B 27 j0 (.int .u32 0) 1 4 Try.underlying22 hJi hJz hJs hJb rfl (by decide) _ 0 [] hs hown ⟨b, off, none⟩ n capc (wordVals l) hx (by rw [wordVals_len, hn, Nat.mul_one]) ?_ ?_ (by omega) (by unfold maxLen; omega) (by omega) hbase _ rfl ?_
  · intro j u hj
    have hj2 : j < l.length := by
      rcases Nat.lt_or_ge j l.length with h1 | h1
      · exact h1
      · rw [List.getElem?_eq_none (by rw [wordVals_len]; exact h1)] at hj
        cases hj
    have hadd : (⟨b, off, none⟩ : Addr).add j = ⟨b, off + j, none⟩ := by unfold Addr.add; split <;> simp_all
    rw [hadd, hc j hj2, ← hj, wordVals_get l hj2]
  · intro u hu
    obtain ⟨x, _, rfl⟩ := List.mem_map.1 hu
    rfl
  · intro g cap w' h2 h3 _ _
    rw [Nat.zero_add, List.nil_append] at h2
    rw [Nat.zero_add]
    rcases h2.2 with ⟨h', _⟩ | ⟨g', cap', cur, h', hbg, hb2, hnc, _, hcs, htake⟩
    · simp at h'
    · simp only [Value.slice.injEq, Option.some.injEq, Addr.mk.injEq, and_true, true_and] at h'
      obtain ⟨rfl, rfl⟩ := h'
      have hRow : Row w' g 27 cur.toList := by unfold Row; rw [hb2]
      refine h g cap w' cur.toList hbg (Row.lt hRow) hRow (fun j hj => ?_) h3
      have e := wordVals_get l hj
      rw [← htake, List.getElem?_take] at e
      rw [if_pos (by omega)] at e
      exact e
#print axioms wpList_copyW
end Go.Proofs.Ytgamppdfjbcbeaa
