/-
  'append([]int{}, xs...)' at whatever slice of ints; 'append(xs, make([]int, 30)...)' at a slice that the call has made.
-/
import Derived.Test.YtejckoffllhjcaaPck
import Derived.Test.YtejckoffllhjcaaSce
import Derived.Deep.AppendSrc
import Derived.Deep.AppendLies
import Derived.Laws.OwnMore
import Derived.Lib.AppendZerosOnto
namespace Go.Proofs.Ytejckoffllhjcaa
open Go.RowKit Go.Maps

theorem nums_news {w : World} {B : Nat} {b off : Nat} {l : List Int} (h : Nums w B (some ⟨b, off, none⟩) l) : ∀ j u, (intVals l)[j]? = some u → w.cell? ((⟨b, off, none⟩ : Addr).add j) = some u := by
  intro j u hj
  have hlt : j < l.length := by
    rcases Nat.lt_or_ge j l.length with h1 | h1
    · exact h1
    · rw [List.getElem?_eq_none (by rw [intVals_len]; exact h1)] at hj; cases hj
  have hadd : (⟨b, off, none⟩ : Addr).add j = ⟨b, off + j, none⟩ := by unfold Addr.add; split <;> simp_all
  rw [hadd]
  obtain ⟨b', off', e, _, hc⟩ := h (by omega)
  simp only [Option.some.injEq, Addr.mk.injEq] at e
  obtain ⟨rfl, rfl, _⟩ := e
  rw [hc j hlt, ← hj]
  simp [intVals, hlt]
theorem intVals_one (l : List Int) : ∀ u ∈ intVals l, u.oneCell' = true := by
  intro u hu
  obtain ⟨x, _, rfl⟩ := List.mem_map.1 hu
  rfl
/-- 'append([]int{}, l...)'. -/
theorem wpList_copyI {w : World} {ops : Array Oper} {rest : List Oper} {o : Oper} {a : Act} {Q : Exit → Act → World → Prop} (hgd : o.guard = none) (s x : Operand)
    (ho : o.op = .call { callee := .builtin .append, args := #[s, x], argTypes := #[22, 22] }) (j0 : TypeInfo) (hJi : Try.prog.info? 3 = some j0) (hJz : j0.zero = some (.int .i64 0)) (hJs : j0.size = 1) (hJb : j0.bytes = 8)
    (B g0 : Nat) (hs : a.eval s = .slice (some ⟨g0, 0, none⟩) 0 0) (hown : w.ownsRow B 3 1 (.slice (some ⟨g0, 0, none⟩) 0 0) 0 []) (A : Option Addr) (cap : Nat) (l : List Int) (hx : a.eval x = .slice A l.length cap) (hN : Nums w w.heap.size A l) (hlen : l.length ≤ 1000) (hbase : B ≤ w.heap.size)
    (h : ∀ v' w', OwnInts w' B v' l → w.grownBy w' (some g0) → wpList Try.prog ops Q rest (a.put o.dst v') w') : wpList Try.prog ops Q (o :: rest) a w := by
  cases A with
  | none =>
    have h0 : l = [] := by
      cases l with
      | nil => rfl
      | cons m r =>
        obtain ⟨b, off, e, _⟩ := hN (by simp)
        cases e
    subst h0
    have hrun := run_append_room_src (P := Try.prog) w 22 22 o.type 3 j0 Try.underlying22 hJi g0 0 0 0 (.slice none 0 cap) 0 [] (Src.ofNil w Try.underlying22 cap) (Nat.le_refl _) (fun j hj => absurd hj (by simp)) (fun j hj => absurd hj (by simp))
    refine wpList_plain hgd fun K hK => ?_
    unfold Oper.wp execOp
    simp only [List.length_nil] at hx
    simp only [ho, resolve, invoke, builtin, Sem.run_bind, Sem.run_pure, Result.andThen_ok, List.map_toArray, List.map_cons, List.map_nil, hs, hx, hrun]
    exact hK _ _ (h _ w hown ⟨rfl, rfl, rfl, Nat.le_refl _, fun _ _ _ => rfl⟩)
  | some ad =>
    have hnews : ∀ j u, (intVals l)[j]? = some u → w.cell? (ad.add j) = some u := by
      by_cases h0 : l = []
      · subst h0; intro j u hj; simp [intVals] at hj
      · obtain ⟨b, off, e, _, _⟩ := hN (List.length_pos_iff.2 h0)
        injection e with e
        subst e
        exact nums_news hN
    refine wpList_append_own_at w hgd s x 22 ho B 3 j0 _ 1 8 Try.underlying22 hJi hJz hJs hJb rfl (by decide) _ 0 [] hs hown ad l.length cap (intVals l) hx (by rw [intVals_len, Nat.mul_one]) hnews (intVals_one l) (by unfold maxLen; omega) (by omega) hbase ?_
    intro v' w' h1 h2 _ _
    rw [Nat.zero_add, List.nil_append] at h1
    exact h v' w' h1 h2
theorem results_cell1 {fn : Func} {p : Tmp} {ty : TypeId} (h : fn.results = #[.cell p ty]) (tmps : Array Value) (P : Program) (w : World) :
    (results fn tmps).run P w = ((asAddr (tmps.getD p undef)).run P w).andThen fun a w₁ => (loadVar ty a).run P w₁ := by
  simp only [results, h]
  simp [Sem.run_bind, Result.andThen]


def zero30 : List Value := List.replicate 30 (.int .i64 0)
theorem zero30_cells : (Builtin.zeroCells #[Value.int .i64 0] 30).toList = zero30 := by kernel_rfl
theorem zero30_int : zero30 = intVals (List.replicate 30 0) := by simp [zero30, intVals]
theorem zero30_arr : Builtin.zeroCells #[Value.int .i64 0] 30 = zero30.toArray := by rw [← zero30_cells]

/-- 'append(xs, make([]int, 30)...)' where there is room. -/
theorem run_room_zeros (w : World) (ty : TypeId) (j0 : TypeInfo) (hJi : Try.prog.info? 3 = some j0) (hJz : j0.zero = some (.int .i64 0)) (hJs : j0.size = 1) (hJb : j0.bytes = 8) (g n cap : Nat) (hroom : n + 30 ≤ cap)
    (hc : ∀ j, j < 30 → (w.cell? ⟨g, n + j, none⟩).isSome = true) (hf : ∀ j, j < 30 → w.frozen? ⟨g, n + j, none⟩ = false) :
    (Builtin.append_ #[22, 3] ty #[.slice (some ⟨g, 0, none⟩) n cap, .int .i64 30]).run Try.prog w = .ok (.slice (some ⟨g, 0, none⟩) (n + 30) cap) (w.setCells g n zero30) := by
  have hst := run_storeCells_cells (P := Try.prog) g n zero30 0 w (by simpa [zero30] using hc) (by simpa [zero30] using hf) (by intro v hv; rw [List.eq_of_mem_replicate hv]; rfl)
  simp only [Nat.add_zero] at hst
  have hw : IntKind.i64.wrap 30 = 30 := by rw [IntKind.wrap_i64]; omega
  have hadd : (⟨g, 0, none⟩ : Addr).add n = ⟨g, n, none⟩ := by unfold Addr.add; split <;> simp_all
  simp [Builtin.append_, run_underlying Try.underlying22, run_underlying Try.underlying3, sizeOf, typeInfo, zeroValue, hJi, hJz, hJs, hJb, asInt, asIntOf, hw, hroom, Value.cells, zero30_arr, hadd, hst]

theorem wpList_append_zeros {w : World} {ops : Array Oper} {rest : List Oper} {o : Oper} {a : Act} {Q : Exit → Act → World → Prop} (hgd : o.guard = none) (s x : Operand)
    (ho : o.op = .call { callee := .builtin .append, args := #[s, x], argTypes := #[22, 3] }) (j0 : TypeInfo) (hJi : Try.prog.info? 3 = some j0) (hJz : j0.zero = some (.int .i64 0)) (hJs : j0.size = 1) (hJb : j0.bytes = 8)
    (B : Nat) (v : Value) (l : List Int) (hs : a.eval s = v) (hx : a.eval x = .int .i64 30) (hown : OwnInts w B v l) (hlen : l.length ≤ 1000) (hbase : B ≤ w.heap.size)
    (h : ∀ v' w', OwnInts w' B v' (l ++ List.replicate 30 0) → w.grownBy w' v.ownBlock → wpList Try.prog ops Q rest (a.put o.dst v') w') : wpList Try.prog ops Q (o :: rest) a w := by
  have hil : (intVals l).length = l.length := intVals_len l
  have grown : ∀ (base : Option Addr) (cap : Nat), v = .slice base l.length cap → l.length ≤ cap → cap < l.length + 30 → (Builtin.firstCells j0.size l.length (.slice base l.length cap)).run Try.prog w.drew = .ok (intVals l).toArray w.drew → wpList Try.prog ops Q (o :: rest) a w := by
    intro base cap hv hc1 hc2 hold
    have hfit : Builtin.nextslicecap (l.length + 30) cap * j0.bytes ≤ 281474976710656 := growslice_fits (by omega) (by rw [hJb]; omega)
    have hrun := Lib.run_append_grow_zeros (P := Try.prog) w 22 3 o.type 3 j0 (.int .i64 0) .i64 .i64 Try.underlying22 Try.underlying3 hJi hJz base l.length cap (intVals l) hold 30 (by omega) (by omega) hc2 (by omega) (by rw [hJb]; omega) hfit
    rw [show ((30 : Nat) : Int) = 30 from rfl] at hrun
    refine Lib.wpList_append_run w hgd s x _ _ ho v (.int .i64 30) hs hx _ _ (by rw [hv]; exact hrun) ?_
    have hge := grownCap_ge w (l.length + 30) cap 3
    have hcm : grownCap w (l.length + 30) cap 3 ≤ maxLen := grownCap_le_maxLen w (l.length + 30) cap 3 (by unfold maxLen; omega)
    have hll : (l ++ List.replicate 30 (0 : Int)).length = l.length + 30 := by simp
    refine h _ _ ⟨by rw [intVals_len, Nat.mul_one], .inr ⟨w.heap.size, grownCap w (l.length + 30) cap 3, _, by rw [hll], hbase, heap_alloc_new w.drew _, by rw [hll]; exact hge, hcm, ?_, ?_⟩⟩ ⟨rfl, rfl, rfl, by simp, fun k hk _ => Below.heap_alloc w.drew _ k hk⟩
    · simp only [Array.size_append, List.size_toArray, size_zeroCells, hil, Value.cells]
      simp
      omega
    · rw [hll, Nat.mul_one]
      have e1 : (Builtin.zeroCells (Value.int .i64 0).cells 30) = zero30.toArray := zero30_arr
      rw [e1]
      simp only [Array.toList_append]
      have : (intVals l ++ zero30).length = l.length + 30 := by simp [hil, zero30]
      rw [List.take_left' this, zero30_int]
      simp [intVals]
  rcases hown.2 with ⟨hv, h0⟩ | ⟨g, cap, cur, hv, hBg, hg, hn, hm, hsz, ht⟩
  · have hl0 : l = [] := List.eq_nil_of_length_eq_zero h0
    subst hl0
    exact grown none 0 hv (Nat.le_refl _) (by simp) (by simp [Builtin.firstCells, intVals])
  · by_cases hroom : l.length + 30 ≤ cap
    · have hL : cur.toList.length = cap := by simpa using hsz
      have hrun := run_room_zeros w o.type j0 hJi hJz hJs hJb g l.length cap hroom (fun j hj => by
        rw [cell_of_row w g _ cur 3 (0, 0) hg, Array.getElem?_eq_getElem (by simp at hL; omega)]; rfl) (fun j _ => frozen_of_row w g _ cur 3 hg)
      refine Lib.wpList_append_run w hgd s x _ _ ho v (.int .i64 30) hs hx _ _ (by rw [hv]; exact hrun) ?_
      have hzl : zero30.length = 30 := by simp [zero30]
      have hblk := sc_setCells_block g 3 zero30 l.length w cur hg (by simp at hL; omega)
      have htk := sc_splice_take cur.toList zero30 l.length (by omega)
      have hsl := sc_splice_len cur.toList zero30 l.length (by omega)
      have hll : (l ++ List.replicate 30 (0 : Int)).length = l.length + 30 := by simp
      refine h _ _ ⟨by rw [intVals_len, Nat.mul_one], .inr ⟨g, cap, _, by rw [hll], hBg, hblk, by rw [hll]; exact hroom, hm, by simp only [List.size_toArray]; omega, ?_⟩⟩ (by rw [hv]; exact sc_setCells_grown g zero30 l.length w)
      rw [hll, Nat.mul_one]
      rw [hzl] at htk
      show List.take (l.length + 30) (cur.toList.take l.length ++ zero30 ++ cur.toList.drop (l.length + zero30.length)) = _
      rw [hzl, htk]
      rw [Nat.mul_one] at ht
      rw [ht, zero30_int]
      simp [intVals]
    · refine grown (some ⟨g, 0, none⟩) cap hv hn (by omega) ?_
      rw [hJs]
      refine run_firstCells_some w.drew 1 l.length ⟨g, 0, none⟩ l.length cap (intVals l) (by rw [intVals_len, Nat.mul_one]) (fun j u hj => ?_)
      have hj2 : j < l.length := by
        rcases Nat.lt_or_ge j l.length with hh | hh
        · exact hh
        · rw [List.getElem?_eq_none (by rw [intVals_len]; exact hh)] at hj; cases hj
      have hadd2 : (⟨g, 0, none⟩ : Addr).add j = ⟨g, j, none⟩ := by unfold Addr.add; split <;> simp_all
      rw [hadd2]
      show w.cell? _ = _
      rw [cell_of_row w g j cur 3 (0, 0) hg]
      rw [Nat.mul_one] at ht
      rw [← ht, List.getElem?_take_of_lt hj2, Array.getElem?_toList] at hj
      exact hj
#print axioms wpList_copyI
#print axioms wpList_append_zeros
end Go.Proofs.Ytejckoffllhjcaa
