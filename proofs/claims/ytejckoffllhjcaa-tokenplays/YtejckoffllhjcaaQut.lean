/-
  Words for memory: a slice of whole numbers, of whatever type, that is a queue (taken from the front, lengthened behind).
-/
import Derived.Test.YtejckoffllhjcaaPck
import Derived.Deep.AppendSrc
import Derived.Deep.AppendLies
namespace Go.Proofs.Ytejckoffllhjcaa
open Go.RowKit Go.Maps

def QueT (te : TypeId) (w : World) (B : Nat) (v : Value) (xs : List Int) : Prop :=
  (v = .slice none 0 0 ∧ xs = []) ∨ ∃ g off cap cur, v = .slice (some ⟨g, off, none⟩) xs.length cap ∧ B ≤ g ∧ w.heap[g]? = some (.cells cur te (0, 0)) ∧ xs.length ≤ cap ∧ cap ≤ maxLen ∧ off + cap ≤ cur.size ∧ ∀ i, (h : i < xs.length) → cur[off + i]? = some (.int .i64 xs[i])
section
variable {te : TypeId} {w w' : World} {B : Nat} {v : Value} {xs : List Int}
theorem QueT.nil (te : TypeId) (w : World) (B : Nat) : QueT te w B (.slice none 0 0) [] := .inl ⟨rfl, rfl⟩
theorem QueT.lt (h : QueT te w B v xs) {g : Nat} (hg : v.ownBlock = some g) : B ≤ g ∧ g < w.heap.size := by
  rcases h with ⟨rfl, _⟩ | ⟨g', off, cap, cur, rfl, h1, h2, _⟩
  · cases hg
  · have : g' = g := by simpa [Value.ownBlock] using hg
    subst this
    refine ⟨h1, ?_⟩
    rcases Nat.lt_or_ge g' w.heap.size with h | h
    · exact h
    · rw [Array.getElem?_eq_none h] at h2; cases h2
theorem QueT.block (h : QueT te w B v xs) (hb : ∀ g, v.ownBlock = some g → w'.heap[g]? = w.heap[g]?) : QueT te w' B v xs := by
  rcases h with h | ⟨g', off, cap, cur, rfl, h1, h2, h3⟩
  · exact .inl h
  · exact .inr ⟨g', off, cap, cur, rfl, h1, (hb g' rfl).trans h2, h3⟩
theorem QueT.kept {row : Option Nat} (h : QueT te w B v xs) (hg : w.grownBy w' row) (hr : v.ownBlock = none ∨ v.ownBlock ≠ row) : QueT te w' B v xs :=
  h.block fun g e => hg.block g (h.lt e).2 (fun e2 => by rcases hr with h1 | h1; rw [h1] at e; cases e; exact h1 (e.trans e2))
theorem QueT.alloc (h : QueT te w B v xs) (o : Obj) : QueT te (w.alloc o) B v xs := h.kept (World.grownBy_alloc w o none) (by cases v.ownBlock <;> simp)
theorem QueT.far (h : QueT te w B v xs) {p : Addr} (hp : v.ownBlock ≠ some p.block) (u : Value) : QueT te (w.setCell p u) B v xs :=
  h.block fun g e => Below.heap_setCell w p u g (fun e2 => hp (by rw [e, e2]))
theorem QueT.ne_row {T : Nat} {t : TypeId} {ys : List Value} (h : QueT te w B v xs) (hT : Row w T t ys) (hne : te ≠ t) : v.ownBlock ≠ some T := by
  intro he
  rcases h with ⟨rfl, _⟩ | ⟨g, off, cap, cur, rfl, h1, h2, _⟩
  · cases he
  · have : g = T := by simpa [Value.ownBlock] using he
    subst this
    unfold Row at hT
    rw [h2] at hT
    injection hT with hT
    injection hT with _ ht
    exact hne ht
theorem QueT.ne_map {M : Nat} {es : Array MapEntry} {c : Nat} (h : QueT te w B v xs) (hM : w.heap[M]? = some (.map es c)) : v.ownBlock ≠ some M := by
  intro he
  rcases h with ⟨rfl, _⟩ | ⟨g, off, cap, cur, rfl, h1, h2, _⟩
  · cases he
  · have : g = M := by simpa [Value.ownBlock] using he
    subst this
    rw [h2] at hM
    injection hM with hM
    cases hM
/-- What it looks like. -/
theorem QueT.shape (h : QueT te w B v xs) : ∃ A cap, v = .slice A xs.length cap ∧ xs.length ≤ cap ∧ cap ≤ maxLen ∧ ∀ i, (hi : i < xs.length) → ∃ g off, A = some ⟨g, off, none⟩ ∧ w.cell? ⟨g, off + i, none⟩ = some (.int .i64 xs[i]) := by
  rcases h with ⟨rfl, rfl⟩ | ⟨g, off, cap, cur, rfl, h1, h2, h3, h4, h5, h6⟩
  · exact ⟨none, 0, rfl, Nat.le_refl _, Nat.zero_le _, fun i hi => absurd hi (by simp)⟩
  · refine ⟨_, cap, rfl, h3, h4, fun i hi => ⟨g, off, rfl, ?_⟩⟩
    rw [cell_of_row w g (off + i) cur te (0, 0) h2]
    exact h6 i hi
/-- 's[1:]'. -/
theorem QueT.tail {A : Option Addr} {n cap : Nat} {x : Int} {r : List Int} (h : QueT te w B (.slice A n cap) (x :: r)) : QueT te w B (.slice (if cap = 1 then A else A.map (·.add 1)) r.length (cap - 1)) r := by
  rcases h with ⟨_, h2⟩ | ⟨g, off, cap', cur, e, h1, h2, h3, h4, h5, h6⟩
  · cases h2
  · injection e with e1 e2 e3
    subst e1 e2 e3
    by_cases hc : cap = 1
    · subst hc
      have hr : r = [] := by
        cases r with
        | nil => rfl
        | cons a b => simp at h3
      subst hr
      refine .inr ⟨g, off, 0, cur, by simp, h1, h2, Nat.le_refl _, Nat.zero_le _, by omega, fun i hi => absurd hi (by simp)⟩
    · refine .inr ⟨g, off + 1, cap - 1, cur, by simp [hc, Addr.add], h1, h2, by simp at h3; omega, by omega, by simp at h3; omega, fun i hi => ?_⟩
      have := h6 (i + 1) (by simp; omega)
      rw [show off + 1 + i = off + (i + 1) by omega, this]
      simp
theorem QueT.tailBlock {A : Option Addr} {n cap : Nat} {k c : Nat} : (Value.slice (if cap = 1 then A else A.map (·.add 1)) k c).ownBlock = (Value.slice A n cap).ownBlock := by
  cases A with
  | none => by_cases hc : cap = 1 <;> simp [hc, Value.ownBlock]
  | some a =>
    by_cases hc : cap = 1
    · simp [hc, Value.ownBlock]
    · simp only [hc, if_false, Option.map_some, Value.ownBlock]
      unfold Addr.add
      split <;> rfl

theorem run_append_queT (ts ty : TypeId) (hu : Try.prog.underlying ts = some (.slice te)) (j0 : TypeInfo) (hJi : Try.prog.info? te = some j0) (hJz : j0.zero = some (.int .i64 0)) (hJs : j0.size = 1) (hJb : j0.bytes = 8)
    (h : QueT te w B v xs) (hB : B ≤ w.heap.size) (hl : xs.length ≤ 1000) (ad : Addr) (x : Int) (hx : w.cell? ad = some (.int .i64 x)) :
    ∃ v' w', (Builtin.append_ #[ts, ts] ty #[v, .slice (some ad) 1 1]).run Try.prog w = .ok v' w' ∧ QueT te w' B v' (xs ++ [x]) ∧ w.grownBy w' v.ownBlock ∧ (v'.ownBlock = v.ownBlock ∨ v'.ownBlock = some w.heap.size) := by
  have hadd : ad.add 0 = ad := by
    unfold Addr.add
    split
    · simp_all
    · simp_all
  have hsrc : Src Try.prog j0.size ts (.slice (some ad) 1 1) 1 [.int .i64 x] w := by
    rw [hJs]
    refine Src.ofSlice w hu ad 1 1 [.int .i64 x] rfl (fun j u hj => ?_) (fun u hu => ?_)
    · match j, hj with
      | 0, hj =>
        simp at hj
        subst hj
        rw [hadd]; exact hx
    · rw [List.mem_singleton.1 hu]; rfl
  have grown : ∀ (base : Option Addr) (cap : Nat), xs.length ≤ cap → cap < xs.length + 1 → (Builtin.firstCells j0.size xs.length (.slice base xs.length cap)).run Try.prog w.drew = .ok (intVals xs).toArray w.drew →
      ∀ row, ∃ v' w', (Builtin.append_ #[ts, ts] ty #[.slice base xs.length cap, .slice (some ad) 1 1]).run Try.prog w = .ok v' w' ∧ QueT te w' B v' (xs ++ [x]) ∧ w.grownBy w' row ∧ v'.ownBlock = some w.heap.size := by
    intro base cap hc1 hc2 hold row
    have hfit : Builtin.nextslicecap (xs.length + 1) cap * j0.bytes ≤ 281474976710656 := growslice_fits (by omega) (by rw [hJb]; omega)
    refine ⟨_, _, run_append_grow_src (P := Try.prog) w ts ts ty te j0 (.int .i64 0) hu hJi hJz base xs.length cap (intVals xs) hold _ 1 _ hsrc hc2 (by omega) hfit, ?_, ⟨rfl, rfl, rfl, by simp, fun k hk _ => Below.heap_alloc w.drew _ k hk⟩, rfl⟩
    have hge := grownCap_ge w (xs.length + 1) cap te
    have hcm : grownCap w (xs.length + 1) cap te ≤ maxLen := grownCap_le_maxLen w (xs.length + 1) cap te (by unfold maxLen; omega)
    refine .inr ⟨w.heap.size, 0, grownCap w (xs.length + 1) cap te, _, by simp, hB, heap_alloc_new w.drew _, by simp; exact hge, hcm, ?_, fun i hi => ?_⟩
    · simp only [Array.size_append, List.size_toArray, size_zeroCells, List.length_append, intVals_len, List.length_singleton, Value.cells]
      simp
      omega
    · have hi2 : i < (intVals xs ++ [Value.int .i64 x]).length := by simpa [intVals_len] using hi
      rw [Nat.zero_add, Array.getElem?_append_left (by simpa using hi2)]
      have : intVals xs ++ [Value.int .i64 x] = intVals (xs ++ [x]) := by simp [intVals]
      rw [List.getElem?_toArray, this, intVals, List.getElem?_map, List.getElem?_eq_getElem hi]
      rfl
  rcases h with ⟨rfl, rfl⟩ | ⟨g, off, cap, cur, rfl, h1, h2, h3, h4, h5, h6⟩
  · obtain ⟨v', w', r1, r2, r3, r4⟩ := grown none 0 (Nat.le_refl _) (by simp) (by simp [Builtin.firstCells, intVals]) (Value.ownBlock (.slice none 0 0))
    exact ⟨v', w', r1, r2, r3, .inr r4⟩
  · by_cases hroom : xs.length + 1 ≤ cap
    · have hin : off + xs.length < cur.size := by omega
      have hcell : w.cell? ⟨g, off + xs.length, none⟩ = cur[off + xs.length]? := cell_of_row w g _ cur te (0, 0) h2
      have hr := run_append_room_src (P := Try.prog) w ts ts ty te j0 hu hJi g off xs.length cap _ 1 _ hsrc hroom
        (fun j hj => by
          have : j = 0 := by simp at hj; omega
          subst this
          rw [hJs, Nat.mul_one, Nat.add_zero, hcell, Array.getElem?_eq_getElem hin]
          rfl)
        (fun j hj => frozen_of_row w g _ cur te h2)
      rw [hJs, Nat.mul_one] at hr
      have hset : (w.setCells g (off + xs.length) [.int .i64 x]) = w.setCell ⟨g, off + xs.length, none⟩ (.int .i64 x) := rfl
      rw [hset] at hr
      have hblk := heap_setCell_same w g (off + xs.length) cur te (.int .i64 x) h2
      refine ⟨_, _, hr, .inr ⟨g, off, cap, _, by simp, h1, hblk, by simp; exact hroom, h4, by simpa using h5, fun i hi => ?_⟩, ⟨rfl, rfl, rfl, by simp, fun k _ hk => Below.heap_setCell w _ _ k (fun e => hk (by simp [Value.ownBlock, e]))⟩, .inl rfl⟩
      simp at hi
      by_cases e : i = xs.length
      · subst e
        simp [hin]
      · have hi2 : i < xs.length := by omega
        rw [List.getElem_append_left hi2, ← h6 i hi2]
        rw [Array.getElem?_setIfInBounds_ne (by omega)]
    · have hcells : ∀ j u, (intVals xs)[j]? = some u → w.drew.cell? ((⟨g, off, none⟩ : Addr).add j) = some u := fun j u hj => by
        have hj2 : j < xs.length := by
          rcases Nat.lt_or_ge j xs.length with hh | hh
          · exact hh
          · rw [List.getElem?_eq_none (by rw [intVals_len]; exact hh)] at hj; cases hj
        have hadd2 : (⟨g, off, none⟩ : Addr).add j = ⟨g, off + j, none⟩ := by unfold Addr.add; split <;> simp_all
        rw [hadd2]
        show w.cell? _ = _
        rw [cell_of_row w g (off + j) cur te (0, 0) h2, h6 j hj2, ← hj]
        simp [intVals, hj2]
      obtain ⟨v', w', r1, r2, r3, r4⟩ := grown (some ⟨g, off, none⟩) cap h3 (by omega) (by
        rw [hJs]
        exact run_firstCells_some w.drew 1 xs.length ⟨g, off, none⟩ xs.length cap (intVals xs) (by rw [intVals_len, Nat.mul_one]) hcells) (Value.ownBlock (.slice (some ⟨g, off, none⟩) xs.length cap))
      exact ⟨v', w', r1, r2, r3, .inr r4⟩

/-- 'append(q, x)' at the operation. -/
theorem wpList_append_queT {ops : Array Oper} {rest : List Oper} {o : Oper} {a : Act} {Q : Exit → Act → World → Prop} (hgd : o.guard = none) (ts : TypeId) (hu : Try.prog.underlying ts = some (.slice te)) (s x : Operand)
    (ho : o.op = .call { callee := .builtin .append, args := #[s, x], argTypes := #[ts, ts] }) (j0 : TypeInfo) (hJi : Try.prog.info? te = some j0) (hJz : j0.zero = some (.int .i64 0)) (hJs : j0.size = 1) (hJb : j0.bytes = 8)
    (v : Value) (xs : List Int) (hs : a.eval s = v) (h : QueT te w B v xs) (hB : B ≤ w.heap.size) (hl : xs.length ≤ 1000) (ad : Addr) (y : Int) (hx : a.eval x = .slice (some ad) 1 1) (hy : w.cell? ad = some (.int .i64 y))
    (hh : ∀ v' w', QueT te w' B v' (xs ++ [y]) → w.grownBy w' v.ownBlock → (v'.ownBlock = v.ownBlock ∨ v'.ownBlock = some w.heap.size) → wpList Try.prog ops Q rest (a.put o.dst v') w') : wpList Try.prog ops Q (o :: rest) a w := by
  obtain ⟨v', w', hr, h1, h2, h3⟩ := run_append_queT ts o.type hu j0 hJi hJz hJs hJb h hB hl ad y hy
  refine wpList_plain hgd fun K hK => ?_
  unfold Oper.wp execOp
  simp only [ho, resolve, invoke, builtin, Sem.run_bind, Sem.run_pure, Result.andThen_ok, List.map_toArray, List.map_cons, List.map_nil, hs, hx, hr]
  exact hK _ _ (hh v' w' h1 h2 h3)
end

#print axioms wpList_append_queT
end Go.Proofs.Ytejckoffllhjcaa
