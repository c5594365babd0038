/-
  Words for memory: what beaconryref.Causal holds.
-/
import Derived.Test.YtkchccaeopdemaaCMem
import Derived.Test.YtkchccaeopdemaaCod
namespace Go.Proofs.Ytkchccaeopdemaa
open Go.RowKit Go.Maps

/-- K slices of ints of the call's own, each in a block of its own. -/
structure Fam (w : World) (B K : Nat) (vs : Nat → Value) (f : Nat → List Nat) : Prop where
  own : ∀ j, j < K → OwnN w B (vs j) (f j)
  apart : ∀ i j, i < K → j < K → i ≠ j → (vs i).ownBlock = none ∨ (vs i).ownBlock ≠ (vs j).ownBlock
section
variable {w w' : World} {B K : Nat} {vs : Nat → Value} {f : Nat → List Nat}
theorem Fam.blocks (h : Fam w B K vs f) (hb : ∀ g, B ≤ g → g < w.heap.size → w'.heap[g]? = w.heap[g]?) : Fam w' B K vs f := ⟨fun j hj => owns_blocks (h.own j hj) hb, h.apart⟩
theorem Fam.far (h : Fam w B K vs f) {T : Nat} {t : TypeId} {xs : List Value} (hT : Row w T t xs) (ht : 3 ≠ t) (k : Nat) (u : Value) : Fam (w.setCell ⟨T, k, none⟩ u) B K vs f :=
  ⟨fun j hj => owns_far (h.own j hj) (owns_ne_row (h.own j hj) hT ht) u, h.apart⟩
theorem Fam.keptO (h : Fam w B K vs f) {v : Value} {e : TypeId} {s m : Nat} {xs : List Value} (ho : w.ownsRow B e s v m xs) (he : 3 ≠ e) (hg : w.grownBy w' v.ownBlock) : Fam w' B K vs f :=
  ⟨fun j hj => World.ownsRow.kept (h.own j hj) hg (owns_ne_owns (h.own j hj) ho he), h.apart⟩
theorem Fam.congr {f' : Nat → List Nat} (h : Fam w B K vs f) (e : ∀ j, j < K → f j = f' j) : Fam w B K vs f' := ⟨fun j hj => by rw [← e j hj]; exact h.own j hj, h.apart⟩
theorem Fam.put (h : Fam w B K vs f) {i : Nat} {v' : Value} {q : List Nat} (hi : i < K) (hown : OwnN w' B v' q) (hg : w.grownBy w' (vs i).ownBlock) (hat : v'.ownBlock = (vs i).ownBlock ∨ ∃ g, v'.ownBlock = some g ∧ w.heap.size ≤ g) :
    Fam w' B K (up1 vs i v') (up1 f i q) := by
  have hoth : ∀ x, x < K → x ≠ i → (vs x).ownBlock = none ∨ (vs x).ownBlock ≠ v'.ownBlock := by
    intro x hx hne
    rcases hat with h1 | ⟨g, h1, h2⟩
    · rw [h1]; exact h.apart x i hx hi hne
    · right
      intro e
      have := (World.ownsRow.lt (h.own x hx) g (e.trans h1)).2
      omega
  refine ⟨fun j hj => ?_, fun x y hx hy hne => ?_⟩
  · by_cases e : j = i
    · subst e; rw [up1_same, up1_same]; exact hown
    · rw [up1_other _ _ e, up1_other _ _ e]
      exact World.ownsRow.kept (h.own j hj) hg (h.apart j i hj hi e)
  · by_cases e1 : x = i
    · by_cases e2 : y = i
      · omega
      · rw [e1, up1_same, up1_other _ _ e2]
        cases hv : v'.ownBlock with
        | none => exact .inl rfl
        | some g =>
          right
          intro hh
          rcases hoth y hy e2 with h | h
          · rw [h] at hh; cases hh
          · exact h (hh.symm.trans hv.symm)
    · by_cases e2 : y = i
      · rw [e2, up1_same, up1_other _ _ e1]
        exact hoth x hx e1
      · rw [up1_other _ _ e1, up1_other _ _ e2]
        exact h.apart x y hx hy hne
theorem Fam.add (h : Fam w B K vs f) {v' : Value} {q : List Nat} (hown : OwnN w' B v' q) (hb : ∀ g, B ≤ g → g < w.heap.size → w'.heap[g]? = w.heap[g]?) (hat : v'.ownBlock = none ∨ ∃ g, v'.ownBlock = some g ∧ w.heap.size ≤ g) :
    Fam w' B (K + 1) (up1 vs K v') (up1 f K q) := by
  have hoth : ∀ x, x < K → (vs x).ownBlock = none ∨ (vs x).ownBlock ≠ v'.ownBlock := by
    intro x hx
    rcases hat with h1 | ⟨g, h1, h2⟩
    · rw [h1]
      cases hv : (vs x).ownBlock with
      | none => exact .inl rfl
      | some g => right; simp
    · right
      intro e
      have := (World.ownsRow.lt (h.own x hx) g (e.trans h1)).2
      omega
  refine ⟨fun j hj => ?_, fun x y hx hy hne => ?_⟩
  · by_cases e : j = K
    · subst e; rw [up1_same, up1_same]; exact hown
    · rw [up1_other _ _ e, up1_other _ _ e]
      exact owns_blocks (h.own j (by omega)) hb
  · by_cases e1 : x = K
    · by_cases e2 : y = K
      · omega
      · rw [e1, up1_same, up1_other _ _ e2]
        cases hv : v'.ownBlock with
        | none => exact .inl rfl
        | some g =>
          right
          intro hh
          rcases hoth y (by omega) with h | h
          · rw [h] at hh; cases hh
          · exact h (hh.symm.trans hv.symm)
    · by_cases e2 : y = K
      · rw [e2, up1_same, up1_other _ _ e1]
        exact hoth x (by omega)
      · rw [up1_other _ _ e1, up1_other _ _ e2]
        exact h.apart x y (by omega) (by omega) hne
end

def hdrs (vs : Nat → Value) (a n : Nat) : List Value := (List.range n).map fun i => vs (a + i)
theorem hdrs_len (vs : Nat → Value) (a n : Nat) : (hdrs vs a n).length = n := by simp [hdrs]
theorem hdrs_get (vs : Nat → Value) (a n : Nat) {i : Nat} (hi : i < n) : (hdrs vs a n)[i]'(by rw [hdrs_len]; exact hi) = vs (a + i) := by simp [hdrs]
theorem hdrs_set (vs : Nat → Value) (a n i : Nat) (v : Value) : (hdrs vs a n).set i v = hdrs (up1 vs (a + i) v) a n := by
  apply List.ext_getElem
  · simp [hdrs]
  · intro b h1 h2
    rw [List.getElem_set]
    by_cases e : i = b
    · subst e; simp [hdrs, up1]
    · rw [if_neg e]
      have : ¬ a + b = a + i := by omega
      simp only [hdrs, List.getElem_map, List.getElem_range, up1, if_neg this]
theorem hdrs_off (vs : Nat → Value) (a n j : Nat) (v : Value) (h : j < a ∨ a + n ≤ j) : hdrs (up1 vs j v) a n = hdrs vs a n := by
  unfold hdrs
  apply List.map_congr_left
  intro i hi
  have := List.mem_range.1 hi
  exact up1_other _ _ (by omega)
theorem hdrs_push (vs : Nat → Value) (a n : Nat) (v : Value) : hdrs (up1 vs (a + n) v) a (n + 1) = hdrs vs a n ++ [v] := by
  have e : hdrs (up1 vs (a + n) v) a (n + 1) = hdrs (up1 vs (a + n) v) a n ++ [up1 vs (a + n) v (a + n)] := by
    unfold hdrs
    rw [List.range_succ, List.map_append]; rfl
  rw [e, up1_same, hdrs_off _ _ _ _ _ (.inr (Nat.le_refl _))]

/-- The lists by their numbers: told 0 .., come n .., who sent: 2n, behind each: 2n + 1 .. -/
structure RC (w : World) (B o T C n m : Nat) (vs : Nat → Value) (vc vh : Value) (cs : List Int) (f : Nat → List Nat) : Prop where
  fam : Fam w B (2 * n + 1 + m) vs f
  out : Row w o 26 [vc, .slice (some ⟨T, 0, none⟩) n n]
  told : Row w T 37 (hdrs vs 0 n)
  come : Row w C 37 (hdrs vs n n)
  beh : w.ownsRow B 37 1 vh m (hdrs vs (2 * n + 1) m)
  cod : w.ownsRow B 27 1 vc cs.length (intVals cs)
  tc : T ≠ C
  hT : vh.ownBlock ≠ some T
  hC : vh.ownBlock ≠ some C
  lo : B ≤ o
  lT : B ≤ T
  lC : B ≤ C
section
variable {w w' : World} {B o T C n m : Nat} {vs : Nat → Value} {vc vh : Value} {cs : List Int} {f : Nat → List Nat}
theorem RC.sz (h : RC w B o T C n m vs vc vh cs f) : B ≤ w.heap.size := Nat.le_of_lt (Nat.lt_of_le_of_lt h.lo h.out.lt)
theorem RC.blocks (h : RC w B o T C n m vs vc vh cs f) (hb : ∀ g, B ≤ g → g < w.heap.size → w'.heap[g]? = w.heap[g]?) : RC w' B o T C n m vs vc vh cs f :=
  ⟨h.fam.blocks hb, h.out.block (hb o h.lo h.out.lt), h.told.block (hb T h.lT h.told.lt), h.come.block (hb C h.lC h.come.lt), owns_blocks h.beh hb, owns_blocks h.cod hb, h.tc, h.hT, h.hC, h.lo, h.lT, h.lC⟩
theorem RC.alloc (h : RC w B o T C n m vs vc vh cs f) (ob : Obj) : RC (w.alloc ob) B o T C n m vs vc vh cs f := h.blocks fun g _ hg => Below.heap_alloc w ob g hg
theorem RC.below (h : RC w B o T C n m vs vc vh cs f) (hb : Below w.heap.size w w') : RC w' B o T C n m vs vc vh cs f := h.blocks fun g _ hg => hb.block g hg
theorem RC.congr {f' : Nat → List Nat} (h : RC w B o T C n m vs vc vh cs f) (e : ∀ j, j < 2 * n + 1 + m → f j = f' j) : RC w B o T C n m vs vc vh cs f' :=
  ⟨h.fam.congr e, h.out, h.told, h.come, h.beh, h.cod, h.tc, h.hT, h.hC, h.lo, h.lT, h.lC⟩
theorem RC.ocells (h : RC w B o T C n m vs vc vh cs f) : w.cell? ⟨o, 0, none⟩ = some vc ∧ w.cell? ⟨o, 1, none⟩ = some (.slice (some ⟨T, 0, none⟩) n n) := ⟨h.out.cell (by simp), h.out.cell (i := 1) (by simp)⟩
theorem RC.tcell (h : RC w B o T C n m vs vc vh cs f) {i : Nat} (hi : i < n) : w.cell? ⟨T, i, none⟩ = some (vs i) := by
  rw [h.told.cell (by rw [hdrs_len]; exact hi), hdrs_get _ _ _ hi, Nat.zero_add]
theorem RC.ccell (h : RC w B o T C n m vs vc vh cs f) {i : Nat} (hi : i < n) : w.cell? ⟨C, i, none⟩ = some (vs (n + i)) := by
  rw [h.come.cell (by rw [hdrs_len]; exact hi), hdrs_get _ _ _ hi]
theorem RC.nums (h : RC w B o T C n m vs vc vh cs f) {j : Nat} (hj : j < 2 * n + 1 + m) : ∃ A cap, vs j = .slice A (f j).length cap ∧ (f j).length ≤ cap ∧ cap ≤ maxLen ∧ Nums w w.heap.size A (zs (f j)) := by
  have := (h.fam.own j hj).ints.nums
  rw [zs_len] at this
  exact this
theorem RC.cshape (h : RC w B o T C n m vs vc vh cs f) : ∃ A cap, vc = .slice A cs.length cap := by
  rcases h.cod.2 with ⟨h1, h0⟩ | ⟨g, cap, cur, hv, _⟩
  · exact ⟨none, 0, by rw [h1, h0]⟩
  · exact ⟨_, cap, hv⟩
theorem RC.hshape (h : RC w B o T C n m vs vc vh cs f) : ∃ A cap, vh = .slice A m cap ∧ m ≤ cap ∧ ∀ k, k < m → ∃ g, A = some ⟨g, 0, none⟩ ∧ g < w.heap.size ∧ w.cell? ⟨g, k, none⟩ = some (vs (2 * n + 1 + k)) := by
  have hlt := h.beh.lt
  rcases h.beh.2 with ⟨h1, h0⟩ | ⟨g, cap, cur, hv, _, hg, h1, h2, h3, h4⟩
  · exact ⟨none, 0, by rw [h1, h0], by omega, fun k hk => by omega⟩
  · refine ⟨_, cap, hv, h1, fun k hk => ⟨g, rfl, (hlt g (by rw [hv]; rfl)).2, ?_⟩⟩
    rw [cell_of_row w g k cur 37 (0, 0) hg]
    have : (hdrs vs (2 * n + 1) m)[k]? = some (vs (2 * n + 1 + k)) := by simp [hdrs, hk]
    rw [← h4, List.getElem?_take_of_lt (by omega), Array.getElem?_toList] at this
    exact this
/-- out.Told[i] = append(out.Told[i], x). -/
theorem RC.pushT (h : RC w B o T C n m vs vc vh cs f) {i : Nat} {v' : Value} {q : List Nat} (hi : i < n) (hown : OwnN w' B v' q) (hg : w.grownBy w' (vs i).ownBlock) (hat : v'.ownBlock = (vs i).ownBlock ∨ ∃ g, v'.ownBlock = some g ∧ w.heap.size ≤ g) :
    RC (w'.setCell ⟨T, i, none⟩ v') B o T C n m (up1 vs i v') vc vh cs (up1 f i q) := by
  have ho := h.fam.own i (by omega)
  have hT' := h.told.grown hg (fun e => owns_ne_row ho h.told (by decide) e.symm)
  have hO' := h.out.grown hg (fun e => owns_ne_row ho h.out (by decide) e.symm)
  have hC' := h.come.grown hg (fun e => owns_ne_row ho h.come (by decide) e.symm)
  have hB' := h.beh.kept hg (owns_ne_owns h.beh ho (by decide))
  have hK' := h.cod.kept hg (owns_ne_owns h.cod ho (by decide))
  refine ⟨(h.fam.put (by omega) hown hg hat).far hT' (by decide) i v', hO'.far (hO'.ne hT' (by decide)) v', ?_, ?_, ?_, owns_far hK' (owns_ne_row hK' hT' (by decide)) v', h.tc, h.hT, h.hC, h.lo, h.lT, h.lC⟩
  · have := hT'.set i v'
    rw [hdrs_set, Nat.zero_add] at this
    exact this
  · rw [hdrs_off _ _ _ _ _ (.inl hi)]
    exact hC'.far (fun e => h.tc e.symm) v'
  · rw [hdrs_off _ _ _ _ _ (.inl (by omega))]
    exact owns_far hB' h.hT v'
/-- come[i] = append(come[i], x). -/
theorem RC.pushC (h : RC w B o T C n m vs vc vh cs f) {i : Nat} {v' : Value} {q : List Nat} (hi : i < n) (hown : OwnN w' B v' q) (hg : w.grownBy w' (vs (n + i)).ownBlock) (hat : v'.ownBlock = (vs (n + i)).ownBlock ∨ ∃ g, v'.ownBlock = some g ∧ w.heap.size ≤ g) :
    RC (w'.setCell ⟨C, i, none⟩ v') B o T C n m (up1 vs (n + i) v') vc vh cs (up1 f (n + i) q) := by
  have ho := h.fam.own (n + i) (by omega)
  have hT' := h.told.grown hg (fun e => owns_ne_row ho h.told (by decide) e.symm)
  have hO' := h.out.grown hg (fun e => owns_ne_row ho h.out (by decide) e.symm)
  have hC' := h.come.grown hg (fun e => owns_ne_row ho h.come (by decide) e.symm)
  have hB' := h.beh.kept hg (owns_ne_owns h.beh ho (by decide))
  have hK' := h.cod.kept hg (owns_ne_owns h.cod ho (by decide))
  refine ⟨(h.fam.put (by omega) hown hg hat).far hC' (by decide) i v', hO'.far (hO'.ne hC' (by decide)) v', ?_, ?_, ?_, owns_far hK' (owns_ne_row hK' hC' (by decide)) v', h.tc, h.hT, h.hC, h.lo, h.lT, h.lC⟩
  · rw [hdrs_off _ _ _ _ _ (.inr (by omega))]
    exact hT'.far h.tc v'
  · have := hC'.set i v'
    rw [hdrs_set] at this
    exact this
  · rw [hdrs_off _ _ _ _ _ (.inl (by omega))]
    exact owns_far hB' h.hC v'
/-- by = append(by, x). -/
theorem RC.pushB (h : RC w B o T C n m vs vc vh cs f) {v' : Value} {q : List Nat} (hown : OwnN w' B v' q) (hg : w.grownBy w' (vs (2 * n)).ownBlock) (hat : v'.ownBlock = (vs (2 * n)).ownBlock ∨ ∃ g, v'.ownBlock = some g ∧ w.heap.size ≤ g) :
    RC w' B o T C n m (up1 vs (2 * n) v') vc vh cs (up1 f (2 * n) q) := by
  have ho := h.fam.own (2 * n) (by omega)
  refine ⟨h.fam.put (by omega) hown hg hat, h.out.grown hg (fun e => owns_ne_row ho h.out (by decide) e.symm), ?_, ?_, ?_, h.cod.kept hg (owns_ne_owns h.cod ho (by decide)), h.tc, h.hT, h.hC, h.lo, h.lT, h.lC⟩
  · rw [hdrs_off _ _ _ _ _ (.inr (by omega))]
    exact h.told.grown hg (fun e => owns_ne_row ho h.told (by decide) e.symm)
  · rw [hdrs_off _ _ _ _ _ (.inr (by omega))]
    exact h.come.grown hg (fun e => owns_ne_row ho h.come (by decide) e.symm)
  · rw [hdrs_off _ _ _ _ _ (.inl (by omega))]
    exact h.beh.kept hg (owns_ne_owns h.beh ho (by decide))
/-- behind = append(behind, v1): first a list of its own, then its header. -/
theorem RC.addH {w1 : World} {v1 vh' : Value} {q : List Nat} (h : RC w B o T C n m vs vc vh cs f) (hown : OwnN w1 B v1 q) (hb : ∀ g, B ≤ g → g < w.heap.size → w1.heap[g]? = w.heap[g]?) (hat1 : v1.ownBlock = none ∨ ∃ g, v1.ownBlock = some g ∧ w.heap.size ≤ g)
    (hown2 : w'.ownsRow B 37 1 vh' (m + 1) (hdrs vs (2 * n + 1) m ++ [v1])) (hg : w1.grownBy w' vh.ownBlock) (hat : vh'.ownBlock = vh.ownBlock ∨ ∃ g, vh'.ownBlock = some g ∧ w1.heap.size ≤ g) :
    RC w' B o T C n (m + 1) (up1 vs (2 * n + 1 + m) v1) vc vh' cs (up1 f (2 * n + 1 + m) q) := by
  have h1 := h.blocks hb
  have hf := h.fam.add hown hb hat1
  have e : 2 * n + 1 + (m + 1) = 2 * n + 1 + m + 1 := by omega
  refine ⟨by rw [e]; exact hf.keptO h1.beh (by decide) hg, h1.out.grown hg (fun e => owns_ne_row h1.beh h1.out (by decide) e.symm), ?_, ?_, by rw [hdrs_push]; exact hown2, h1.cod.kept hg (owns_ne_owns h1.cod h1.beh (by decide)), h.tc, ?_, ?_, h.lo, h.lT, h.lC⟩
  · rw [hdrs_off _ _ _ _ _ (.inr (by omega))]
    exact h1.told.grown hg (fun e => h.hT e.symm)
  · rw [hdrs_off _ _ _ _ _ (.inr (by omega))]
    exact h1.come.grown hg (fun e => h.hC e.symm)
  · rcases hat with h2 | ⟨g, h2, h3⟩
    · rw [h2]; exact h.hT
    · rw [h2]; intro e; injection e with e; have := h1.told.lt; omega
  · rcases hat with h2 | ⟨g, h2, h3⟩
    · rw [h2]; exact h.hC
    · rw [h2]; intro e; injection e with e; have := h1.come.lt; omega
/-- out.Codes = append(out.Codes, c). -/
theorem RC.code (h : RC w B o T C n m vs vc vh cs f) {v' : Value} {c : Int} (hown : w'.ownsRow B 27 1 v' (cs.length + 1) (intVals cs ++ [.int .i64 c])) (hg : w.grownBy w' vc.ownBlock) :
    RC (w'.setCell ⟨o, 0, none⟩ v') B o T C n m vs v' vh (cs ++ [c]) f := by
  have hO' := h.out.grown hg (fun e => owns_ne_row h.cod h.out (by decide) e.symm)
  have hT' := h.told.grown hg (fun e => owns_ne_row h.cod h.told (by decide) e.symm)
  have hC' := h.come.grown hg (fun e => owns_ne_row h.cod h.come (by decide) e.symm)
  have hB' := h.beh.kept hg (owns_ne_owns h.beh h.cod (by decide))
  refine ⟨(h.fam.keptO h.cod (by decide) hg).far hO' (by decide) 0 v', hO'.set 0 v', hT'.far (hT'.ne hO' (by decide)) v', hC'.far (hC'.ne hO' (by decide)) v', owns_far hB' (owns_ne_row hB' hO' (by decide)) v', ?_, h.tc, h.hT, h.hC, h.lo, h.lT, h.lC⟩
  have e : intVals (cs ++ [c]) = intVals cs ++ [.int .i64 c] := by simp [intVals]
  rw [e, List.length_append]
  exact owns_far hown (owns_ne_row hown hO' (by decide)) v'
end

#print axioms RC.addH
#print axioms RC.code
end Go.Proofs.Ytkchccaeopdemaa
