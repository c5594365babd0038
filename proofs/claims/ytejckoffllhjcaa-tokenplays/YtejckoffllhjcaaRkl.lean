/-
  How what beaconryref.Token holds follows the state; letters appended; a slice of one's own as a queue.
-/
import Derived.Test.YtejckoffllhjcaaRkp
import Derived.Test.YtejckoffllhjcaaTrf
import Derived.Test.YtejckoffllhjcaaKen
import Derived.Test.YtejckoffllhjcaaHld
import Derived.Test.YtejckoffllhjcaaCpz
import Derived.Maps.AppendAt
namespace Go.Proofs.Ytejckoffllhjcaa
open Go.RowKit Go.Maps
set_option linter.unusedVariables false

/-- The letters follow the channels. -/
structure RelL (n : Nat) (q : Nat → Nat → List Int) (L : List Lt) : Prop where
  lq : ∀ i j, i < n → j < n → i ≠ j → q i j = vals L (i : Int) (j : Int)
  low : ∀ x ∈ L, ∃ i j : Nat, i < n ∧ j < n ∧ i ≠ j ∧ x.f = (i : Int) ∧ x.t = (j : Int)
section
variable {n : Nat} {q : Nat → Nat → List Int} {L : List Lt}
theorem RelL.begin (n : Nat) : RelL n (fun _ _ => []) [] := ⟨fun _ _ _ _ _ => rfl, fun _ h => (by cases h)⟩
theorem RelL.put (h : RelL n q L) {i j : Nat} (hi : i < n) (hj : j < n) (hne : i ≠ j) (x : Int) : RelL n (up2 q i j (q i j ++ [x])) (L ++ [⟨(i : Int), (j : Int), x⟩]) := by
  refine ⟨fun a b ha hb hab => ?_, fun y hy => ?_⟩
  · rw [vals_append, vals_one, ← h.lq a b ha hb hab]
    by_cases e : a = i ∧ b = j
    · obtain ⟨rfl, rfl⟩ := e
      rw [up2_same, if_pos ⟨rfl, rfl⟩]
    · rw [up2_other _ _ e, if_neg (by omega)]
      simp
  · rcases List.mem_append.1 hy with h1 | h1
    · exact h.low y h1
    · rw [List.mem_singleton.1 h1]; exact ⟨i, j, hi, hj, hne, rfl, rfl⟩
theorem RelL.same {q' : Nat → Nat → List Int} (h : RelL n q L) (e : q' = q) : RelL n q' L := by rw [e]; exact h
/-- The first one on a channel. -/
theorem RelL.none_ (h : RelL n q L) {i j : Nat} (hi : i < n) (hj : j < n) (hne : i ≠ j) (hf : ∀ k, k < L.length → ¬ isLt L (i : Int) (j : Int) k) : q i j = [] := by
  rw [h.lq i j hi hj hne]
  exact vals_none hf
theorem RelL.pop (h : RelL n q L) {i j k : Nat} (hi : i < n) (hj : j < n) (hne : i ≠ j) (hk : k < L.length) (hm : isLt L (i : Int) (j : Int) k) (hb : ∀ m, m < k → ¬ isLt L (i : Int) (j : Int) m) :
    (∃ r, q i j = (lt_ L k).v :: r) ∧ RelL n (up2 q i j (q i j).tail) (L.take k ++ L.drop (k + 1)) := by
  have hf := vals_first hk hm hb
  have h1 : q i j = (lt_ L k).v :: vals (L.take k ++ L.drop (k + 1)) (i : Int) (j : Int) := by rw [h.lq i j hi hj hne, hf, if_pos ⟨rfl, rfl⟩]
  refine ⟨⟨_, h1⟩, fun a b ha hb' hab => ?_, fun y hy => ?_⟩
  · by_cases e : a = i ∧ b = j
    · obtain ⟨rfl, rfl⟩ := e
      rw [up2_same, h1]; rfl
    · rw [up2_other _ _ e, h.lq a b ha hb' hab, hf, if_neg (by omega)]
  · refine h.low y ?_
    rcases List.mem_append.1 hy with h2 | h2
    · exact List.mem_of_mem_take h2
    · exact List.mem_of_mem_drop h2
/-- How many there are. -/
theorem RelL.len (h : RelL n q L) (hself : ∀ i, q i i = []) : (L.length : Int) = sum2 n fun i j => ((q i j).length : Int) := by
  have key : ∀ M : List Lt, (∀ x ∈ M, ∃ i j : Nat, i < n ∧ j < n ∧ i ≠ j ∧ x.f = (i : Int) ∧ x.t = (j : Int)) → (M.length : Int) = sum2 n fun i j => ((vals M (i : Int) (j : Int)).length : Int) := by
    intro M
    induction M with
    | nil =>
      intro _
      rw [sum2_congr (f := fun _ _ => 0) (g := fun i j => ((vals [] (i : Int) (j : Int)).length : Int)) (fun i j _ _ => rfl)]
      unfold sum2
      rw [sumN_congr (f := fun _ => 0) (fun i _ => by rw [sumN_const]; simp), sumN_const]; simp
    | cons x r ih =>
      intro hM
      obtain ⟨i, j, hi, hj, hne, e1, e2⟩ := hM x (by simp)
      have ih' := ih (fun y hy => hM y (List.mem_cons_of_mem _ hy))
      have hx : x = ⟨(i : Int), (j : Int), x.v⟩ := by cases x; simp_all
      have hv : ∀ a b : Nat, ((vals (x :: r) (a : Int) (b : Int)).length : Int) = ((vals r (a : Int) (b : Int)).length : Int) + if a = i ∧ b = j then 1 else 0 := fun a b => by
        rw [← List.singleton_append, vals_append, hx, vals_one]
        by_cases e : a = i ∧ b = j
        · rw [if_pos (by omega), if_pos e]; simp
        · rw [if_neg (by omega), if_neg e]; simp
      rw [sum2_congr (f := fun a b => ((vals r (a : Int) (b : Int)).length : Int) + if a = i ∧ b = j then 1 else 0) (fun a b _ _ => hv a b), sum2_add, ← ih',
        sum2_at hi hj (f := fun _ _ => 0) (g := fun a b => if a = i ∧ b = j then (1 : Int) else 0) (fun a b h => if_neg h), if_pos ⟨rfl, rfl⟩, List.length_cons]
      have hz : sum2 n (fun _ _ => (0 : Int)) = 0 := by
        unfold sum2
        rw [sumN_congr (f := fun _ => 0) (fun i _ => by rw [sumN_const]; simp), sumN_const]; simp
      rw [hz]
      omega
  rw [key L h.low]
  refine (sum2_congr fun i j hi hj => ?_).symm
  by_cases e : i = j
  · subst e
    rw [hself]
    have : vals L (i : Int) (i : Int) = [] := vals_none fun k hk hh => by
      obtain ⟨a, b, _, _, hne, e1, e2⟩ := h.low L[k] (List.getElem_mem hk)
      rw [lt_get L hk] at e1 e2
      have := hh.1
      have := hh.2
      omega
    rw [this]
  · rw [h.lq i j hi hj e]
end
/-- A slice that the call made, as a queue. -/
theorem OwnInts.que {w : World} {B : Nat} {v : Value} {xs : List Int} (h : OwnInts w B v xs) : QueT 3 w B v xs := by
  rcases h.2 with ⟨h1, h2⟩ | ⟨g, cap, cur, hv, hB, hg, hn, hm, hsz, ht⟩
  · exact .inl ⟨h1, List.eq_nil_of_length_eq_zero h2⟩
  · rw [Nat.mul_one] at hsz ht
    refine .inr ⟨g, 0, cap, cur, hv, hB, hg, hn, hm, by rw [Nat.zero_add, hsz]; exact Nat.le_refl _, fun i hi => ?_⟩
    have h3 : (intVals xs)[i]? = some (.int .i64 xs[i]) := by simp [intVals, hi]
    rw [← ht, List.getElem?_take_of_lt (by omega), Array.getElem?_toList] at h3
    rw [Nat.zero_add]; exact h3
/-- 'append(s, ys...)' of ints, at a step of a region that draws its order. -/
theorem step_append_ints {w : World} {ops : Array Oper} {o : Oper} {a : Act} {K : Act → World → Prop} {Q : Exit → Act → World → Prop} {E : Prop} (hgd : o.guard = none) (s x : Operand)
    (ho : o.op = .call { callee := .builtin .append, args := #[s, x], argTypes := #[22, 22] }) (B : Nat) (v : Value) (xs : List Int) (hs : a.eval s = v) (hown : OwnInts w B v xs)
    (b off c m : Nat) (ys : List Int) (hm : ys.length = m) (hx : a.eval x = .slice (some ⟨b, off, none⟩) m c) (D : Nat) (hN : Nums w D (some ⟨b, off, none⟩) ys) (hl : xs.length + ys.length ≤ 1000) (hbase : B ≤ w.heap.size)
    (h : ∀ v' w', OwnInts w' B v' (xs ++ ys) → w.grownBy w' v.ownBlock → (v'.ownBlock = v.ownBlock ∨ v'.ownBlock = some w.heap.size) → K (a.put o.dst v') w') :
    if Region.wanted o (yielded ops a.tmps) = true then Oper.wp Try.prog o a w K Q else E := by
  subst hm
  have hw : Region.wanted o (yielded ops a.tmps) = true := by simp [Region.wanted, hgd]
  rw [if_pos hw]
  obtain ⟨j0, hj0, hy0, hy1, hy2⟩ := info_parts infoInt
  obtain ⟨v', w', hr, h2, h3, h4, h5⟩ := run_append_own_at (P := Try.prog) w B 22 o.type 3 j0 (.int .i64 0) 1 8 Try.underlying22 hj0 hy0 hy1 hy2 rfl (by decide) v xs.length (intVals xs) hown ⟨b, off, none⟩ ys.length c (intVals ys) (by rw [intVals_len, Nat.mul_one]) (nums_news hN) (intVals_one ys) (by unfold maxLen; omega) (by omega) hbase
  unfold Oper.wp execOp
  simp only [ho, resolve, invoke, builtin, Sem.run_bind, Sem.run_pure, Result.andThen_ok, List.map_toArray, List.map_cons, List.map_nil, hs, hx, hr]
  refine h v' w' ?_ h3 h5
  have e : intVals xs ++ intVals ys = intVals (xs ++ ys) := by simp [intVals]
  rw [e] at h2
  unfold OwnInts
  rw [List.length_append]
  exact h2
/-- 'append(q, x)' of an int, at a step of a region that draws its order. -/
theorem step_append_queI {w : World} {ops : Array Oper} {o : Oper} {a : Act} {K : Act → World → Prop} {Q : Exit → Act → World → Prop} {E : Prop} (hgd : o.guard = none) (s x : Operand)
    (ho : o.op = .call { callee := .builtin .append, args := #[s, x], argTypes := #[22, 22] }) (j0 : TypeInfo) (hJi : Try.prog.info? 3 = some j0) (hJz : j0.zero = some (.int .i64 0)) (hJs : j0.size = 1) (hJb : j0.bytes = 8)
    (B : Nat) (v : Value) (xs : List Int) (hs : a.eval s = v) (h : QueT 3 w B v xs) (hB : B ≤ w.heap.size) (hl : xs.length ≤ 1000) (ad : Addr) (y : Int) (hx : a.eval x = .slice (some ad) 1 1) (hy : w.cell? ad = some (.int .i64 y))
    (hh : ∀ v' w', QueT 3 w' B v' (xs ++ [y]) → w.grownBy w' v.ownBlock → (v'.ownBlock = v.ownBlock ∨ v'.ownBlock = some w.heap.size) → K (a.put o.dst v') w') :
    if Region.wanted o (yielded ops a.tmps) = true then Oper.wp Try.prog o a w K Q else E := by
  have hw : Region.wanted o (yielded ops a.tmps) = true := by simp [Region.wanted, hgd]
  rw [if_pos hw]
  obtain ⟨v', w', hr, h1, h2, h3⟩ := run_append_queT 22 o.type Try.underlying22 j0 hJi hJz hJs hJb h hB hl ad y hy
  unfold Oper.wp execOp
  simp only [ho, resolve, invoke, builtin, Sem.run_bind, Sem.run_pure, Result.andThen_ok, List.map_toArray, List.map_cons, List.map_nil, hs, hx, hr]
  exact hh v' w' h1 h2 h3
/-- 'append(v, m)', a letter, at a step of a region that draws its order. -/
theorem step_append_let {w : World} {ops : Array Oper} {o : Oper} {a : Act} {K : Act → World → Prop} {Q : Exit → Act → World → Prop} {E : Prop} (hgd : o.guard = none) (s x : Operand)
    (ho : o.op = .call { callee := .builtin .append, args := #[s, x], argTypes := #[50, 50] })
    (j0 : TypeInfo) (hJi : Try.prog.info? 52 = some j0) (hJz : j0.zero = some (.agg #[.int .i64 0, .int .i64 0, .int .i64 0])) (hJs : j0.size = 3) (hJb : j0.bytes = 24)
    (B : Nat) (v : Value) (X : List Lt) (m : Lt) (hs : a.eval s = v) (hown : OwnL w B v X) (ad : Addr) (hx : a.eval x = .slice (some ad) 1 1) (hnews : ∀ j u, (cellsL m)[j]? = some u → w.cell? (ad.add j) = some u)
    (hlen : X.length ≤ 10000) (hbase : B ≤ w.heap.size)
    (h : ∀ v' w', OwnL w' B v' (X ++ [m]) → w.grownBy w' v.ownBlock → K (a.put o.dst v') w') :
    if Region.wanted o (yielded ops a.tmps) = true then Oper.wp Try.prog o a w K Q else E := by
  have hw : Region.wanted o (yielded ops a.tmps) = true := by simp [Region.wanted, hgd]
  rw [if_pos hw]
  obtain ⟨v', w', hr, h2, h3, h4, h5⟩ := run_append_own_at (P := Try.prog) w B 50 o.type 52 j0 _ 3 24 Try.underlying50 hJi hJz hJs hJb rfl (by decide) v X.length (flatL X) hown ad 1 1 (cellsL m) rfl hnews (by simp [cellsL, Value.oneCell']) (by unfold maxLen; omega) (by omega) hbase
  unfold Oper.wp execOp
  simp only [ho, resolve, invoke, builtin, Sem.run_bind, Sem.run_pure, Result.andThen_ok, List.map_toArray, List.map_cons, List.map_nil, hs, hx, hr]
  refine h v' w' ?_ h3
  unfold OwnL
  rw [flatL_append, flatL_one, List.length_append]
  exact h2

/-- Who has the token. -/
def holdB (S : KS) (i : Nat) : Bool := decide (S.ptr i = i)
def ptK (S : KS) (i : Nat) : Int := (S.ptr i : Int)
def rwK (S : KS) (i : Nat) : List Int := nlK (S.row i)
/-- The codes of the first k moves. -/
def codesK (n : Nat) (u : Nat → Nat) (l : List Mv) (k : Nat) : List Int := (List.range k).map (codeK n u l)
theorem codesK_succ (n : Nat) (u : Nat → Nat) (l : List Mv) (k : Nat) : codesK n u l (k + 1) = codesK n u l k ++ [codeK n u l k] := by simp [codesK, List.range_succ]
theorem codesK_len (n : Nat) (u : Nat → Nat) (l : List Mv) (k : Nat) : (codesK n u l k).length = k := by simp [codesK]
def R0K : List Value := [.int .u32 0, .int .u32 0, .int .i64 0]
/-- All that holds of a state S in the world, but for where the lists lie. -/
def RkS (w : World) (B n : Nat) (b : KB) (S : KS) (N : Nat) (cs : List Int) : Prop := ∃ vs vl L vc, RfK w B n b vs (rwK S) (ptK S) (holdB S) S.ins vl L vc cs R0K ∧ RelL n S.q L ∧ L.length ≤ N
/-- Nothing below B has turned, and no move. -/
structure BlM (B : Nat) (w w' : World) : Prop where
  low : Below B w w'
  mov : ∀ g xs, Row w g 40 xs → Row w' g 40 xs
section
variable {B : Nat} {w w' w2 : World}
theorem BlM.refl (B : Nat) (w : World) : BlM B w w := ⟨Below.refl B w, fun _ _ h => h⟩
theorem BlM.trans (h : BlM B w w') (k : BlM B w' w2) : BlM B w w2 := ⟨h.low.trans k.low, fun g xs hg => k.mov g xs (h.mov g xs hg)⟩
theorem BlM.setRow (h : BlM B w w') {p : Addr} {t : TypeId} {ys : List Value} (hr : Row w' p.block t ys) (ht : 40 ≠ t) (hp : B ≤ p.block) (u : Value) : BlM B w (w'.setCell p u) :=
  ⟨h.low.setCell hp u, fun g xs hg => (h.mov g xs hg).far (rowG_ne (h.mov g xs hg) hr ht) u⟩
theorem BlM.alloc (h : BlM B w w') (hs : B ≤ w'.heap.size) (o : Obj) : BlM B w (w'.alloc o) := ⟨h.low.alloc hs o, fun g xs hg => (h.mov g xs hg).alloc o⟩
theorem BlM.same (h : BlM B w w') (hz : w2.heap = w'.heap) (hl : Below B w w2) : BlM B w w2 := ⟨hl, fun g xs hg => (h.mov g xs hg).block (by rw [hz])⟩
theorem BlM.drewN (h : BlM B w w') (k : Nat) : BlM B w (w'.drewN k) := ⟨below_drewN h.low k, fun g xs hg => (h.mov g xs hg).block rfl⟩
theorem BlM.drew (h : BlM B w w') : BlM B w w'.drew := ⟨h.low.drew, fun g xs hg => (h.mov g xs hg).block rfl⟩
theorem BlM.grown (h : BlM B w w') {row : Option Nat} (hg : w'.grownBy w2 row) (hs : B ≤ w'.heap.size) (hB : ∀ q, row = some q → B ≤ q) (hM : ∀ g xs, Row w' g 40 xs → row ≠ some g) : BlM B w w2 :=
  ⟨h.low.grown hg hs hB, fun g xs hr => (h.mov g xs hr).grown hg (fun e => hM g xs (h.mov g xs hr) e.symm)⟩
end
theorem RkS.alloc {w : World} {B n : Nat} {b : KB} {S : KS} {N : Nat} {cs : List Int} (h : RkS w B n b S N cs) (o : Obj) : RkS (w.alloc o) B n b S N cs := by
  obtain ⟨vs, vl, L, vc, h1, h2, h3⟩ := h
  exact ⟨vs, vl, L, vc, h1.alloc o, h2, h3⟩
theorem RkS.below {w w' : World} {B n : Nat} {b : KB} {S : KS} {N : Nat} {cs : List Int} (h : RkS w B n b S N cs) (hb : Below w.heap.size w w') : RkS w' B n b S N cs := by
  obtain ⟨vs, vl, L, vc, h1, h2, h3⟩ := h
  exact ⟨vs, vl, L, vc, h1.below hb, h2, h3⟩
theorem RkS.more {w : World} {B n : Nat} {b : KB} {S : KS} {N N' : Nat} {cs : List Int} (h : RkS w B n b S N cs) (hN : N ≤ N') : RkS w B n b S N' cs := by
  obtain ⟨vs, vl, L, vc, h1, h2, h3⟩ := h
  exact ⟨vs, vl, L, vc, h1, h2, Nat.le_trans h3 hN⟩
theorem RkS.sz {w : World} {B n : Nat} {b : KB} {S : KS} {N : Nat} {cs : List Int} (h : RkS w B n b S N cs) : B ≤ w.heap.size := by
  obtain ⟨vs, vl, L, vc, h1, h2, h3⟩ := h
  exact h1.sz

#print axioms step_append_ints
#print axioms step_append_let
#print axioms RelL.len
end Go.Proofs.Ytejckoffllhjcaa
