/-
  Words for memory: the network of package echo.
-/
import Derived.Test.YtjmkmfeibempjaaEcd
import Derived.Test.YtjmkmfeibempjaaLV
import Derived.Test.YtjmkmfeibempjaaIntW
import Derived.Test.YtjmkmfeibempjaaRows
import Derived.KernelRfl
namespace Go.Proofs.Ytjmkmfeibempjaa
open Go.RowKit Go.Maps

theorem row_ne {w : World} {a b : Nat} {t t' : TypeId} {xs ys : List Value} (h : Row w a t xs) (h' : Row w b t' ys) (hne : t ≠ t') : a ≠ b := by
  intro e
  subst e
  unfold Row at h h'
  rw [h] at h'
  injection h' with h'
  injection h' with _ h'
  exact hne h'
theorem owns_blk {w w' : World} {B : Nat} {e : TypeId} {size n : Nat} {v : Value} {xs : List Value} (h : w.ownsRow B e size v n xs) (hb : ∀ g, v.ownBlock = some g → w'.heap[g]? = w.heap[g]?) : w'.ownsRow B e size v n xs := by
  refine ⟨h.1, ?_⟩
  rcases h.2 with h7 | ⟨g, cap, cur, hv, hb', hg, rest⟩
  · exact .inl h7
  · exact .inr ⟨g, cap, cur, hv, hb', (hb g (by rw [hv]; rfl)).trans hg, rest⟩
theorem owns_ne_owns {w : World} {B B' : Nat} {e e' : TypeId} {size size' n n' : Nat} {v v' : Value} {xs ys : List Value} (h : w.ownsRow B e size v n xs) (h' : w.ownsRow B' e' size' v' n' ys) (hne : e ≠ e') {g : Nat} (hg : v.ownBlock = some g) : v'.ownBlock ≠ some g := by
  intro hg'
  rcases h.2 with ⟨rfl, _⟩ | ⟨a, cap, cur, rfl, _, ha, _⟩
  · cases hg
  · rcases h'.2 with ⟨rfl, _⟩ | ⟨b, cap', cur', rfl, _, hb, _⟩
    · cases hg'
    · have e1 : a = g := by simpa [Value.ownBlock] using hg
      have e2 : b = g := by simpa [Value.ownBlock] using hg'
      subst e1 e2
      rw [ha] at hb
      injection hb with hb
      injection hb with _ hb
      exact hne hb

/-! Messages. -/
def cellsM (m : Nat × Nat) : List Value := [.int .i64 (m.1 : Int), .int .i64 (m.2 : Int)]
def flatM (l : List (Nat × Nat)) : List Value := l.flatMap cellsM
theorem flatM_len (l : List (Nat × Nat)) : (flatM l).length = l.length * 2 := by
  unfold flatM
  induction l with
  | nil => rfl
  | cons f r ih => rw [List.flatMap_cons, List.length_append, ih, List.length_cons]; show 2 + _ = _; omega
theorem flatM_append (l r : List (Nat × Nat)) : flatM (l ++ r) = flatM l ++ flatM r := by unfold flatM; rw [List.flatMap_append]
theorem flatM_one (m : Nat × Nat) : flatM [m] = cellsM m := by simp [flatM]
theorem flatM_at (l : List (Nat × Nat)) {i j : Nat} (hi : i < l.length) (hj : j < 2) : (flatM l)[i * 2 + j]? = (cellsM l[i])[j]? := by
  induction l generalizing i with
  | nil => simp at hi
  | cons f r ih =>
    have e : flatM (f :: r) = cellsM f ++ flatM r := by unfold flatM; rw [List.flatMap_cons]
    rw [e]
    cases i with
    | zero =>
      rw [List.getElem?_append_left (by show 0 * 2 + j < 2; omega), Nat.zero_mul, Nat.zero_add]
      rfl
    | succ i =>
      rw [List.getElem?_append_right (by show 2 ≤ _; omega)]
      have : (i + 1) * 2 + j - (cellsM f).length = i * 2 + j := by show (i + 1) * 2 + j - 2 = _; omega
      rw [this, ih (by simpa using hi)]
      rfl
theorem flatM_take (l : List (Nat × Nat)) (k : Nat) : flatM (l.take k) = (flatM l).take (k * 2) := by
  have h : flatM l = flatM (l.take k) ++ flatM (l.drop k) := by rw [← flatM_append, List.take_append_drop]
  by_cases hk : k ≤ l.length
  · rw [h, List.take_left' (by rw [flatM_len]; simp; omega)]
  · rw [List.take_of_length_le (by omega), List.take_of_length_le (by rw [flatM_len]; omega)]
theorem flatM_drop (l : List (Nat × Nat)) (k : Nat) : flatM (l.drop k) = (flatM l).drop (k * 2) := by
  have h : flatM l = flatM (l.take k) ++ flatM (l.drop k) := by rw [← flatM_append, List.take_append_drop]
  by_cases hk : k ≤ l.length
  · rw [h, List.drop_left' (by rw [flatM_len]; simp; omega)]
  · rw [List.drop_eq_nil_of_le (by omega), List.drop_eq_nil_of_le (by rw [flatM_len]; omega)]; rfl
theorem flatM_one' (l : List (Nat × Nat)) : ∀ u ∈ flatM l, u.oneCell' = true := by
  intro u hu
  obtain ⟨m, _, hm⟩ := List.mem_flatMap.1 hu
  simp [cellsM] at hm
  rcases hm with rfl | rfl <;> rfl
def OwnM (w : World) (B : Nat) (v : Value) (l : List (Nat × Nat)) : Prop := w.ownsRow B 65 2 v l.length (flatM l)
theorem OwnM.push {w : World} {B g cap : Nat} {l : List (Nat × Nat)} {m : Nat × Nat} (h : w.ownsRow B 65 2 (.slice (some ⟨g, 0, none⟩) (l.length + 1) cap) (l.length + 1) (flatM l ++ cellsM m)) : OwnM w B (.slice (some ⟨g, 0, none⟩) (l.length + 1) cap) (l ++ [m]) := by
  unfold OwnM
  rw [flatM_append, flatM_one, List.length_append]
  exact h
theorem OwnM.nil (w : World) (B : Nat) : OwnM w B (.slice none 0 0) [] := ⟨rfl, .inl ⟨rfl, rfl⟩⟩
/-- What it looks like. -/
theorem OwnM.shape {w : World} {B : Nat} {v : Value} {l : List (Nat × Nat)} (h : OwnM w B v l) : ∃ A cap, v = .slice A l.length cap ∧ l.length ≤ cap ∧ cap ≤ maxLen ∧ ∀ i, (hi : i < l.length) → ∃ g, A = some ⟨g, 0, none⟩ ∧ w.cell? ⟨g, i * 2, none⟩ = some (.int .i64 (l[i].1 : Int)) ∧ w.cell? ⟨g, i * 2 + 1, none⟩ = some (.int .i64 (l[i].2 : Int)) := by
  rcases h.2 with ⟨h7, h8⟩ | ⟨g, cap, cur, hv, hb', hg', hc1, hc2, hc3, hc4⟩
  · exact ⟨none, 0, by rw [h7, h8], by omega, by unfold maxLen; omega, fun i hi => by omega⟩
  · refine ⟨_, cap, hv, hc1, hc2, fun i hi => ⟨g, rfl, ?_⟩⟩
    have key : ∀ j, j < 2 → w.cell? ⟨g, i * 2 + j, none⟩ = (cellsM l[i])[j]? := fun j hj => by
      rw [cell_of_row w g (i * 2 + j) cur 65 (0, 0) hg', ← flatM_at l hi hj, ← hc4, List.getElem?_take, if_pos (by omega)]
      simp
    exact ⟨key 0 (by omega), key 1 (by omega)⟩
theorem newsM {w : World} {g : Nat} (m : Nat × Nat) (h : g = w.heap.size) : ∀ j u, (cellsM m)[j]? = some u → (w.alloc (.cells #[.int .i64 (m.1 : Int), .int .i64 (m.2 : Int)] 65)).cell? ((⟨g, 0, none⟩ : Addr).add j) = some u := by
  subst h
  exact World.news_of_block (cs := #[.int .i64 (m.1 : Int), .int .i64 (m.2 : Int)]) (fr := (0, 0)) (heap_alloc_new w _)
theorem infoMsg : (Try.prog.info? 65).map (fun i => (i.zero, i.size, i.bytes)) = some (some (.agg #[.int .i64 0, .int .i64 0]), 2, 16) := by kernel_rfl

/-! Neighbors. -/
def nvE (q : List Nat) : List Value := q.map fun (x : Nat) => Value.int .i64 (x : Int)
theorem nvE_len (q : List Nat) : (nvE q).length = q.length := by simp [nvE]
def OwnE (w : World) (B : Nat) (v : Value) (q : List Nat) : Prop := w.ownsRow B 3 1 v q.length (nvE q)
theorem OwnE.nil (w : World) (B : Nat) : OwnE w B (.slice none 0 0) [] := ⟨rfl, .inl ⟨rfl, rfl⟩⟩
theorem OwnE.shape {w : World} {B : Nat} {v : Value} {q : List Nat} (h : OwnE w B v q) : ∃ A cap, v = .slice A q.length cap ∧ q.length ≤ cap ∧ cap ≤ maxLen ∧ ∀ i, (hi : i < q.length) → ∃ g, A = some ⟨g, 0, none⟩ ∧ w.cell? ⟨g, i, none⟩ = some (.int .i64 (q[i] : Int)) := by
  rcases h.2 with ⟨h7, h8⟩ | ⟨g, cap, cur, hv, hb', hg', hc1, hc2, hc3, hc4⟩
  · exact ⟨none, 0, by rw [h7, h8], by omega, by unfold maxLen; omega, fun i hi => by omega⟩
  · refine ⟨_, cap, hv, hc1, hc2, fun i hi => ⟨g, rfl, ?_⟩⟩
    rw [Nat.mul_one] at hc4
    have : (nvE q)[i]? = some (.int .i64 (q[i] : Int)) := by simp [nvE, hi]
    rw [← hc4, List.getElem?_take_of_lt hi, Array.getElem?_toList] at this
    rw [cell_of_row w g i cur 3 (0, 0) hg']
    exact this
theorem OwnE.push {w : World} {B g cap : Nat} {q : List Nat} {x : Nat} (h : w.ownsRow B 3 1 (.slice (some ⟨g, 0, none⟩) (q.length + 1) cap) (q.length + 1) (nvE q ++ [.int .i64 (x : Int)])) : OwnE w B (.slice (some ⟨g, 0, none⟩) (q.length + 1) cap) (q ++ [x]) := by
  have e : nvE (q ++ [x]) = nvE q ++ [.int .i64 (x : Int)] := by simp [nvE]
  unfold OwnE
  rw [e, List.length_append]
  exact h

/-! Processes. -/
def PrcE (w : World) (P n : Nat) (nv : Nat → Value) (pr : Nat → Int) (tk : Nat → Nat) : Prop :=
  ∃ xs, Row w P 62 xs ∧ xs.length = n * 3 ∧ ∀ i, i < n → xs[i * 3]? = some (nv i) ∧ xs[i * 3 + 1]? = some (.int .i64 (pr i)) ∧ xs[i * 3 + 2]? = some (.int .i64 (tk i : Int))
section
variable {w w' : World} {P n : Nat} {nv nv' : Nat → Value} {pr pr' : Nat → Int} {tk tk' : Nat → Nat}
theorem PrcE.lt (h : PrcE w P n nv pr tk) : P < w.heap.size := by obtain ⟨_, h, _⟩ := h; exact h.lt
theorem PrcE.block (h : PrcE w P n nv pr tk) (hb : w'.heap[P]? = w.heap[P]?) : PrcE w' P n nv pr tk := by obtain ⟨xs, h1, h2⟩ := h; exact ⟨xs, h1.block hb, h2⟩
theorem PrcE.frozen (h : PrcE w P n nv pr tk) (i : Nat) : w.frozen? ⟨P, i, none⟩ = false := by obtain ⟨_, h1, _⟩ := h; exact h1.frozen i
theorem PrcE.cells (h : PrcE w P n nv pr tk) {i : Nat} (hi : i < n) : w.cell? ⟨P, i * 3, none⟩ = some (nv i) ∧ w.cell? ⟨P, i * 3 + 1, none⟩ = some (.int .i64 (pr i)) ∧ w.cell? ⟨P, i * 3 + 2, none⟩ = some (.int .i64 (tk i : Int)) := by
  obtain ⟨xs, h1, h2, h3⟩ := h
  obtain ⟨a, b, c⟩ := h3 i hi
  have key : ∀ k v, xs[k]? = some v → w.cell? ⟨P, k, none⟩ = some v := fun k v hk => by
    rw [cell_of_row w P k xs.toArray 62 (0, 0) h1]
    simpa using hk
  exact ⟨key _ _ a, key _ _ b, key _ _ c⟩
theorem PrcE.set (h : PrcE w P n nv pr tk) (k : Nat) (v : Value) (hk : k < n * 3)
    (hT : ∀ i, i < n → (if k = i * 3 then v else nv i) = nv' i ∧ (if k = i * 3 + 1 then v else .int .i64 (pr i)) = .int .i64 (pr' i) ∧ (if k = i * 3 + 2 then v else .int .i64 (tk i : Int)) = .int .i64 (tk' i : Int)) : PrcE (w.setCell ⟨P, k, none⟩ v) P n nv' pr' tk' := by
  obtain ⟨xs, h1, h2, h3⟩ := h
  refine ⟨_, h1.set k v, by rw [List.length_set]; exact h2, fun i hi => ?_⟩
  obtain ⟨a, b, c⟩ := h3 i hi
  obtain ⟨ta, tb, tc⟩ := hT i hi
  have key : ∀ m u u', xs[m]? = some u → (if k = m then v else u) = u' → (xs.set k v)[m]? = some u' := fun m u u' hm he => by
    by_cases e : k = m
    · subst e
      rw [if_pos rfl] at he
      rw [List.getElem?_set_self (by omega), he]
    · rw [if_neg e] at he
      rw [List.getElem?_set_ne e, hm, he]
  exact ⟨key _ _ _ a ta, key _ _ _ b tb, key _ _ _ c tc⟩
theorem PrcE.setNb (h : PrcE w P n nv pr tk) {i : Nat} (hi : i < n) (v : Value) : PrcE (w.setCell ⟨P, i * 3, none⟩ v) P n (vputV nv i v) pr tk := by
  refine h.set _ _ (by omega) fun a ha => ⟨?_, ?_, ?_⟩
  · by_cases e : a = i
    · subst e; rw [if_pos rfl]; simp [vputV]
    · rw [if_neg (by omega)]; simp [vputV, e]
  · rw [if_neg (by omega)]
  · rw [if_neg (by omega)]
theorem PrcE.setPar (h : PrcE w P n nv pr tk) {i : Nat} (hi : i < n) (v : Int) : PrcE (w.setCell ⟨P, i * 3 + 1, none⟩ (.int .i64 v)) P n nv (upZ pr i v) tk := by
  refine h.set _ _ (by omega) fun a ha => ⟨?_, ?_, ?_⟩
  · rw [if_neg (by omega)]
  · by_cases e : a = i
    · subst e; rw [if_pos rfl]; simp [upZ]
    · rw [if_neg (by omega)]; simp [upZ, e]
  · rw [if_neg (by omega)]
theorem PrcE.setTook (h : PrcE w P n nv pr tk) {i : Nat} (hi : i < n) (v : Nat) : PrcE (w.setCell ⟨P, i * 3 + 2, none⟩ (.int .i64 (v : Int))) P n nv pr (upN tk i v) := by
  refine h.set _ _ (by omega) fun a ha => ⟨?_, ?_, ?_⟩
  · rw [if_neg (by omega)]
  · rw [if_neg (by omega)]
  · by_cases e : a = i
    · subst e; rw [if_pos rfl]; simp [upN]
    · rw [if_neg (by omega)]; simp [upN, e]
end

structure NetAt (w : World) (B N P n s : Nat) (nv : Nat → Value) (nb : Nat → List Nat) (tv : Value) (S : ES) : Prop where
  top : Row w N 51 [.slice (some ⟨P, 0, none⟩) n n, .int .i64 (s : Int), tv, .int .i64 (S.sent : Int)]
  prc : PrcE w P n nv S.par S.took
  nbr : ∀ i, i < n → OwnE w B (nv i) (nb i)
  apart : ∀ i j, i < n → j < n → i ≠ j → (nv i).ownBlock = none ∨ (nv i).ownBlock ≠ (nv j).ownBlock
  tra : OwnM w B tv S.way
  lowN : B ≤ N
  lowP : B ≤ P
def Net (w : World) (B N P n s : Nat) (nv : Nat → Value) (nb : Nat → List Nat) (S : ES) : Prop := ∃ tv, NetAt w B N P n s nv nb tv S
section
variable {w w' w1 w2 : World} {B N P n s : Nat} {nv : Nat → Value} {nb : Nat → List Nat} {tv : Value} {S T : ES}
theorem NetAt.cells (h : NetAt w B N P n s nv nb tv S) : w.cell? ⟨N, 0, none⟩ = some (.slice (some ⟨P, 0, none⟩) n n) ∧ w.cell? ⟨N, 1, none⟩ = some (.int .i64 (s : Int)) ∧ w.cell? ⟨N, 2, none⟩ = some tv ∧ w.cell? ⟨N, 3, none⟩ = some (.int .i64 (S.sent : Int)) :=
  ⟨h.top.cell (by simp), h.top.cell (i := 1) (by simp), h.top.cell (i := 2) (by simp), h.top.cell (i := 3) (by simp)⟩
theorem NetAt.sz (h : NetAt w B N P n s nv nb tv S) : B ≤ w.heap.size := Nat.le_of_lt (Nat.lt_of_le_of_lt h.lowN h.top.lt)
theorem NetAt.blocks (h : NetAt w B N P n s nv nb tv S) (hb : ∀ g, B ≤ g → g < w.heap.size → w'.heap[g]? = w.heap[g]?) : NetAt w' B N P n s nv nb tv S :=
  ⟨h.top.block (hb N h.lowN h.top.lt), h.prc.block (hb P h.lowP h.prc.lt), fun i hi => owns_blk (h.nbr i hi) fun g e => hb g (World.ownsRow.lt (h.nbr i hi) g e).1 (World.ownsRow.lt (h.nbr i hi) g e).2, h.apart, owns_blk h.tra fun g e => hb g (World.ownsRow.lt h.tra g e).1 (World.ownsRow.lt h.tra g e).2, h.lowN, h.lowP⟩
theorem NetAt.alloc (h : NetAt w B N P n s nv nb tv S) (o : Obj) : NetAt (w.alloc o) B N P n s nv nb tv S := h.blocks fun g _ hg => Below.heap_alloc w o g hg
theorem NetAt.below (h : NetAt w B N P n s nv nb tv S) (hb : Below w.heap.size w w') : NetAt w' B N P n s nv nb tv S := h.blocks fun g _ hg => hb.block g hg
theorem Net.alloc (h : Net w B N P n s nv nb S) (o : Obj) : Net (w.alloc o) B N P n s nv nb S := by obtain ⟨tv, h⟩ := h; exact ⟨tv, h.alloc o⟩
theorem Net.below (h : Net w B N P n s nv nb S) (hb : Below w.heap.size w w') : Net w' B N P n s nv nb S := by obtain ⟨tv, h⟩ := h; exact ⟨tv, h.below hb⟩
/-- A store into the processes. -/
theorem NetAt.setP (h : NetAt w B N P n s nv nb tv S) (k : Nat) (v : Value) (hp : PrcE (w.setCell ⟨P, k, none⟩ v) P n nv T.par T.took) (hw : T.way = S.way) (hs : T.sent = S.sent) : NetAt (w.setCell ⟨P, k, none⟩ v) B N P n s nv nb tv T := by
  obtain ⟨xs, hP, _⟩ := h.prc
  have hNP : N ≠ P := row_ne h.top hP (by decide)
  have hblk : ∀ g, g ≠ P → (w.setCell ⟨P, k, none⟩ v).heap[g]? = w.heap[g]? := fun g hg => Below.heap_setCell w ⟨P, k, none⟩ v g hg
  refine ⟨by rw [hs]; exact h.top.far hNP v, hp, fun i hi => owns_blk (h.nbr i hi) fun g e => hblk g fun e' => owns_ne_row (h.nbr i hi) hP (by decide) (e' ▸ e), h.apart, by rw [hw]; exact owns_blk h.tra fun g e => hblk g fun e' => owns_ne_row h.tra hP (by decide) (e' ▸ e), h.lowN, h.lowP⟩
theorem NetAt.setPar (h : NetAt w B N P n s nv nb tv S) {i : Nat} (hi : i < n) (v : Int) : NetAt (w.setCell ⟨P, i * 3 + 1, none⟩ (.int .i64 v)) B N P n s nv nb tv ⟨S.took, upZ S.par i v, S.way, S.sent⟩ := h.setP _ _ (h.prc.setPar hi v) rfl rfl
theorem NetAt.setTook (h : NetAt w B N P n s nv nb tv S) {i : Nat} (hi : i < n) (v : Nat) : NetAt (w.setCell ⟨P, i * 3 + 2, none⟩ (.int .i64 (v : Int))) B N P n s nv nb tv ⟨upN S.took i v, S.par, S.way, S.sent⟩ := h.setP _ _ (h.prc.setTook hi v) rfl rfl
/-- Another list of messages in its place. -/
theorem NetAt.setT (h : NetAt w B N P n s nv nb tv S) {tv' : Value} {way : List (Nat × Nat)} (hown : OwnM w1 B tv' way) (hg : w.grownBy w1 tv.ownBlock) : NetAt (w1.setCell ⟨N, 2, none⟩ tv') B N P n s nv nb tv' ⟨S.took, S.par, way, S.sent⟩ := by
  obtain ⟨xs, hP, _⟩ := h.prc
  have hblk : ∀ g, g < w.heap.size → tv.ownBlock ≠ some g → w1.heap[g]? = w.heap[g]? := fun g hg' hne => hg.block g hg' fun e => hne e.symm
  have hN1 : Row w1 N 51 [.slice (some ⟨P, 0, none⟩) n n, .int .i64 (s : Int), tv, .int .i64 (S.sent : Int)] := h.top.block (hblk N h.top.lt (owns_ne_row h.tra h.top (by decide)))
  have hP1 := h.prc.block (hblk P h.prc.lt (owns_ne_row h.tra hP (by decide)))
  have hn1 : ∀ i, i < n → OwnE w1 B (nv i) (nb i) := fun i hi => owns_blk (h.nbr i hi) fun g e => hblk g (World.ownsRow.lt (h.nbr i hi) g e).2 (owns_ne_owns (h.nbr i hi) h.tra (by decide) e)
  have hset : ∀ g, g ≠ N → (w1.setCell ⟨N, 2, none⟩ tv').heap[g]? = w1.heap[g]? := fun g hg => Below.heap_setCell w1 ⟨N, 2, none⟩ tv' g hg
  have hNP : N ≠ P := row_ne h.top hP (by decide)
  exact ⟨hN1.set 2 tv', hP1.block (hset P (fun e => hNP e.symm)), fun i hi => owns_blk (hn1 i hi) fun g e => hset g fun e' => owns_ne_row (hn1 i hi) hN1 (by decide) (e' ▸ e), h.apart, owns_blk hown fun g e => hset g fun e' => owns_ne_row hown hN1 (by decide) (e' ▸ e), h.lowN, h.lowP⟩
theorem NetAt.setSent (h : NetAt w B N P n s nv nb tv S) (m : Nat) : NetAt (w.setCell ⟨N, 3, none⟩ (.int .i64 (m : Int))) B N P n s nv nb tv ⟨S.took, S.par, S.way, m⟩ := by
  obtain ⟨xs, hP, _⟩ := h.prc
  have hset : ∀ g, g ≠ N → (w.setCell ⟨N, 3, none⟩ (.int .i64 (m : Int))).heap[g]? = w.heap[g]? := fun g hg => Below.heap_setCell w ⟨N, 3, none⟩ _ g hg
  have hNP : N ≠ P := row_ne h.top hP (by decide)
  exact ⟨h.top.set 3 _, h.prc.block (hset P (fun e => hNP e.symm)), fun i hi => owns_blk (h.nbr i hi) fun g e => hset g fun e' => owns_ne_row (h.nbr i hi) h.top (by decide) (e' ▸ e), h.apart, owns_blk h.tra fun g e => hset g fun e' => owns_ne_row h.tra h.top (by decide) (e' ▸ e), h.lowN, h.lowP⟩
def upL (f : Nat → List Nat) (i : Nat) (q : List Nat) : Nat → List Nat := fun x => if x = i then q else f x
/-- Other neighbors of one process. -/
theorem NetAt.turn (h : NetAt w B N P n s nv nb tv S) {i : Nat} (hi : i < n) {v' : Value} {q : List Nat} (hown : OwnE w1 B v' q) (hg : w.grownBy w1 (nv i).ownBlock) (hat : v'.ownBlock = (nv i).ownBlock ∨ ∃ g, v'.ownBlock = some g ∧ w.heap.size ≤ g)
    (hblk : ∀ g, g ≠ P → w2.heap[g]? = w1.heap[g]?) (hprc : PrcE w2 P n (vputV nv i v') S.par S.took) : NetAt w2 B N P n s (vputV nv i v') (upL nb i q) tv S := by
  obtain ⟨xs, hP, _⟩ := h.prc
  have hb1 : ∀ g, g < w.heap.size → (nv i).ownBlock ≠ some g → w1.heap[g]? = w.heap[g]? := fun g hg' hne => hg.block g hg' fun e => hne e.symm
  have hb2 : ∀ g, g < w.heap.size → (nv i).ownBlock ≠ some g → g ≠ P → w2.heap[g]? = w.heap[g]? := fun g h1 h2 h3 => (hblk g h3).trans (hb1 g h1 h2)
  have hNP : N ≠ P := row_ne h.top hP (by decide)
  have hP1 : Row w1 P 62 xs := hP.block (hb1 P hP.lt (owns_ne_row (h.nbr i hi) hP (by decide)))
  refine ⟨h.top.block (hb2 N h.top.lt (owns_ne_row (h.nbr i hi) h.top (by decide)) hNP), hprc, fun j hj => ?_, fun a b ha hb hab => ?_, owns_blk h.tra fun g e => hb2 g (World.ownsRow.lt h.tra g e).2 (owns_ne_owns h.tra (h.nbr i hi) (by decide) e) (fun e' => owns_ne_row h.tra hP (by decide) (e' ▸ e)), h.lowN, h.lowP⟩
  · by_cases e : j = i
    · subst e
      simp only [vputV, upL, if_pos]
      exact owns_blk hown fun g e => hblk g fun e' => owns_ne_row hown hP1 (by decide) (e' ▸ e)
    · simp only [vputV, upL, if_neg e]
      refine owns_blk (h.nbr j hj) fun g eg => hb2 g (World.ownsRow.lt (h.nbr j hj) g eg).2 (fun e' => ?_) (fun e' => owns_ne_row (h.nbr j hj) hP (by decide) (e' ▸ eg))
      rcases h.apart j i hj hi e with h1 | h1
      · rw [h1] at eg; cases eg
      · exact h1 (eg.trans e'.symm)
  · have hoth : ∀ x, x < n → x ≠ i → (nv x).ownBlock = none ∨ (nv x).ownBlock ≠ v'.ownBlock := fun x hx hne => by
      rcases hat with h1 | ⟨g, h1, h2⟩
      · rw [h1]; exact h.apart x i hx hi hne
      · right
        intro e
        rw [h1] at e
        have := (World.ownsRow.lt (h.nbr x hx) g e).2
        omega
    by_cases e1 : a = i
    · by_cases e2 : b = i
      · omega
      · simp only [vputV, if_pos e1, if_neg e2]
        rcases hoth b hb e2 with h1 | h1
        · cases hv : v'.ownBlock with
          | none => exact .inl rfl
          | some g => right; rw [h1]; simp
        · exact .inr fun e => h1 e.symm
    · by_cases e2 : b = i
      · simp only [vputV, if_neg e1, if_pos e2]; exact hoth a ha e1
      · simp only [vputV, if_neg e1, if_neg e2]; exact h.apart a b ha hb hab
end

/-- Kept by the sending of messages. -/
structure KM (B : Nat) (w w' : World) : Prop where
  low : Below B w w'
  oth : ∀ g t xs, t ≠ 51 → t ≠ 65 → Row w g t xs → Row w' g t xs
/-- Kept by a receipt. -/
structure BE (B : Nat) (w w' : World) : Prop where
  low : Below B w w'
  err : ∀ g xs, Row w g 27 xs → Row w' g 27 xs
section
variable {w w' w2 : World} {B : Nat}
theorem KM.refl (B : Nat) (w : World) : KM B w w := ⟨Below.refl B w, fun _ _ _ _ _ h => h⟩
theorem KM.trans (h : KM B w w') (k : KM B w' w2) : KM B w w2 := ⟨h.low.trans k.low, fun g t xs h1 h2 hg => k.oth g t xs h1 h2 (h.oth g t xs h1 h2 hg)⟩
theorem KM.alloc (h : KM B w w') (hs : B ≤ w'.heap.size) (o : Obj) : KM B w (w'.alloc o) := ⟨h.low.alloc hs o, fun g t xs h1 h2 hg => (h.oth g t xs h1 h2 hg).alloc o⟩
theorem KM.setN (h : KM B w w') {N k : Nat} {ys : List Value} (hr : Row w' N 51 ys) (hp : B ≤ N) (u : Value) : KM B w (w'.setCell ⟨N, k, none⟩ u) :=
  ⟨h.low.setCell (p := ⟨N, k, none⟩) hp u, fun g t xs h1 h2 hg => (h.oth g t xs h1 h2 hg).far (p := ⟨N, k, none⟩) (row_ne (h.oth g t xs h1 h2 hg) hr h1) u⟩
theorem KM.grownM (h : KM B w w') {v : Value} {l : List (Nat × Nat)} (hg : w'.grownBy w2 v.ownBlock) (hM : OwnM w' B v l) (hs : B ≤ w'.heap.size) : KM B w w2 :=
  ⟨h.low.grown hg hs (fun b hb => (World.ownsRow.lt hM b hb).1), fun g t xs h1 h2 hr => (h.oth g t xs h1 h2 hr).grown hg (fun e => owns_ne_row hM (h.oth g t xs h1 h2 hr) (fun e' => h2 e'.symm) e.symm)⟩
theorem KM.be (h : KM B w w') : BE B w w' := ⟨h.low, fun g xs hg => h.oth g _ xs (by decide) (by decide) hg⟩
theorem BE.refl (B : Nat) (w : World) : BE B w w := ⟨Below.refl B w, fun _ _ h => h⟩
theorem BE.trans (h : BE B w w') (k : BE B w' w2) : BE B w w2 := ⟨h.low.trans k.low, fun g xs hg => k.err g xs (h.err g xs hg)⟩
theorem BE.alloc (h : BE B w w') (hs : B ≤ w'.heap.size) (o : Obj) : BE B w (w'.alloc o) := ⟨h.low.alloc hs o, fun g xs hg => (h.err g xs hg).alloc o⟩
theorem BE.setRow (h : BE B w w') {p : Addr} {t : TypeId} {ys : List Value} (hr : Row w' p.block t ys) (ht : 27 ≠ t) (hp : B ≤ p.block) (u : Value) : BE B w (w'.setCell p u) :=
  ⟨h.low.setCell hp u, fun g xs hg => (h.err g xs hg).far (row_ne (h.err g xs hg) hr ht) u⟩
theorem BE.grownM (h : BE B w w') {v : Value} {l : List (Nat × Nat)} (hg : w'.grownBy w2 v.ownBlock) (hM : OwnM w' B v l) (hs : B ≤ w'.heap.size) : BE B w w2 :=
  ⟨h.low.grown hg hs (fun b hb => (World.ownsRow.lt hM b hb).1), fun g xs hr => (h.err g xs hr).grown hg (fun e => owns_ne_row hM (h.err g xs hr) (by decide) e.symm)⟩
end
#print axioms NetAt.turn
end Go.Proofs.Ytjmkmfeibempjaa
