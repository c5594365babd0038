/-
  Words for memory: the system of package quiet.
-/
import Derived.Test.YtichcahlokjblaaDks
import Derived.Test.YtichcahlokjblaaMpc
namespace Go.Proofs.Ytichcahlokjblaa
open Go.RowKit Go.Maps

theorem row_ne {w : World} {a b : Nat} {t t' : TypeId} {xs ys : List Value} (h : Row w a t xs) (h' : Row w b t' ys) (hne : t ≠ t') : a ≠ b := by
  intro e
  subst e
  unfold Row at h h'
  rw [h] at h'
  injection h' with h'
  injection h' with _ h'
  exact hne h'

/-- Block P holds what the processes have. -/
def PrcQ (w : World) (P n : Nat) (act eng : Nat → Bool) (par : Nat → Nat) (ex : Nat → Int) : Prop :=
  ∃ xs, Row w P 56 xs ∧ xs.length = n * 4 ∧ ∀ i, i < n → xs[i * 4]? = some (.bool (act i)) ∧ xs[i * 4 + 1]? = some (.bool (eng i)) ∧ xs[i * 4 + 2]? = some (.int .i64 (par i : Int)) ∧ xs[i * 4 + 3]? = some (.int .i64 (ex i))
section
variable {w w' : World} {P n : Nat} {act eng act' eng' : Nat → Bool} {par par' : Nat → Nat} {ex ex' : Nat → Int}
theorem PrcQ.lt (h : PrcQ w P n act eng par ex) : P < w.heap.size := by obtain ⟨_, h, _⟩ := h; exact h.lt
theorem PrcQ.block (h : PrcQ w P n act eng par ex) (hb : w'.heap[P]? = w.heap[P]?) : PrcQ w' P n act eng par ex := by obtain ⟨xs, h1, h2⟩ := h; exact ⟨xs, h1.block hb, h2⟩
theorem PrcQ.frozen (h : PrcQ w P n act eng par ex) (i : Nat) : w.frozen? ⟨P, i, none⟩ = false := by obtain ⟨_, h1, _⟩ := h; exact h1.frozen i
theorem PrcQ.cells (h : PrcQ w P n act eng par ex) {i : Nat} (hi : i < n) : w.cell? ⟨P, i * 4, none⟩ = some (.bool (act i)) ∧ w.cell? ⟨P, i * 4 + 1, none⟩ = some (.bool (eng i)) ∧ w.cell? ⟨P, i * 4 + 2, none⟩ = some (.int .i64 (par i : Int)) ∧ w.cell? ⟨P, i * 4 + 3, none⟩ = some (.int .i64 (ex i)) := by
  obtain ⟨xs, h1, h2, h3⟩ := h
  obtain ⟨a, b, c, d⟩ := h3 i hi
  have key : ∀ k v, xs[k]? = some v → w.cell? ⟨P, k, none⟩ = some v := fun k v hk => by
    rw [cell_of_row w P k xs.toArray 56 (0, 0) h1]
    simpa using hk
  exact ⟨key _ _ a, key _ _ b, key _ _ c, key _ _ d⟩
theorem PrcQ.congr (h : PrcQ w P n act eng par ex) (e1 : ∀ i, i < n → act' i = act i) (e2 : ∀ i, i < n → eng' i = eng i) (e3 : ∀ i, i < n → par' i = par i) (e4 : ∀ i, i < n → ex' i = ex i) : PrcQ w P n act' eng' par' ex' := by
  obtain ⟨xs, h1, h2, h3⟩ := h
  exact ⟨xs, h1, h2, fun i hi => by rw [e1 i hi, e2 i hi, e3 i hi, e4 i hi]; exact h3 i hi⟩
theorem PrcQ.set (h : PrcQ w P n act eng par ex) (k : Nat) (v : Value) (hk : k < n * 4)
    (hT : ∀ i, i < n → (if k = i * 4 then v else .bool (act i)) = .bool (act' i) ∧ (if k = i * 4 + 1 then v else .bool (eng i)) = .bool (eng' i) ∧ (if k = i * 4 + 2 then v else .int .i64 (par i : Int)) = .int .i64 (par' i : Int) ∧ (if k = i * 4 + 3 then v else .int .i64 (ex i)) = .int .i64 (ex' i)) : PrcQ (w.setCell ⟨P, k, none⟩ v) P n act' eng' par' ex' := by
  obtain ⟨xs, h1, h2, h3⟩ := h
  refine ⟨_, h1.set k v, by rw [List.length_set]; exact h2, fun i hi => ?_⟩
  obtain ⟨a, b, c, d⟩ := h3 i hi
  obtain ⟨ta, tb, tc, td⟩ := hT i hi
  have key : ∀ m u u', xs[m]? = some u → (if k = m then v else u) = u' → (xs.set k v)[m]? = some u' := fun m u u' hm he => by
    by_cases e : k = m
    · subst e
      rw [if_pos rfl] at he
      rw [List.getElem?_set_self (by omega), he]
    · rw [if_neg e] at he
      rw [List.getElem?_set_ne e, hm, he]
  exact ⟨key _ _ _ a ta, key _ _ _ b tb, key _ _ _ c tc, key _ _ _ d td⟩
theorem PrcQ.setAct (h : PrcQ w P n act eng par ex) {i : Nat} (hi : i < n) (v : Bool) : PrcQ (w.setCell ⟨P, i * 4, none⟩ (.bool v)) P n (up1 act i v) eng par ex := by
  refine h.set _ _ (by omega) fun a ha => ⟨?_, ?_, ?_, ?_⟩
  · by_cases e : a = i
    · subst e; rw [if_pos rfl]; simp [up1]
    · rw [if_neg (by omega)]; simp [up1, e]
  · rw [if_neg (by omega)]
  · rw [if_neg (by omega)]
  · rw [if_neg (by omega)]
theorem PrcQ.setEng (h : PrcQ w P n act eng par ex) {i : Nat} (hi : i < n) (v : Bool) : PrcQ (w.setCell ⟨P, i * 4 + 1, none⟩ (.bool v)) P n act (up1 eng i v) par ex := by
  refine h.set _ _ (by omega) fun a ha => ⟨?_, ?_, ?_, ?_⟩
  · rw [if_neg (by omega)]
  · by_cases e : a = i
    · subst e; rw [if_pos rfl]; simp [up1]
    · rw [if_neg (by omega)]; simp [up1, e]
  · rw [if_neg (by omega)]
  · rw [if_neg (by omega)]
theorem PrcQ.setPar (h : PrcQ w P n act eng par ex) {i : Nat} (hi : i < n) (v : Nat) : PrcQ (w.setCell ⟨P, i * 4 + 2, none⟩ (.int .i64 (v : Int))) P n act eng (up1 par i v) ex := by
  refine h.set _ _ (by omega) fun a ha => ⟨?_, ?_, ?_, ?_⟩
  · rw [if_neg (by omega)]
  · rw [if_neg (by omega)]
  · by_cases e : a = i
    · subst e; rw [if_pos rfl]; simp [up1]
    · rw [if_neg (by omega)]; simp [up1, e]
  · rw [if_neg (by omega)]
theorem PrcQ.setEx (h : PrcQ w P n act eng par ex) {i : Nat} (hi : i < n) (v : Int) : PrcQ (w.setCell ⟨P, i * 4 + 3, none⟩ (.int .i64 v)) P n act eng par (up1 ex i v) := by
  refine h.set _ _ (by omega) fun a ha => ⟨?_, ?_, ?_, ?_⟩
  · rw [if_neg (by omega)]
  · rw [if_neg (by omega)]
  · rw [if_neg (by omega)]
  · by_cases e : a = i
    · subst e; rw [if_pos rfl]; simp [up1]
    · rw [if_neg (by omega)]; simp [up1, e]
end

/-- The map holds what is on each way. -/
def TrC (w : World) (M c n : Nat) (tr : Nat → Nat → Nat) : Prop := ∃ f, MapC w M c f ∧ (∀ i j, i < n → j < n → (f i j).getD 0 = (tr i j : Int)) ∧ ∀ i j v, f i j = some v → i < n ∧ j < n
structure SysQ (w : World) (B s P M n c : Nat) (S : QS) (ex : Nat → Int) : Prop where
  sys : Row w s 54 [.slice (some ⟨P, 0, none⟩) n n, .map (some M)]
  prs : PrcQ w P n S.act S.eng S.par ex
  map : TrC w M c n S.tr
  lowS : B ≤ s
  lowP : B ≤ P
  lowM : B ≤ M
/-- Nothing has turned but the blocks P and M; nothing below B. -/
structure KQ (B P M : Nat) (w w' : World) : Prop where
  low : Below B w w'
  blk : ∀ b, b < w.heap.size → b ≠ P → b ≠ M → w'.heap[b]? = w.heap[b]?
section
variable {w w' w2 : World} {B s P M n c : Nat} {S T : QS} {ex ex' : Nat → Int}
theorem TrC.lt {tr : Nat → Nat → Nat} (h : TrC w M c n tr) : M < w.heap.size := by obtain ⟨_, h, _⟩ := h; exact h.lt
theorem TrC.block {tr : Nat → Nat → Nat} (h : TrC w M c n tr) (hb : w'.heap[M]? = w.heap[M]?) : TrC w' M c n tr := by obtain ⟨f, h, h2⟩ := h; exact ⟨f, h.block hb, h2⟩
theorem TrC.ne_row {tr : Nat → Nat → Nat} {g : Nat} {t : TypeId} {ys : List Value} (h : TrC w M c n tr) (hg : Row w g t ys) : M ≠ g := by obtain ⟨_, h, _⟩ := h; exact h.ne_row hg
theorem TrC.mono {tr : Nat → Nat → Nat} (h : TrC w M c n tr) {c' : Nat} (hc : c ≤ c') : TrC w M c' n tr := by obtain ⟨f, h, h2⟩ := h; exact ⟨f, h.mono hc, h2⟩
theorem TrC.congr {tr tr' : Nat → Nat → Nat} (h : TrC w M c n tr) (e : ∀ i j, i < n → j < n → tr' i j = tr i j) : TrC w M c n tr' := by
  obtain ⟨f, h, h2, h3⟩ := h
  exact ⟨f, h, fun i j hi hj => by rw [e i j hi hj]; exact h2 i j hi hj, h3⟩
theorem TrC.put {f : Nat → Nat → Option Int} {tr : Nat → Nat → Nat} {c' : Nat} {i j v : Nat} (h2 : ∀ i j, i < n → j < n → (f i j).getD 0 = (tr i j : Int)) (h3 : ∀ i j v, f i j = some v → i < n ∧ j < n) (hi : i < n) (hj : j < n) (h : MapC w' M c' (putC f i j (v : Int))) : TrC w' M c' n (up2 tr i j v) := by
  refine ⟨_, h, fun a b ha hb => ?_, fun a b u hu => ?_⟩
  · by_cases e : a = i ∧ b = j
    · rw [e.1, e.2, putC_same, up2_same]; rfl
    · rw [putC_other _ _ e, up2_other _ _ e]; exact h2 a b ha hb
  · by_cases e : a = i ∧ b = j
    · rw [e.1, e.2]; exact ⟨hi, hj⟩
    · rw [putC_other _ _ e] at hu; exact h3 a b u hu
theorem SysQ.cells (h : SysQ w B s P M n c S ex) : w.cell? ⟨s, 0, none⟩ = some (.slice (some ⟨P, 0, none⟩) n n) ∧ w.cell? ⟨s, 1, none⟩ = some (.map (some M)) := ⟨h.sys.cell (by simp), h.sys.cell (i := 1) (by simp)⟩
theorem SysQ.apart (h : SysQ w B s P M n c S ex) : s ≠ P ∧ M ≠ s ∧ M ≠ P := by
  obtain ⟨xs, hP, _⟩ := h.prs
  exact ⟨row_ne h.sys hP (by decide), h.map.ne_row h.sys, h.map.ne_row hP⟩
theorem SysQ.sz (h : SysQ w B s P M n c S ex) : B ≤ w.heap.size := Nat.le_of_lt (Nat.lt_of_le_of_lt h.lowP h.prs.lt)
theorem SysQ.blocks (h : SysQ w B s P M n c S ex) (hb : ∀ g, B ≤ g → g < w.heap.size → w'.heap[g]? = w.heap[g]?) : SysQ w' B s P M n c S ex :=
  ⟨h.sys.block (hb s h.lowS h.sys.lt), h.prs.block (hb P h.lowP h.prs.lt), h.map.block (hb M h.lowM h.map.lt), h.lowS, h.lowP, h.lowM⟩
theorem SysQ.alloc (h : SysQ w B s P M n c S ex) (o : Obj) : SysQ (w.alloc o) B s P M n c S ex := h.blocks fun g _ hg => Below.heap_alloc w o g hg
theorem SysQ.below (h : SysQ w B s P M n c S ex) (hb : Below w.heap.size w w') : SysQ w' B s P M n c S ex := h.blocks fun g _ hg => hb.block g hg
theorem SysQ.drewN (h : SysQ w B s P M n c S ex) (k : Nat) : SysQ (w.drewN k) B s P M n c S ex := h.blocks fun _ _ _ => rfl
theorem SysQ.drew (h : SysQ w B s P M n c S ex) : SysQ w.drew B s P M n c S ex := h.blocks fun _ _ _ => rfl
theorem SysQ.mono (h : SysQ w B s P M n c S ex) {c' : Nat} (hc : c ≤ c') : SysQ w B s P M n c' S ex := ⟨h.sys, h.prs, h.map.mono hc, h.lowS, h.lowP, h.lowM⟩
theorem SysQ.congr (h : SysQ w B s P M n c S ex) (e : ∀ i, i < n → ex' i = ex i) : SysQ w B s P M n c S ex' := ⟨h.sys, h.prs.congr (fun _ _ => rfl) (fun _ _ => rfl) (fun _ _ => rfl) e, h.map, h.lowS, h.lowP, h.lowM⟩
theorem SysQ.row (h : SysQ w B s P M n c S ex) {g : Nat} {t : TypeId} {ys : List Value} (hr : Row w g t ys) (h1 : t ≠ 54) (h2 : t ≠ 56) (k : Nat) (v : Value) : SysQ (w.setCell ⟨g, k, none⟩ v) B s P M n c S ex := by
  obtain ⟨xs, hP, hP2⟩ := h.prs
  exact ⟨h.sys.far (p := ⟨g, k, none⟩) (row_ne h.sys hr (fun e => h1 e.symm)) v, ⟨xs, hP.far (p := ⟨g, k, none⟩) (row_ne hP hr (fun e => h2 e.symm)) v, hP2⟩, h.map.block (Below.heap_setCell w ⟨g, k, none⟩ v M (h.map.ne_row hr)), h.lowS, h.lowP, h.lowM⟩
theorem KQ.refl (B P M : Nat) (w : World) : KQ B P M w w := ⟨Below.refl _ _, fun _ _ _ _ => rfl⟩
theorem KQ.trans (h : KQ B P M w w') (k : KQ B P M w' w2) : KQ B P M w w2 := ⟨h.low.trans k.low, fun x hx h1 h2 => (k.blk x (by have := h.low.size; omega) h1 h2).trans (h.blk x hx h1 h2)⟩
theorem KQ.below (hs : B ≤ w.heap.size) (hb : Below w.heap.size w w') : KQ B P M w w' := ⟨hb.mono hs, fun b h _ _ => hb.block b h⟩
theorem KQ.alloc (h : KQ B P M w w') (hs : B ≤ w'.heap.size) (o : Obj) : KQ B P M w (w'.alloc o) := ⟨h.low.alloc hs o, fun b hb h1 h2 => (Below.heap_alloc w' o b (by have := h.low.size; omega)).trans (h.blk b hb h1 h2)⟩
theorem KQ.drewN (h : KQ B P M w w') (k : Nat) : KQ B P M w (w'.drewN k) := ⟨below_drewN h.low k, fun b hb h1 h2 => h.blk b hb h1 h2⟩
theorem KQ.drew (h : KQ B P M w w') : KQ B P M w w'.drew := ⟨h.low.drew, fun b hb h1 h2 => h.blk b hb h1 h2⟩
theorem KQ.setP (h : KQ B P M w w') (hP : B ≤ P) (k : Nat) (v : Value) : KQ B P M w (w'.setCell ⟨P, k, none⟩ v) :=
  ⟨h.low.setCell (p := ⟨P, k, none⟩) hP v, fun b hb h1 h2 => (Below.heap_setCell w' ⟨P, k, none⟩ v b h1).trans (h.blk b hb h1 h2)⟩
theorem KQ.grown (h : KQ B P M w w') (hM : B ≤ M) (hs : B ≤ w'.heap.size) (hg : w'.grownBy w2 (some M)) : KQ B P M w w2 :=
  ⟨h.low.grown hg hs (fun b hb => by injection hb with hb; rw [← hb]; exact hM), fun b hb h1 h2 => (hg.block b (by have := h.low.size; omega) (by simp; exact h2)).trans (h.blk b hb h1 h2)⟩
theorem KQ.row (h : KQ B P M w w') {g : Nat} {t : TypeId} {ys : List Value} (hr : Row w g t ys) (h1 : g ≠ P) (h2 : g ≠ M) : Row w' g t ys := hr.block (h.blk g hr.lt h1 h2)
/-- A store into the processes. -/
theorem SysQ.setP (h : SysQ w B s P M n c S ex) (k : Nat) (v : Value) (hp : PrcQ (w.setCell ⟨P, k, none⟩ v) P n T.act T.eng T.par ex') (ht : T.tr = S.tr) : SysQ (w.setCell ⟨P, k, none⟩ v) B s P M n c T ex' := by
  obtain ⟨h1, h2, h3⟩ := h.apart
  exact ⟨h.sys.far (p := ⟨P, k, none⟩) h1 v, hp, by rw [ht]; exact h.map.block (Below.heap_setCell w ⟨P, k, none⟩ v M h3), h.lowS, h.lowP, h.lowM⟩
theorem SysQ.setAct (h : SysQ w B s P M n c S ex) {i : Nat} (hi : i < n) (v : Bool) : SysQ (w.setCell ⟨P, i * 4, none⟩ (.bool v)) B s P M n c { S with act := up1 S.act i v } ex := h.setP _ _ (h.prs.setAct hi v) rfl
theorem SysQ.setEng (h : SysQ w B s P M n c S ex) {i : Nat} (hi : i < n) (v : Bool) : SysQ (w.setCell ⟨P, i * 4 + 1, none⟩ (.bool v)) B s P M n c { S with eng := up1 S.eng i v } ex := h.setP _ _ (h.prs.setEng hi v) rfl
theorem SysQ.setPar (h : SysQ w B s P M n c S ex) {i : Nat} (hi : i < n) (v : Nat) : SysQ (w.setCell ⟨P, i * 4 + 2, none⟩ (.int .i64 (v : Int))) B s P M n c { S with par := up1 S.par i v } ex := h.setP _ _ (h.prs.setPar hi v) rfl
theorem SysQ.setEx (h : SysQ w B s P M n c S ex) {i : Nat} (hi : i < n) (v : Int) : SysQ (w.setCell ⟨P, i * 4 + 3, none⟩ (.int .i64 v)) B s P M n c S (up1 ex i v) := h.setP _ _ (h.prs.setEx hi v) rfl
/-- What is on a way turns: all that the walk of 'm[k]++' or 'm[k]--' asks for. -/
theorem SysQ.bump (h : SysQ w B s P M n c S ex) (hn : n ≤ 6) (hc : c ≤ 100) {i j : Nat} (hi : i < n) (hj : j < n) (v : Nat) :
    ∃ (v0 : Value) (st : Int) (w1 w2 : World), (Instr.mapEntry 52 (.map (some M)) (chv i j)).run Try.prog w = .ok (.tuple #[v0, .int .i64 st]) w1 ∧
      (Instr.lookup 52 (.map (some M)) (chv i j) false).run Try.prog w = .ok (.int .i64 (S.tr i j : Int)) w ∧
      (Instr.lookup 52 (.map (some M)) (chv i j) false).run Try.prog w1 = .ok (.int .i64 (S.tr i j : Int)) w1 ∧
      w.grownBy w1 (some M) ∧
      (Instr.entryStore 52 (.map (some M)) (.int .i64 st) (.int .i64 (v : Int))).run Try.prog w1 = .ok () w2 ∧
      SysQ w2 B s P M n (c + 1) { S with tr := up2 S.tr i j v } ex ∧ w.grownBy w2 (some M) := by
  obtain ⟨h1, h2, h3⟩ := h.apart
  have hgr : ∀ {g : Nat} {t : TypeId} {ys : List Value} {w2 : World}, Row w g t ys → w.grownBy w2 (some M) → Row w2 g t ys := fun hr hg => hr.grown hg (by simp; exact fun e => h.map.ne_row hr e.symm)
  obtain ⟨f, hM, f2, f3⟩ := h.map
  have hlook := hM.look (i := i) (j := j) (by omega) (by omega)
  obtain ⟨v0, st, w1, w2, e1, e2, g1, e3, hC, g2⟩ := hM.entry (by unfold maxLen; omega) (i := i) (j := j) (by omega) (by omega) (v : Int)
  rw [f2 i j hi hj] at hlook e2
  obtain ⟨xs, hP, hP2⟩ := h.prs
  exact ⟨v0, st, w1, w2, e1, hlook, e2, g1, e3, ⟨hgr h.sys g2, ⟨xs, hgr hP g2, hP2⟩, TrC.put f2 f3 hi hj hC, h.lowS, h.lowP, h.lowM⟩, g2⟩
end

#print axioms SysQ.bump
end Go.Proofs.Ytichcahlokjblaa
