/-
  Words for memory: the system of package token.
-/
import Derived.Test.YtejckoffllhjcaaTos
import Derived.Test.YtejckoffllhjcaaGrd
import Derived.Test.YtejckoffllhjcaaMpm
import Derived.Test.YtejckoffllhjcaaQut
namespace Go.Proofs.Ytejckoffllhjcaa
open Go.RowKit Go.Maps
set_option linter.unusedVariables false

/-- A list of numbers as one of ints. -/
def nlK (l : List Nat) : List Int := l.map fun (k : Nat) => (k : Int)
theorem nlK_len (l : List Nat) : (nlK l).length = l.length := by simp [nlK]
theorem nlK_add (l : List Nat) (y : Nat) : nlK (l ++ [y]) = nlK l ++ [(y : Int)] := by simp [nlK]
/-- The fields of a process. -/
def fldK (S : KS) (D : Nat → Value) (i c : Nat) : Value :=
  match c with
  | 0 => .int .i64 (S.ptr i : Int)
  | 1 => D i
  | _ => .bool (S.ins i)
/-- The slice on a channel. -/
def vqM (f : Nat → Nat → Option Value) (i j : Nat) : Value := (f i j).getD snil
def Apt2 (u v : Value) : Prop := u.ownBlock = none ∨ u.ownBlock ≠ v.ownBlock

structure SysKA (w : World) (B s P M n c : Nat) (D : Nat → Value) (f : Nat → Nat → Option Value) (S : KS) : Prop where
  sys : Row w s 68 [.slice (some ⟨P, 0, none⟩) n n, .map (some M)]
  prs : Grid w P 70 3 n (fldK S D)
  row : ∀ i, i < n → QueT 3 w B (D i) (nlK (S.row i))
  map : MpM w M c f
  que : ∀ i j, i < n → j < n → QueT 78 w B (vqM f i j) (S.q i j)
  inj : ∀ i j, i < n → j < n → i ≠ j → Apt2 (D i) (D j)
  apart : ∀ i j a b, ¬ (i = a ∧ j = b) → Apt2 (vqM f i j) (vqM f a b)
  lowF : ∀ i j v, f i j = some v → i < n ∧ j < n
  lowS : B ≤ s
  lowP : B ≤ P
  lowM : B ≤ M
def SysK (w : World) (B s P M n c : Nat) (S : KS) : Prop := ∃ D f, SysKA w B s P M n c D f S
/-- Nothing below B has turned, and no row of codes. -/
structure BlK (B : Nat) (w w' : World) : Prop where
  low : Below B w w'
  err : ∀ g xs, Row w g 28 xs → Row w' g 28 xs
section
variable {B : Nat} {w w' w2 : World}
theorem BlK.refl (B : Nat) (w : World) : BlK B w w := ⟨Below.refl B w, fun _ _ h => h⟩
theorem BlK.trans (h : BlK B w w') (k : BlK B w' w2) : BlK B w w2 := ⟨h.low.trans k.low, fun g xs hg => k.err g xs (h.err g xs hg)⟩
theorem BlK.setRow (h : BlK B w w') {p : Addr} {t : TypeId} {ys : List Value} (hr : Row w' p.block t ys) (ht : 28 ≠ t) (hp : B ≤ p.block) (u : Value) : BlK B w (w'.setCell p u) :=
  ⟨h.low.setCell hp u, fun g xs hg => (h.err g xs hg).far (rowG_ne (h.err g xs hg) hr ht) u⟩
theorem BlK.alloc (h : BlK B w w') (hs : B ≤ w'.heap.size) (o : Obj) : BlK B w (w'.alloc o) := ⟨h.low.alloc hs o, fun g xs hg => (h.err g xs hg).alloc o⟩
theorem BlK.drew (h : BlK B w w') : BlK B w w'.drew := ⟨h.low.drew, fun g xs hg => (h.err g xs hg).block rfl⟩
theorem BlK.drewN (h : BlK B w w') (k : Nat) : BlK B w (w'.drewN k) := ⟨below_drewN h.low k, fun g xs hg => (h.err g xs hg).block rfl⟩
theorem BlK.below (hs : B ≤ w.heap.size) (hb : Below w.heap.size w w') : BlK B w w' := ⟨hb.mono hs, fun g xs hg => hg.below hb hg.lt⟩
theorem BlK.grownQ (h : BlK B w w') {te : TypeId} {v : Value} {xs : List Int} (hg : w'.grownBy w2 v.ownBlock) (hQ : QueT te w' B v xs) (ht : te ≠ 28) (hs : B ≤ w'.heap.size) : BlK B w w2 :=
  ⟨h.low.grown hg hs (fun b hb => (hQ.lt hb).1), fun g ys hr => (h.err g ys hr).grown hg (fun e => hQ.ne_row (h.err g ys hr) ht e.symm)⟩
theorem BlK.grownM (h : BlK B w w') {M c : Nat} {f : Nat → Nat → Option Value} (hg : w'.grownBy w2 (some M)) (hM : MpM w' M c f) (hl : B ≤ M) (hs : B ≤ w'.heap.size) : BlK B w w2 :=
  ⟨h.low.grown hg hs (fun b hb => by injection hb with hb; rw [← hb]; exact hl), fun g ys hr => (h.err g ys hr).grown hg (fun e => by injection e with e; exact hM.ne_row (h.err g ys hr) e.symm)⟩
end
theorem vqM_put (f : Nat → Nat → Option Value) (i j : Nat) (v : Value) : vqM (putM f i j v) i j = v := by unfold vqM; rw [putM_same]; rfl
theorem vqM_other (f : Nat → Nat → Option Value) {i j a b : Nat} (v : Value) (h : ¬ (a = i ∧ b = j)) : vqM (putM f i j v) a b = vqM f a b := by unfold vqM; rw [putM_other _ _ h]
section
variable {w w' w2 : World} {B s P M n c : Nat} {D : Nat → Value} {f : Nat → Nat → Option Value} {S T : KS}
theorem SysKA.cells (h : SysKA w B s P M n c D f S) : w.cell? ⟨s, 0, none⟩ = some (.slice (some ⟨P, 0, none⟩) n n) ∧ w.cell? ⟨s, 1, none⟩ = some (.map (some M)) := ⟨h.sys.cell (by simp), h.sys.cell (i := 1) (by simp)⟩
theorem SysKA.prc (h : SysKA w B s P M n c D f S) {i : Nat} (hi : i < n) : w.cell? ⟨P, i * 3, none⟩ = some (.int .i64 (S.ptr i : Int)) ∧ w.cell? ⟨P, i * 3 + 1, none⟩ = some (D i) ∧ w.cell? ⟨P, i * 3 + 2, none⟩ = some (.bool (S.ins i)) :=
  ⟨h.prs.cell hi (c := 0) (by omega), h.prs.cell hi (c := 1) (by omega), h.prs.cell hi (c := 2) (by omega)⟩
theorem SysKA.sz (h : SysKA w B s P M n c D f S) : B ≤ w.heap.size := Nat.le_of_lt (Nat.lt_of_le_of_lt h.lowP h.prs.lt)
theorem SysKA.blocks (h : SysKA w B s P M n c D f S) (hb : ∀ g, B ≤ g → g < w.heap.size → w'.heap[g]? = w.heap[g]?) : SysKA w' B s P M n c D f S :=
  ⟨h.sys.block (hb s h.lowS h.sys.lt), h.prs.block (hb P h.lowP h.prs.lt), fun i hi => (h.row i hi).block fun g e => hb g ((h.row i hi).lt e).1 ((h.row i hi).lt e).2, h.map.block (hb M h.lowM h.map.lt),
   fun i j hi hj => (h.que i j hi hj).block fun g e => hb g ((h.que i j hi hj).lt e).1 ((h.que i j hi hj).lt e).2, h.inj, h.apart, h.lowF, h.lowS, h.lowP, h.lowM⟩
theorem SysKA.alloc (h : SysKA w B s P M n c D f S) (o : Obj) : SysKA (w.alloc o) B s P M n c D f S := h.blocks fun g _ hg => Below.heap_alloc w o g hg
theorem SysKA.below (h : SysKA w B s P M n c D f S) (hb : Below w.heap.size w w') : SysKA w' B s P M n c D f S := h.blocks fun g _ hg => hb.block g hg
theorem SysKA.drew (h : SysKA w B s P M n c D f S) : SysKA w.drew B s P M n c D f S := h.blocks fun _ _ _ => rfl
theorem SysKA.drewN (h : SysKA w B s P M n c D f S) (k : Nat) : SysKA (w.drewN k) B s P M n c D f S := h.blocks fun _ _ _ => rfl
theorem SysKA.mono (h : SysKA w B s P M n c D f S) {c' : Nat} (hc : c ≤ c') : SysKA w B s P M n c' D f S := { h with map := h.map.mono hc }
theorem SysK.sz (h : SysK w B s P M n c S) : B ≤ w.heap.size := by obtain ⟨D, f, h⟩ := h; exact h.sz
theorem SysK.alloc (h : SysK w B s P M n c S) (o : Obj) : SysK (w.alloc o) B s P M n c S := by obtain ⟨D, f, h⟩ := h; exact ⟨D, f, h.alloc o⟩
theorem SysK.below (h : SysK w B s P M n c S) (hb : Below w.heap.size w w') : SysK w' B s P M n c S := by obtain ⟨D, f, h⟩ := h; exact ⟨D, f, h.below hb⟩
theorem SysK.blocks (h : SysK w B s P M n c S) (hb : ∀ g, B ≤ g → g < w.heap.size → w'.heap[g]? = w.heap[g]?) : SysK w' B s P M n c S := by obtain ⟨D, f, h⟩ := h; exact ⟨D, f, h.blocks hb⟩
theorem SysK.drewN (h : SysK w B s P M n c S) (k : Nat) : SysK (w.drewN k) B s P M n c S := by obtain ⟨D, f, h⟩ := h; exact ⟨D, f, h.drewN k⟩
theorem SysK.mono (h : SysK w B s P M n c S) {c' : Nat} (hc : c ≤ c') : SysK w B s P M n c' S := by obtain ⟨D, f, h⟩ := h; exact ⟨D, f, h.mono hc⟩
/-- A block of another type than those of the system is written. -/
theorem SysKA.wrote (h : SysKA w B s P M n c D f S) {g : Nat} {t : TypeId} {ys : List Value} (hr : Row w g t ys) (h1 : t ≠ 68) (h2 : t ≠ 70) (h3 : t ≠ 3) (h4 : t ≠ 78) (k : Nat) (v : Value) : SysKA (w.setCell ⟨g, k, none⟩ v) B s P M n c D f S := by
  obtain ⟨xs, hP⟩ := h.prs.row
  have hs : ∀ b, b ≠ g → (w.setCell ⟨g, k, none⟩ v).heap[b]? = w.heap[b]? := fun b hb => Below.heap_setCell w ⟨g, k, none⟩ v b hb
  exact ⟨h.sys.block (hs _ (rowG_ne h.sys hr h1.symm)), h.prs.block (hs _ (rowG_ne hP hr h2.symm)), fun i hi => (h.row i hi).block fun b e => hs b (fun e2 => (h.row i hi).ne_row hr h3.symm (by rw [e, e2])), h.map.block (hs _ (h.map.ne_row hr)),
    fun i j hi hj => (h.que i j hi hj).block fun b e => hs b (fun e2 => (h.que i j hi hj).ne_row hr h4.symm (by rw [e, e2])), h.inj, h.apart, h.lowF, h.lowS, h.lowP, h.lowM⟩
theorem SysK.wrote (h : SysK w B s P M n c S) {g : Nat} {t : TypeId} {ys : List Value} (hr : Row w g t ys) (h1 : t ≠ 68) (h2 : t ≠ 70) (h3 : t ≠ 3) (h4 : t ≠ 78) (k : Nat) (v : Value) : SysK (w.setCell ⟨g, k, none⟩ v) B s P M n c S := by
  obtain ⟨D, f, h⟩ := h
  exact ⟨D, f, h.wrote hr h1 h2 h3 h4 k v⟩
/-- A store into the processes. -/
theorem SysKA.setP (h : SysKA w B s P M n c D f S) {i k : Nat} (hi : i < n) (hk : k < 3) (v : Value) (he : ∀ a b, a < n → b < 3 → fldK T D a b = up2 (fldK S D) i k v a b) (ho : T.row = S.row) (hq : T.q = S.q) : SysKA (w.setCell ⟨P, i * 3 + k, none⟩ v) B s P M n c D f T := by
  obtain ⟨xs, hP⟩ := h.prs.row
  have hs : ∀ b, b ≠ P → (w.setCell ⟨P, i * 3 + k, none⟩ v).heap[b]? = w.heap[b]? := fun b hb => Below.heap_setCell w ⟨P, i * 3 + k, none⟩ v b hb
  exact ⟨h.sys.block (hs _ (rowG_ne h.sys hP (by decide))), (h.prs.set hi hk v).congr he, fun a ha => by rw [ho]; exact (h.row a ha).block fun g e => hs g (fun e2 => (h.row a ha).ne_row hP (by decide) (by rw [e, e2])), h.map.block (hs _ (h.map.ne_row hP)),
    fun a b ha hb => by rw [hq]; exact (h.que a b ha hb).block fun g e => hs g (fun e2 => (h.que a b ha hb).ne_row hP (by decide) (by rw [e, e2])), h.inj, h.apart, h.lowF, h.lowS, h.lowP, h.lowM⟩
theorem SysKA.setPtr (h : SysKA w B s P M n c D f S) {i : Nat} (hi : i < n) (x : Nat) : SysKA (w.setCell ⟨P, i * 3, none⟩ (.int .i64 (x : Int))) B s P M n c D f (S.aim i x) :=
  h.setP (k := 0) hi (by omega) _ (fun a b _ hb => by
    by_cases e : a = i ∧ b = 0
    · obtain ⟨rfl, rfl⟩ := e; rw [up2_same]; simp [fldK, up1, KS.aim]
    · rw [up2_other _ _ e]
      have hb' : b = 0 ∨ b = 1 ∨ b = 2 := by omega
      rcases hb' with rfl | rfl | rfl <;> first | rfl | (have e2 : a ≠ i := fun e2 => e ⟨e2, rfl⟩; simp [fldK, up1, e2, KS.aim])) rfl rfl
theorem SysKA.setIns (h : SysKA w B s P M n c D f S) {i : Nat} (hi : i < n) (x : Bool) : SysKA (w.setCell ⟨P, i * 3 + 2, none⟩ (.bool x)) B s P M n c D f { S with ins := up1 S.ins i x } :=
  h.setP (k := 2) hi (by omega) _ (fun a b _ hb => by
    by_cases e : a = i ∧ b = 2
    · obtain ⟨rfl, rfl⟩ := e; rw [up2_same]; simp [fldK, up1]
    · rw [up2_other _ _ e]
      have hb' : b = 0 ∨ b = 1 ∨ b = 2 := by omega
      rcases hb' with rfl | rfl | rfl <;> first | rfl | (have e2 : a ≠ i := fun e2 => e ⟨e2, rfl⟩; simp [fldK, up1, e2])) rfl rfl
theorem SysKA.blkP (h : SysKA w B s P M n c D f S) {w0 : World} (hb : BlK B w0 w) (k : Nat) (v : Value) : BlK B w0 (w.setCell ⟨P, k, none⟩ v) := by
  obtain ⟨xs, hP⟩ := h.prs.row
  exact hb.setRow (p := ⟨P, k, none⟩) hP (by decide) h.lowP v
/-- A queue is stored: in the block of the one that was there, or in a new one. -/
theorem SysKA.putQ (h : SysKA w B s P M n c D f S) {i : Nat} (hi : i < n) {v : Value} {xs : List Nat} (hQ : QueT 3 w2 B v (nlK xs))
    (hb : ∀ g, B ≤ g → g < w.heap.size → (D i).ownBlock ≠ some g → w2.heap[g]? = w.heap[g]?) (hat : v.ownBlock = (D i).ownBlock ∨ ∃ g, v.ownBlock = some g ∧ w.heap.size ≤ g) :
    SysKA (w2.setCell ⟨P, i * 3 + 1, none⟩ v) B s P M n c (up1 D i v) f { S with row := up1 S.row i xs } := by
  obtain ⟨ys, hP⟩ := h.prs.row
  have hQ0 := h.row i hi
  have hr : ∀ {g : Nat} {t : TypeId} {ys : List Value}, Row w g t ys → B ≤ g → 3 ≠ t → w2.heap[g]? = w.heap[g]? := fun {g t ys} hg hl ht => hb g hl hg.lt (fun e => hQ0.ne_row hg ht e)
  have hM2 : w2.heap[M]? = w.heap[M]? := by
    obtain ⟨es, cc, hM⟩ := h.map.obj
    exact hb M h.lowM h.map.lt (hQ0.ne_map hM)
  have hP2 := hP.block (hr hP h.lowP (by decide))
  have hs : ∀ b, b ≠ P → (w2.setCell ⟨P, i * 3 + 1, none⟩ v).heap[b]? = w2.heap[b]? := fun b hb => Below.heap_setCell w2 ⟨P, i * 3 + 1, none⟩ v b hb
  have hnew : ∀ a, a < n → a ≠ i → Apt2 (D a) v := fun a ha e => by
    unfold Apt2
    rcases hat with h1 | ⟨g, h1, h2⟩
    · rw [h1]; exact h.inj a i ha hi e
    · cases hbk : (D a).ownBlock with
      | none => exact .inl rfl
      | some g' =>
        right
        rw [h1]
        intro e2
        injection e2 with e2
        have := ((h.row a ha).lt hbk).2
        omega
  refine ⟨(h.sys.block (hr h.sys h.lowS (by decide))).block (hs _ (rowG_ne h.sys hP (by decide))), ((h.prs.block (hr hP h.lowP (by decide))).set hi (c := 1) (by omega) v).congr fun a b ha hb' => ?_, fun a ha => ?_, (h.map.block hM2).block (hs _ (h.map.ne_row hP)), fun a b ha hb' => ?_, fun a b ha hb' hne => ?_, h.apart, h.lowF, h.lowS, h.lowP, h.lowM⟩
  · by_cases e : a = i ∧ b = 1
    · obtain ⟨rfl, rfl⟩ := e; rw [up2_same]; show up1 D a v a = v; rw [up1_same]
    · rw [up2_other _ _ e]
      have hb2 : b = 0 ∨ b = 1 ∨ b = 2 := by omega
      rcases hb2 with rfl | rfl | rfl
      · rfl
      · have e2 : a ≠ i := fun e2 => e ⟨e2, rfl⟩
        show up1 D i v a = D a
        rw [up1_other _ _ e2]
      · rfl
  · show QueT 3 _ B (up1 D i v a) (nlK (up1 S.row i xs a))
    by_cases e : a = i
    · subst e
      rw [up1_same, up1_same]
      exact hQ.block fun g e => hs g (fun e2 => hQ.ne_row hP2 (by decide) (by rw [e, e2]))
    · rw [up1_other _ _ e, up1_other _ _ e]
      have hq := h.row a ha
      have hq2 : QueT 3 w2 B (D a) (nlK (S.row a)) := hq.block fun g e2 => hb g (hq.lt e2).1 (hq.lt e2).2 (fun e3 => by
        rcases h.inj a i ha hi e with h1 | h1
        · rw [h1] at e2; cases e2
        · exact h1 (e2.trans e3.symm))
      exact hq2.block fun g e => hs g (fun e2 => hq2.ne_row hP2 (by decide) (by rw [e, e2]))
  · have hq := h.que a b ha hb'
    have hq2 : QueT 78 w2 B (vqM f a b) (S.q a b) := hq.block fun g e2 => hb g (hq.lt e2).1 (hq.lt e2).2 (fun e3 => by
      rcases hQ0 with ⟨e4, _⟩ | ⟨g', off, cap, cur, e4, _, e5, _⟩
      · rw [e4] at e3; cases e3
      · rw [e4] at e3
        injection e3 with e3
        have e3' : g' = g := e3
        rw [e3'] at e5
        exact hq.ne_row (T := g) (t := 3) (ys := cur.toList) (by unfold Row; rw [e5]) (by decide) e2)
    exact hq2.block fun g e => hs g (fun e2 => hq2.ne_row hP2 (by decide) (by rw [e, e2]))
  · by_cases e : a = i
    · subst e
      rw [up1_same, up1_other _ _ (fun e => hne e.symm)]
      rcases hnew b hb' (fun e => hne e.symm) with h1 | h1
      · unfold Apt2
        cases hv : v.ownBlock with
        | none => exact .inl rfl
        | some g => right; rw [h1]; intro e; cases e
      · exact .inr fun e => h1 e.symm
    · rw [up1_other _ _ e]
      by_cases e2 : b = i
      · rw [e2, up1_same]; exact hnew a ha e
      · rw [up1_other _ _ e2]; exact h.inj a b ha hb' hne
/-- 'm[k]'. -/
theorem SysKA.look (h : SysKA w B s P M n c D f S) (hn : n ≤ 6) {i j : Nat} (hi : i < n) (hj : j < n) : ∀ k, (Instr.lookup 66 (.map (some M)) (chM i j) false).run Try.prog (w.drewN k) = .ok (vqM f i j) (w.drewN k) := fun k =>
  (h.drewN k).map.look (by omega) (by omega)
/-- 'm[k] = v': v a queue in the block of the one that was there, or in a new one. -/
theorem SysKA.put (h : SysKA w B s P M n c D f S) {i j : Nat} (hi : i < n) (hj : j < n) {v : Value} {xs : List Int} (hQ : QueT 78 w2 B v xs) (hm : MpM w2 M (c + 1) (putM f i j v))
    (hb : ∀ g, B ≤ g → g < w.heap.size → g ≠ M → (vqM f i j).ownBlock ≠ some g → w2.heap[g]? = w.heap[g]?) (hat : v.ownBlock = (vqM f i j).ownBlock ∨ ∃ g, v.ownBlock = some g ∧ w.heap.size ≤ g)
    (hT : T.ptr = S.ptr ∧ T.ins = S.ins ∧ T.row = S.row ∧ T.q = up2 S.q i j xs) : SysKA w2 B s P M n (c + 1) D (putM f i j v) T := by
  obtain ⟨t1, t2, t3, t7⟩ := hT
  have hQ0 := h.que i j hi hj
  obtain ⟨ys, hP⟩ := h.prs.row
  have hr : ∀ {g : Nat} {t : TypeId} {ys : List Value}, Row w g t ys → B ≤ g → 78 ≠ t → w2.heap[g]? = w.heap[g]? := fun {g t ys} hg hl ht => hb g hl hg.lt (fun e => h.map.ne_row hg e.symm) (fun e => hQ0.ne_row hg ht e)
  have hfld : fldK T D = fldK S D := by
    funext a b
    unfold fldK
    rw [t1, t2]
  have hnew : ∀ a b, ¬ (a = i ∧ b = j) → Apt2 (vqM f a b) v := fun a b e => by
    unfold Apt2
    rcases hat with h1 | ⟨g, h1, h2⟩
    · rw [h1]; exact h.apart a b i j e
    · by_cases hab : a < n ∧ b < n
      · cases hbk : (vqM f a b).ownBlock with
        | none => exact .inl rfl
        | some g' =>
          right
          rw [h1]
          intro e2
          injection e2 with e2
          have := ((h.que a b hab.1 hab.2).lt hbk).2
          omega
      · left
        unfold vqM
        cases hf : f a b with
        | none => rfl
        | some v => exact absurd (h.lowF a b v hf) hab
  refine ⟨h.sys.block (hr h.sys h.lowS (by decide)), by rw [hfld]; exact h.prs.block (hr hP h.lowP (by decide)), fun a ha => ?_, hm, fun a b ha hb' => ?_, h.inj, fun a b a' b' hne => ?_, fun a b u hu => ?_, h.lowS, h.lowP, h.lowM⟩
  · rw [t3]
    have hq := h.row a ha
    refine hq.block fun g e2 => hb g (hq.lt e2).1 (hq.lt e2).2 (fun e3 => ?_) (fun e3 => ?_)
    · obtain ⟨es, cc, hM⟩ := h.map.obj
      exact hq.ne_map hM (by rw [e2, e3])
    · rcases hQ0 with ⟨e4, _⟩ | ⟨g', off, cap, cur, e4, _, e5, _⟩
      · rw [e4] at e3; cases e3
      · rw [e4] at e3
        injection e3 with e3
        have e3' : g' = g := e3
        rw [e3'] at e5
        exact hq.ne_row (T := g) (t := 78) (ys := cur.toList) (by unfold Row; rw [e5]) (by decide) e2
  · rw [t7]
    by_cases e : a = i ∧ b = j
    · obtain ⟨rfl, rfl⟩ := e
      rw [vqM_put, up2_same]; exact hQ
    · rw [vqM_other _ _ e, up2_other _ _ e]
      have hq := h.que a b ha hb'
      refine hq.block fun g e2 => hb g (hq.lt e2).1 (hq.lt e2).2 (fun e3 => ?_) (fun e3 => ?_)
      · obtain ⟨es, cc, hM⟩ := h.map.obj
        exact hq.ne_map hM (by rw [e2, e3])
      · rcases h.apart a b i j e with h1 | h1
        · rw [h1] at e2; cases e2
        · exact h1 (e2.trans e3.symm)
  · by_cases e : a = i ∧ b = j
    · obtain ⟨rfl, rfl⟩ := e
      have e2 : ¬ (a' = a ∧ b' = b) := fun e3 => hne ⟨e3.1.symm, e3.2.symm⟩
      rw [vqM_put, vqM_other _ _ e2]
      unfold Apt2
      cases hv : v.ownBlock with
      | none => exact .inl rfl
      | some g =>
        right
        intro e3
        rcases hnew a' b' e2 with h1 | h1
        · rw [h1] at e3; cases e3
        · exact h1 (e3.symm.trans hv.symm)
    · rw [vqM_other _ _ e]
      by_cases e2 : a' = i ∧ b' = j
      · rw [e2.1, e2.2, vqM_put]
        exact hnew a b e
      · rw [vqM_other _ _ e2]
        exact h.apart a b a' b' hne
  · by_cases e : a = i ∧ b = j
    · rw [e.1, e.2]; exact ⟨hi, hj⟩
    · rw [putM_other _ _ e] at hu; exact h.lowF a b u hu
/-- 'm[k] = append(m[k], x)', in its parts: in the world W the entry is made ready; then, whatever else is laid, the append; then the store. -/
theorem SysKA.entry {W : World} (h : SysKA W B s P M n c D f S) (hn : n ≤ 6) (hc : c ≤ 100000) {i j : Nat} (hi : i < n) (hj : j < n) :
    ∃ (st : Int) (w1 : World), (Instr.mapEntry 66 (.map (some M)) (chM i j)).run Try.prog W = .ok (.tuple #[vqM f i j, .int .i64 st]) w1 ∧ W.grownBy w1 (some M) ∧ w1.heap.size = W.heap.size ∧ QueT 78 w1 B (vqM f i j) (S.q i j) ∧
      ∀ (w1' w2 : World) (v : Value) (x : Int), w1.grownBy w1' none → QueT 78 w2 B v (S.q i j ++ [x]) → w1'.grownBy w2 (vqM f i j).ownBlock → (v.ownBlock = (vqM f i j).ownBlock ∨ v.ownBlock = some w1'.heap.size) →
        ∃ w3, (Instr.entryStore 66 (.map (some M)) (.int .i64 st) v).run Try.prog w2 = .ok () w3 ∧ SysKA w3 B s P M n (c + 1) D (putM f i j v) (S.put i j x) ∧ (∀ w0, BlK B w0 W → BlK B w0 w3) ∧
          (∀ g, g < W.heap.size → g ≠ M → (vqM f i j).ownBlock ≠ some g → w2.heap[g]? = W.heap[g]? ∧ w3.heap[g]? = W.heap[g]?) := by
  obtain ⟨st, w1, e1, g1, z1, ⟨esM, ccM, hobM⟩, e2⟩ := h.map.entry (by unfold maxLen; omega) (i := i) (j := j) (by omega) (by omega)
  have hQ0 := h.que i j hi hj
  obtain ⟨es, cc, hM⟩ := h.map.obj
  have hne : (vqM f i j).ownBlock ≠ some M := hQ0.ne_map hM
  have hMlt := h.map.lt
  have hQ1 : QueT 78 w1 B (vqM f i j) (S.q i j) := hQ0.kept g1 (.inr hne)
  refine ⟨st, w1, e1, g1, z1, hQ1, fun w1' w2 v x g1' hQ2 g2 hat => ?_⟩
  have hz := g1'.size
  have hMk : w2.heap[M]? = w1.heap[M]? := (g2.block M (by omega) (fun e => hne e.symm)).trans (g1'.block M (by omega) (by simp))
  obtain ⟨w3, e3, hm3, g3, z3⟩ := e2 w2 v hMk
  have hvM : v.ownBlock ≠ some M := by
    rcases hat with h1 | h1
    · rw [h1]; exact hne
    · rw [h1]
      intro e
      injection e with e
      omega
  have hz2 := g2.size
  have hk : ∀ g, g < W.heap.size → g ≠ M → (vqM f i j).ownBlock ≠ some g → w2.heap[g]? = W.heap[g]? := fun g hg hgM hgv =>
    (g2.block g (by omega) (fun e => hgv e.symm)).trans ((g1'.block g (by omega) (by simp)).trans (g1.block g hg (fun e => hgM (by injection e))))
  have hk3 : ∀ g, g < W.heap.size → g ≠ M → (vqM f i j).ownBlock ≠ some g → w3.heap[g]? = W.heap[g]? := fun g hg hgM hgv =>
    (g3.block g (by omega) (fun e => hgM (by injection e))).trans (hk g hg hgM hgv)
  refine ⟨w3, e3, h.put hi hj (hQ2.kept g3 (.inr hvM)) hm3 (fun g _ hg hgM hgv => hk3 g hg hgM hgv) ?_ ⟨rfl, rfl, rfl, rfl⟩, fun w0 hb => ?_, fun g hg hgM hgv => ⟨hk g hg hgM hgv, hk3 g hg hgM hgv⟩⟩
  · rcases hat with h1 | h1
    · exact .inl h1
    · exact .inr ⟨_, h1, by omega⟩
  · have b1 := hb.grownM g1 h.map h.lowM h.sz
    have hs1 : B ≤ w1.heap.size := Nat.le_trans h.sz g1.size
    have b1' : BlK B w0 w1' := ⟨b1.low.grown g1' hs1 (by simp), fun g ys hr => (b1.err g ys hr).grown g1' (by simp)⟩
    have hs1' : B ≤ w1'.heap.size := Nat.le_trans hs1 hz
    have b2 := b1'.grownQ g2 (hQ1.kept g1' (by cases (vqM f i j).ownBlock <;> simp)) (by decide) hs1'
    have hs2 : B ≤ w2.heap.size := Nat.le_trans hs1' hz2
    refine ⟨b2.low.grown g3 hs2 (fun b hb => by injection hb with hb; rw [← hb]; exact h.lowM), fun g ys hr => (b2.err g ys hr).grown g3 (fun e => ?_)⟩
    injection e with e
    have hrM := b2.err g ys hr
    rw [e] at hrM
    unfold Row at hrM
    rw [hMk, hobM] at hrM
    injection hrM with hrM
    cases hrM
end

#print axioms SysKA.entry
#print axioms SysKA.put
#print axioms SysKA.putQ
end Go.Proofs.Ytejckoffllhjcaa
