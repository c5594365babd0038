/-
  Words for memory: the system of package turn.
-/
import Derived.Test.YthnmppajakdcaaaTrs
import Derived.Test.YthnmppajakdcaaaGrd
import Derived.Test.YthnmppajakdcaaaMpv
import Derived.Test.YthnmppajakdcaaaQue
namespace Go.Proofs.Ythnmppajakdcaaa
open Go.RowKit Go.Maps
set_option linter.unusedVariables false

/-- The fields of a process. -/
def fldT (n : Nat) (S : TS) (D : Nat → Nat) (i c : Nat) : Value :=
  match c with
  | 0 => .int .i64 (S.clk i)
  | 1 => .bool (S.req i)
  | 2 => .bool (S.ins i)
  | 3 => .int .i64 (S.num i)
  | 4 => .int .i64 (S.mis i)
  | _ => .slice (some ⟨D i, 0, none⟩) n n
/-- The slice on a channel. -/
def vq (f : Nat → Nat → Option Value) (i j : Nat) : Value := (f i j).getD snil

structure SysTA (w : World) (B s P M n c : Nat) (D : Nat → Nat) (f : Nat → Nat → Option Value) (S : TS) : Prop where
  sys : Row w s 61 [.slice (some ⟨P, 0, none⟩) n n, .map (some M)]
  prs : Grid w P 63 6 n (fldT n S D)
  dfr : ∀ i, i < n → BRowG w (D i) n (S.owe i)
  map : Mp2 w M c f
  que : ∀ i j, i < n → j < n → Que w B (vq f i j) (S.q i j)
  inj : ∀ i j, i < n → j < n → i ≠ j → D i ≠ D j
  apart : ∀ i j a b, ¬ (i = a ∧ j = b) → (vq f i j).ownBlock = none ∨ (vq f i j).ownBlock ≠ (vq f a b).ownBlock
  lowF : ∀ i j v, f i j = some v → i < n ∧ j < n
  lowS : B ≤ s
  lowP : B ≤ P
  lowM : B ≤ M
  lowD : ∀ i, i < n → B ≤ D i
def SysT (w : World) (B s P M n c : Nat) (D : Nat → Nat) (S : TS) : Prop := ∃ f, SysTA w B s P M n c D f S
/-- Nothing below B has turned, and no row of codes. -/
structure BlT (B : Nat) (w w' : World) : Prop where
  low : Below B w w'
  err : ∀ g xs, Row w g 27 xs → Row w' g 27 xs
section
variable {B : Nat} {w w' w2 : World}
theorem BlT.refl (B : Nat) (w : World) : BlT B w w := ⟨Below.refl B w, fun _ _ h => h⟩
theorem BlT.trans (h : BlT B w w') (k : BlT B w' w2) : BlT B w w2 := ⟨h.low.trans k.low, fun g xs hg => k.err g xs (h.err g xs hg)⟩
theorem BlT.setRow (h : BlT B w w') {p : Addr} {t : TypeId} {ys : List Value} (hr : Row w' p.block t ys) (ht : 27 ≠ t) (hp : B ≤ p.block) (u : Value) : BlT B w (w'.setCell p u) :=
  ⟨h.low.setCell hp u, fun g xs hg => (h.err g xs hg).far (rowG_ne (h.err g xs hg) hr ht) u⟩
theorem BlT.alloc (h : BlT B w w') (hs : B ≤ w'.heap.size) (o : Obj) : BlT B w (w'.alloc o) := ⟨h.low.alloc hs o, fun g xs hg => (h.err g xs hg).alloc o⟩
theorem BlT.drew (h : BlT B w w') : BlT B w w'.drew := ⟨h.low.drew, fun g xs hg => (h.err g xs hg).block rfl⟩
theorem BlT.drewN (h : BlT B w w') (k : Nat) : BlT B w (w'.drewN k) := ⟨below_drewN h.low k, fun g xs hg => (h.err g xs hg).block rfl⟩
theorem BlT.below (hs : B ≤ w.heap.size) (hb : Below w.heap.size w w') : BlT B w w' := ⟨hb.mono hs, fun g xs hg => hg.below hb hg.lt⟩
theorem BlT.grownQ (h : BlT B w w') {v : Value} {xs : List Int} (hg : w'.grownBy w2 v.ownBlock) (hQ : Que w' B v xs) (hs : B ≤ w'.heap.size) : BlT B w w2 :=
  ⟨h.low.grown hg hs (fun b hb => (hQ.lt hb).1), fun g ys hr => (h.err g ys hr).grown hg (fun e => hQ.ne_row (h.err g ys hr) (by decide) e.symm)⟩
theorem BlT.grownM (h : BlT B w w') {M c : Nat} {f : Nat → Nat → Option Value} (hg : w'.grownBy w2 (some M)) (hM : Mp2 w' M c f) (hl : B ≤ M) (hs : B ≤ w'.heap.size) : BlT B w w2 :=
  ⟨h.low.grown hg hs (fun b hb => by injection hb with hb; rw [← hb]; exact hl), fun g ys hr => (h.err g ys hr).grown hg (fun e => by injection e with e; exact hM.ne_row (h.err g ys hr) e.symm)⟩
end
theorem vq_put (f : Nat → Nat → Option Value) (i j : Nat) (v : Value) : vq (put2 f i j v) i j = v := by unfold vq; rw [put2_same]; rfl
theorem vq_other (f : Nat → Nat → Option Value) {i j a b : Nat} (v : Value) (h : ¬ (a = i ∧ b = j)) : vq (put2 f i j v) a b = vq f a b := by unfold vq; rw [put2_other _ _ h]
section
variable {w w' w2 : World} {B s P M n c : Nat} {D : Nat → Nat} {f : Nat → Nat → Option Value} {S T : TS}
theorem SysTA.cells (h : SysTA w B s P M n c D f S) : w.cell? ⟨s, 0, none⟩ = some (.slice (some ⟨P, 0, none⟩) n n) ∧ w.cell? ⟨s, 1, none⟩ = some (.map (some M)) := ⟨h.sys.cell (by simp), h.sys.cell (i := 1) (by simp)⟩
theorem SysTA.prc (h : SysTA w B s P M n c D f S) {i : Nat} (hi : i < n) : w.cell? ⟨P, i * 6, none⟩ = some (.int .i64 (S.clk i)) ∧ w.cell? ⟨P, i * 6 + 1, none⟩ = some (.bool (S.req i)) ∧ w.cell? ⟨P, i * 6 + 2, none⟩ = some (.bool (S.ins i)) ∧
    w.cell? ⟨P, i * 6 + 3, none⟩ = some (.int .i64 (S.num i)) ∧ w.cell? ⟨P, i * 6 + 4, none⟩ = some (.int .i64 (S.mis i)) ∧ w.cell? ⟨P, i * 6 + 5, none⟩ = some (.slice (some ⟨D i, 0, none⟩) n n) :=
  ⟨h.prs.cell hi (c := 0) (by omega), h.prs.cell hi (c := 1) (by omega), h.prs.cell hi (c := 2) (by omega), h.prs.cell hi (c := 3) (by omega), h.prs.cell hi (c := 4) (by omega), h.prs.cell hi (c := 5) (by omega)⟩
theorem SysTA.sz (h : SysTA w B s P M n c D f S) : B ≤ w.heap.size := Nat.le_of_lt (Nat.lt_of_le_of_lt h.lowP h.prs.lt)
theorem SysTA.blocks (h : SysTA w B s P M n c D f S) (hb : ∀ g, B ≤ g → g < w.heap.size → w'.heap[g]? = w.heap[g]?) : SysTA w' B s P M n c D f S :=
  ⟨h.sys.block (hb s h.lowS h.sys.lt), h.prs.block (hb P h.lowP h.prs.lt), fun i hi => Row.block (h.dfr i hi) (hb _ (h.lowD i hi) (Row.lt (h.dfr i hi))), h.map.block (hb M h.lowM h.map.lt),
   fun i j hi hj => (h.que i j hi hj).block fun g e => hb g ((h.que i j hi hj).lt e).1 ((h.que i j hi hj).lt e).2, h.inj, h.apart, h.lowF, h.lowS, h.lowP, h.lowM, h.lowD⟩
theorem SysTA.alloc (h : SysTA w B s P M n c D f S) (o : Obj) : SysTA (w.alloc o) B s P M n c D f S := h.blocks fun g _ hg => Below.heap_alloc w o g hg
theorem SysTA.below (h : SysTA w B s P M n c D f S) (hb : Below w.heap.size w w') : SysTA w' B s P M n c D f S := h.blocks fun g _ hg => hb.block g hg
theorem SysTA.drew (h : SysTA w B s P M n c D f S) : SysTA w.drew B s P M n c D f S := h.blocks fun _ _ _ => rfl
theorem SysTA.drewN (h : SysTA w B s P M n c D f S) (k : Nat) : SysTA (w.drewN k) B s P M n c D f S := h.blocks fun _ _ _ => rfl
theorem SysTA.mono (h : SysTA w B s P M n c D f S) {c' : Nat} (hc : c ≤ c') : SysTA w B s P M n c' D f S := { h with map := h.map.mono hc }
theorem SysT.sz (h : SysT w B s P M n c D S) : B ≤ w.heap.size := by obtain ⟨f, h⟩ := h; exact h.sz
theorem SysT.alloc (h : SysT w B s P M n c D S) (o : Obj) : SysT (w.alloc o) B s P M n c D S := by obtain ⟨f, h⟩ := h; exact ⟨f, h.alloc o⟩
theorem SysT.below (h : SysT w B s P M n c D S) (hb : Below w.heap.size w w') : SysT w' B s P M n c D S := by obtain ⟨f, h⟩ := h; exact ⟨f, h.below hb⟩
theorem SysT.blocks (h : SysT w B s P M n c D S) (hb : ∀ g, B ≤ g → g < w.heap.size → w'.heap[g]? = w.heap[g]?) : SysT w' B s P M n c D S := by obtain ⟨f, h⟩ := h; exact ⟨f, h.blocks hb⟩
theorem SysT.drewN (h : SysT w B s P M n c D S) (k : Nat) : SysT (w.drewN k) B s P M n c D S := by obtain ⟨f, h⟩ := h; exact ⟨f, h.drewN k⟩
theorem SysT.mono (h : SysT w B s P M n c D S) {c' : Nat} (hc : c ≤ c') : SysT w B s P M n c' D S := by obtain ⟨f, h⟩ := h; exact ⟨f, h.mono hc⟩
theorem SysTA.congr (h : SysTA w B s P M n c D f S) (e1 : T.clk = S.clk) (e2 : T.req = S.req) (e3 : T.ins = S.ins) (e4 : T.num = S.num) (e5 : T.mis = S.mis) (e6 : T.owe = S.owe) (e7 : T.q = S.q) : SysTA w B s P M n c D f T := by
  have : T = S := TS.eq e1 e2 e3 e4 e5 e6 e7
  rw [this]; exact h
/-- A block of another type than those of the system is written. -/
theorem SysTA.row (h : SysTA w B s P M n c D f S) {g : Nat} {t : TypeId} {ys : List Value} (hr : Row w g t ys) (h1 : t ≠ 61) (h2 : t ≠ 63) (h3 : t ≠ 4) (h4 : t ≠ 3) (k : Nat) (v : Value) : SysTA (w.setCell ⟨g, k, none⟩ v) B s P M n c D f S := by
  obtain ⟨xs, hP⟩ := h.prs.row
  have hs : ∀ b, b ≠ g → (w.setCell ⟨g, k, none⟩ v).heap[b]? = w.heap[b]? := fun b hb => Below.heap_setCell w ⟨g, k, none⟩ v b hb
  exact ⟨h.sys.block (hs _ (rowG_ne h.sys hr h1.symm)), h.prs.block (hs _ (rowG_ne hP hr h2.symm)), fun i hi => Row.block (h.dfr i hi) (hs _ (rowG_ne (h.dfr i hi) hr h3.symm)), h.map.block (hs _ (h.map.ne_row hr)),
    fun i j hi hj => (h.que i j hi hj).block fun b e => hs b (fun e2 => (h.que i j hi hj).ne_row hr h4.symm (by rw [e, e2])), h.inj, h.apart, h.lowF, h.lowS, h.lowP, h.lowM, h.lowD⟩
/-- A store into the processes. -/
theorem SysTA.setP (h : SysTA w B s P M n c D f S) {i k : Nat} (hi : i < n) (hk : k < 6) (v : Value) (he : ∀ a b, a < n → b < 6 → fldT n T D a b = up2 (fldT n S D) i k v a b) (ho : T.owe = S.owe) (hq : T.q = S.q) : SysTA (w.setCell ⟨P, i * 6 + k, none⟩ v) B s P M n c D f T := by
  obtain ⟨xs, hP⟩ := h.prs.row
  have hs : ∀ b, b ≠ P → (w.setCell ⟨P, i * 6 + k, none⟩ v).heap[b]? = w.heap[b]? := fun b hb => Below.heap_setCell w ⟨P, i * 6 + k, none⟩ v b hb
  exact ⟨h.sys.block (hs _ (rowG_ne h.sys hP (by decide))), (h.prs.set hi hk v).congr he, fun a ha => by rw [ho]; exact Row.block (h.dfr a ha) (hs _ (rowG_ne (h.dfr a ha) hP (by decide))), h.map.block (hs _ (h.map.ne_row hP)),
    fun a b ha hb => by rw [hq]; exact (h.que a b ha hb).block fun g e => hs g (fun e2 => (h.que a b ha hb).ne_row hP (by decide) (by rw [e, e2])), h.inj, h.apart, h.lowF, h.lowS, h.lowP, h.lowM, h.lowD⟩
theorem SysTA.setClk (h : SysTA w B s P M n c D f S) {i : Nat} (hi : i < n) (x : Int) : SysTA (w.setCell ⟨P, i * 6, none⟩ (.int .i64 x)) B s P M n c D f { S with clk := up1 S.clk i x } :=
  h.setP (k := 0) hi (by omega) _ (fun a b _ hb => by
    by_cases e : a = i ∧ b = 0
    · obtain ⟨rfl, rfl⟩ := e; rw [up2_same]; simp [fldT, up1]
    · rw [up2_other _ _ e]
      have hb' : b = 0 ∨ b = 1 ∨ b = 2 ∨ b = 3 ∨ b = 4 ∨ b = 5 := by omega
      rcases hb' with rfl | rfl | rfl | rfl | rfl | rfl <;> first | rfl | (have e2 : a ≠ i := fun e2 => e ⟨e2, rfl⟩; simp [fldT, up1, e2])) rfl rfl
theorem SysTA.setReq (h : SysTA w B s P M n c D f S) {i : Nat} (hi : i < n) (x : Bool) : SysTA (w.setCell ⟨P, i * 6 + 1, none⟩ (.bool x)) B s P M n c D f { S with req := up1 S.req i x } :=
  h.setP (k := 1) hi (by omega) _ (fun a b _ hb => by
    by_cases e : a = i ∧ b = 1
    · obtain ⟨rfl, rfl⟩ := e; rw [up2_same]; simp [fldT, up1]
    · rw [up2_other _ _ e]
      have hb' : b = 0 ∨ b = 1 ∨ b = 2 ∨ b = 3 ∨ b = 4 ∨ b = 5 := by omega
      rcases hb' with rfl | rfl | rfl | rfl | rfl | rfl <;> first | rfl | (have e2 : a ≠ i := fun e2 => e ⟨e2, rfl⟩; simp [fldT, up1, e2])) rfl rfl
theorem SysTA.setIns (h : SysTA w B s P M n c D f S) {i : Nat} (hi : i < n) (x : Bool) : SysTA (w.setCell ⟨P, i * 6 + 2, none⟩ (.bool x)) B s P M n c D f { S with ins := up1 S.ins i x } :=
  h.setP (k := 2) hi (by omega) _ (fun a b _ hb => by
    by_cases e : a = i ∧ b = 2
    · obtain ⟨rfl, rfl⟩ := e; rw [up2_same]; simp [fldT, up1]
    · rw [up2_other _ _ e]
      have hb' : b = 0 ∨ b = 1 ∨ b = 2 ∨ b = 3 ∨ b = 4 ∨ b = 5 := by omega
      rcases hb' with rfl | rfl | rfl | rfl | rfl | rfl <;> first | rfl | (have e2 : a ≠ i := fun e2 => e ⟨e2, rfl⟩; simp [fldT, up1, e2])) rfl rfl
theorem SysTA.setNum (h : SysTA w B s P M n c D f S) {i : Nat} (hi : i < n) (x : Int) : SysTA (w.setCell ⟨P, i * 6 + 3, none⟩ (.int .i64 x)) B s P M n c D f { S with num := up1 S.num i x } :=
  h.setP (k := 3) hi (by omega) _ (fun a b _ hb => by
    by_cases e : a = i ∧ b = 3
    · obtain ⟨rfl, rfl⟩ := e; rw [up2_same]; simp [fldT, up1]
    · rw [up2_other _ _ e]
      have hb' : b = 0 ∨ b = 1 ∨ b = 2 ∨ b = 3 ∨ b = 4 ∨ b = 5 := by omega
      rcases hb' with rfl | rfl | rfl | rfl | rfl | rfl <;> first | rfl | (have e2 : a ≠ i := fun e2 => e ⟨e2, rfl⟩; simp [fldT, up1, e2])) rfl rfl
theorem SysTA.setMis (h : SysTA w B s P M n c D f S) {i : Nat} (hi : i < n) (x : Int) : SysTA (w.setCell ⟨P, i * 6 + 4, none⟩ (.int .i64 x)) B s P M n c D f { S with mis := up1 S.mis i x } :=
  h.setP (k := 4) hi (by omega) _ (fun a b _ hb => by
    by_cases e : a = i ∧ b = 4
    · obtain ⟨rfl, rfl⟩ := e; rw [up2_same]; simp [fldT, up1]
    · rw [up2_other _ _ e]
      have hb' : b = 0 ∨ b = 1 ∨ b = 2 ∨ b = 3 ∨ b = 4 ∨ b = 5 := by omega
      rcases hb' with rfl | rfl | rfl | rfl | rfl | rfl <;> first | rfl | (have e2 : a ≠ i := fun e2 => e ⟨e2, rfl⟩; simp [fldT, up1, e2])) rfl rfl
theorem SysTA.blkP (h : SysTA w B s P M n c D f S) {w0 : World} (hb : BlT B w0 w) (k : Nat) (v : Value) : BlT B w0 (w.setCell ⟨P, k, none⟩ v) := by
  obtain ⟨xs, hP⟩ := h.prs.row
  exact hb.setRow (p := ⟨P, k, none⟩) hP (by decide) h.lowP v
/-- A store into who is owed a reply. -/
theorem SysTA.setOwe (h : SysTA w B s P M n c D f S) {i : Nat} (hi : i < n) (j : Nat) (x : Bool) : SysTA (w.setCell ⟨D i, j, none⟩ (.bool x)) B s P M n c D f { S with owe := up2 S.owe i j x } := by
  have hr := h.dfr i hi
  obtain ⟨xs, hP⟩ := h.prs.row
  have hs : ∀ b, b ≠ D i → (w.setCell ⟨D i, j, none⟩ (.bool x)).heap[b]? = w.heap[b]? := fun b hb => Below.heap_setCell w ⟨D i, j, none⟩ (.bool x) b hb
  refine ⟨h.sys.block (hs _ (rowG_ne h.sys hr (by decide))), h.prs.block (hs _ (rowG_ne hP hr (by decide))), fun a ha => ?_, h.map.block (hs _ (h.map.ne_row hr)),
    fun a b ha hb => (h.que a b ha hb).block fun g e => hs g (fun e2 => (h.que a b ha hb).ne_row hr (by decide) (by rw [e, e2])), h.inj, h.apart, h.lowF, h.lowS, h.lowP, h.lowM, h.lowD⟩
  by_cases e : a = i
  · subst e
    refine (BRowG.put hr j x).congr fun b _ => ?_
    show up1 (S.owe a) j x b = up2 S.owe a j x a b
    by_cases e2 : b = j
    · rw [e2, up1_same, up2_same]
    · rw [up1_other _ _ e2, up2_other _ _ (fun h => e2 h.2)]
  · have := Row.block (h.dfr a ha) (hs _ (h.inj a i ha hi e))
    refine BRowG.congr this fun b _ => ?_
    show S.owe a b = up2 S.owe i j x a b
    rw [up2_other _ _ (fun h => e h.1)]
theorem SysTA.blkD (h : SysTA w B s P M n c D f S) {w0 : World} (hb : BlT B w0 w) {i : Nat} (hi : i < n) (j : Nat) (v : Value) : BlT B w0 (w.setCell ⟨D i, j, none⟩ v) :=
  hb.setRow (p := ⟨D i, j, none⟩) (h.dfr i hi) (by decide) (h.lowD i hi) v
/-- 'm[k]'. -/
theorem SysTA.look (h : SysTA w B s P M n c D f S) (hn : n ≤ 6) {i j : Nat} (hi : i < n) (hj : j < n) : ∀ k, (Instr.lookup 59 (.map (some M)) (ch2 i j) false).run Try.prog (w.drewN k) = .ok (vq f i j) (w.drewN k) := fun k =>
  (h.drewN k).map.look (by omega) (by omega)
/-- 'm[k] = v': v a queue in the block of the one that was there, or in a new one. -/
theorem SysTA.put (h : SysTA w B s P M n c D f S) {i j : Nat} (hi : i < n) (hj : j < n) {v : Value} {xs : List Int} (hQ : Que w2 B v xs) (hm : Mp2 w2 M (c + 1) (put2 f i j v))
    (hb : ∀ g, B ≤ g → g < w.heap.size → g ≠ M → (vq f i j).ownBlock ≠ some g → w2.heap[g]? = w.heap[g]?) (hat : v.ownBlock = (vq f i j).ownBlock ∨ ∃ g, v.ownBlock = some g ∧ w.heap.size ≤ g)
    (hT : T.clk = S.clk ∧ T.req = S.req ∧ T.ins = S.ins ∧ T.num = S.num ∧ T.mis = S.mis ∧ T.owe = S.owe ∧ T.q = up2 S.q i j xs) : SysTA w2 B s P M n (c + 1) D (put2 f i j v) T := by
  obtain ⟨t1, t2, t3, t4, t5, t6, t7⟩ := hT
  have hQ0 := h.que i j hi hj
  obtain ⟨xs, hP⟩ := h.prs.row
  have hr : ∀ {g : Nat} {t : TypeId} {ys : List Value}, Row w g t ys → B ≤ g → 3 ≠ t → w2.heap[g]? = w.heap[g]? := fun {g t ys} hg hl ht => hb g hl hg.lt (fun e => h.map.ne_row hg e.symm) (fun e => hQ0.ne_row hg ht e)
  have hfld : fldT n T D = fldT n S D := by
    funext a b
    unfold fldT
    rw [t1, t2, t3, t4, t5]
  have hnew : ∀ a b, ¬ (a = i ∧ b = j) → (vq f a b).ownBlock = none ∨ (vq f a b).ownBlock ≠ v.ownBlock := fun a b e => by
    rcases hat with h1 | ⟨g, h1, h2⟩
    · rw [h1]; exact h.apart a b i j e
    · by_cases hab : a < n ∧ b < n
      · cases hbk : (vq f a b).ownBlock with
        | none => exact .inl rfl
        | some g' =>
          right
          rw [h1]
          intro e2
          injection e2 with e2
          have := ((h.que a b hab.1 hab.2).lt hbk).2
          omega
      · left
        unfold vq
        cases hf : f a b with
        | none => rfl
        | some v => exact absurd (h.lowF a b v hf) hab
  refine ⟨h.sys.block (hr h.sys h.lowS (by decide)), by rw [hfld]; exact h.prs.block (hr hP h.lowP (by decide)), fun a ha => by rw [t6]; exact Row.block (h.dfr a ha) (hr (h.dfr a ha) (h.lowD a ha) (by decide)), hm, fun a b ha hb' => ?_, h.inj, fun a b a' b' hne => ?_, fun a b u hu => ?_, h.lowS, h.lowP, h.lowM, h.lowD⟩
  · rw [t7]
    by_cases e : a = i ∧ b = j
    · obtain ⟨rfl, rfl⟩ := e
      rw [vq_put, up2_same]; exact hQ
    · rw [vq_other _ _ e, up2_other _ _ e]
      have hq := h.que a b ha hb'
      refine hq.block fun g e2 => hb g (hq.lt e2).1 (hq.lt e2).2 (fun e3 => ?_) (fun e3 => ?_)
      · obtain ⟨es, cc, hM⟩ := h.map.obj
        exact hq.ne_map hM (by rw [e2, e3])
      · rcases h.apart a b i j e with h1 | h1
        · rw [h1] at e2; cases e2
        · exact h1 (e2.trans e3.symm)
  · by_cases e : a = i ∧ b = j
    · obtain ⟨rfl, rfl⟩ := e
      have e2 : ¬ (a' = a ∧ b' = b) := fun e3 => hne ⟨e3.1.symm, e3.2.symm⟩
      rw [vq_put, vq_other _ _ e2]
      cases hv : v.ownBlock with
      | none => exact .inl rfl
      | some g =>
        right
        intro e3
        rcases hnew a' b' e2 with h1 | h1
        · rw [h1] at e3; cases e3
        · exact h1 (e3.symm.trans hv.symm)
    · rw [vq_other _ _ e]
      by_cases e2 : a' = i ∧ b' = j
      · rw [e2.1, e2.2, vq_put]
        exact hnew a b e
      · rw [vq_other _ _ e2]
        exact h.apart a b a' b' hne
  · by_cases e : a = i ∧ b = j
    · rw [e.1, e.2]; exact ⟨hi, hj⟩
    · rw [put2_other _ _ e] at hu; exact h.lowF a b u hu
/-- 'm[k] = append(m[k], x)', in its parts: in the world W the entry is made ready; then, whatever else is laid, the append; then the store. -/
theorem SysTA.entry {W : World} (h : SysTA W B s P M n c D f S) (hn : n ≤ 6) (hc : c ≤ 100000) {i j : Nat} (hi : i < n) (hj : j < n) :
    ∃ (st : Int) (w1 : World), (Instr.mapEntry 59 (.map (some M)) (ch2 i j)).run Try.prog W = .ok (.tuple #[vq f i j, .int .i64 st]) w1 ∧ W.grownBy w1 (some M) ∧ w1.heap.size = W.heap.size ∧ Que w1 B (vq f i j) (S.q i j) ∧
      ∀ (w1' w2 : World) (v : Value) (x : Int), w1.grownBy w1' none → Que w2 B v (S.q i j ++ [x]) → w1'.grownBy w2 (vq f i j).ownBlock → (v.ownBlock = (vq f i j).ownBlock ∨ v.ownBlock = some w1'.heap.size) →
        ∃ w3, (Instr.entryStore 59 (.map (some M)) (.int .i64 st) v).run Try.prog w2 = .ok () w3 ∧ SysTA w3 B s P M n (c + 1) D (put2 f i j v) (S.put i j x) ∧ (∀ w0, BlT B w0 W → BlT B w0 w3) ∧
          (∀ g, g < W.heap.size → g ≠ M → (vq f i j).ownBlock ≠ some g → w2.heap[g]? = W.heap[g]? ∧ w3.heap[g]? = W.heap[g]?) := by
  obtain ⟨st, w1, e1, g1, z1, ⟨esM, ccM, hobM⟩, e2⟩ := h.map.entry (by unfold maxLen; omega) (i := i) (j := j) (by omega) (by omega)
  have hQ0 := h.que i j hi hj
  obtain ⟨es, cc, hM⟩ := h.map.obj
  have hne : (vq f i j).ownBlock ≠ some M := hQ0.ne_map hM
  have hMlt := h.map.lt
  have hQ1 : Que w1 B (vq f i j) (S.q i j) := hQ0.kept g1 (.inr hne)
  refine ⟨st, w1, e1, g1, z1, hQ1, fun w1' w2 v x g1' hQ2 g2 hat => ?_⟩
  have hz := g1'.size
  have hMk : w2.heap[M]? = w1.heap[M]? := (g2.block M (by omega) (fun e => hne e.symm)).trans (g1'.block M (by omega) (by simp))
  obtain ⟨w3, e3, hm3, g3, z3⟩ := e2 w2 v hMk
  have hvM : v.ownBlock ≠ some M := by
    rcases hat with h1 | h1
    · rw [h1]; exact hne
    · rw [h1]
      intro e
      injection e with e
      omega
  have hz2 := g2.size
  have hk : ∀ g, g < W.heap.size → g ≠ M → (vq f i j).ownBlock ≠ some g → w2.heap[g]? = W.heap[g]? := fun g hg hgM hgv =>
    (g2.block g (by omega) (fun e => hgv e.symm)).trans ((g1'.block g (by omega) (by simp)).trans (g1.block g hg (fun e => hgM (by injection e))))
  have hk3 : ∀ g, g < W.heap.size → g ≠ M → (vq f i j).ownBlock ≠ some g → w3.heap[g]? = W.heap[g]? := fun g hg hgM hgv =>
    (g3.block g (by omega) (fun e => hgM (by injection e))).trans (hk g hg hgM hgv)
  refine ⟨w3, e3, h.put hi hj (hQ2.kept g3 (.inr hvM)) hm3 (fun g _ hg hgM hgv => hk3 g hg hgM hgv) ?_ ⟨rfl, rfl, rfl, rfl, rfl, rfl, rfl⟩, fun w0 hb => ?_, fun g hg hgM hgv => ⟨hk g hg hgM hgv, hk3 g hg hgM hgv⟩⟩
  · rcases hat with h1 | h1
    · exact .inl h1
    · exact .inr ⟨_, h1, by omega⟩
  · have b1 := hb.grownM g1 h.map h.lowM h.sz
    have hs1 : B ≤ w1.heap.size := Nat.le_trans h.sz g1.size
    have b1' : BlT B w0 w1' := ⟨b1.low.grown g1' hs1 (by simp), fun g ys hr => (b1.err g ys hr).grown g1' (by simp)⟩
    have hs1' : B ≤ w1'.heap.size := Nat.le_trans hs1 hz
    have b2 := b1'.grownQ g2 (hQ1.kept g1' (by cases (vq f i j).ownBlock <;> simp)) hs1'
    have hs2 : B ≤ w2.heap.size := Nat.le_trans hs1' hz2
    refine ⟨b2.low.grown g3 hs2 (fun b hb => by injection hb with hb; rw [← hb]; exact h.lowM), fun g ys hr => (b2.err g ys hr).grown g3 (fun e => ?_)⟩
    injection e with e
    have hrM := b2.err g ys hr
    rw [e] at hrM
    unfold Row at hrM
    rw [hMk, hobM] at hrM
    injection hrM with hrM
    cases hrM

end

#print axioms SysTA.entry
#print axioms SysTA.put
#print axioms SysTA.setOwe
end Go.Proofs.Ythnmppajakdcaaa
