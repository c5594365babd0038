/-
  Words for memory: a row of ints that a function gives; a map with int keys that holds values of whatever shape, read as a function.
-/
import Derived.Test.YtieicimoolegoaaRows
import Derived.Test.YtieicimoolegoaaRowW
import Derived.KernelRfl
namespace Go.Proofs.Ytieicimoolegoaa
open Go.RowKit Go.Maps

theorem infoInt : (Try.prog.info? 3).map (fun i => (i.zero, i.size, i.bytes)) = some (some (.int .i64 0), 1, 8) := by kernel_rfl

/-- A function turned at one place. -/
def updI (A : Nat → Int) (j : Nat) (v : Int) : Nat → Int := fun x => if x = j then v else A x
theorem updI_same (A : Nat → Int) (j : Nat) (v : Int) : updI A j v j = v := by simp [updI]
theorem updI_other (A : Nat → Int) {j x : Nat} (v : Int) (h : x ≠ j) : updI A j v x = A x := by simp [updI, h]

/-- The first c numbers of A, as a row's cells. -/
def intRow (A : Nat → Int) (c : Nat) : List Value := (List.range c).map fun j => Value.int .i64 (A j)
theorem intRow_len (A : Nat → Int) (c : Nat) : (intRow A c).length = c := by simp [intRow]
theorem intRow_get (A : Nat → Int) {c j : Nat} (h : j < c) : (intRow A c)[j]'(by rw [intRow_len]; exact h) = .int .i64 (A j) := by simp [intRow]
theorem intRow_congr {A A' : Nat → Int} {c : Nat} (h : ∀ j, j < c → A j = A' j) : intRow A c = intRow A' c := by
  unfold intRow
  exact List.map_congr_left fun j hj => by rw [h j (List.mem_range.1 hj)]
theorem intRow_set (A : Nat → Int) (c j : Nat) (v : Int) : (intRow A c).set j (.int .i64 v) = intRow (updI A j v) c := by
  apply List.ext_getElem
  · simp [intRow]
  · intro b h1 h2
    rw [List.getElem_set]
    by_cases e : j = b
    · subst e; simp [intRow, updI]
    · rw [if_neg e]
      have : ¬ b = j := fun h => e h.symm
      simp [intRow, updI, this]
theorem intRow_zero (c : Nat) : List.replicate c (Value.int .i64 0) = intRow (fun _ => 0) c := by
  apply List.ext_getElem
  · simp [intRow]
  · intro b h1 h2; simp [intRow]

/-- A row of ints that a function gives. -/
abbrev IntRow (w : World) (g c : Nat) (A : Nat → Int) : Prop := Row w g 3 (intRow A c)
section
variable {w w' : World} {g c : Nat} {A : Nat → Int}
theorem IntRow.at_ (h : IntRow w g c A) {j : Nat} (hj : j < c) : w.cell? ⟨g, j, none⟩ = some (.int .i64 (A j)) := by
  rw [Row.cell h (by rw [intRow_len]; exact hj), intRow_get A hj]
theorem IntRow.put (h : IntRow w g c A) (j : Nat) (v : Int) : IntRow (w.setCell ⟨g, j, none⟩ (.int .i64 v)) g c (updI A j v) := by
  have := Row.set h j (.int .i64 v)
  rw [intRow_set] at this
  exact this
theorem IntRow.congr {A' : Nat → Int} (h : IntRow w g c A) (e : ∀ j, j < c → A j = A' j) : IntRow w g c A' := by
  unfold IntRow at *
  rw [← intRow_congr e]; exact h
theorem IntRow.heap (h : IntRow w g c A) (e : w'.heap = w.heap) : IntRow w' g c A := Row.block h (by rw [e])
theorem IntRow.nums (h : IntRow w g c A) : Nums w w.heap.size (some ⟨g, 0, none⟩) ((List.range c).map A) := by
  intro _
  refine ⟨g, 0, rfl, Row.lt h, fun i hi => ?_⟩
  have hi' : i < c := by simpa using hi
  rw [Nat.zero_add, h.at_ hi']
  simp
theorem IntRow.numsAt (h : IntRow w g c A) {B : Nat} (hB : g < B) {l : List Int} (hl : l.length = c) (he : ∀ j, (hj : j < l.length) → l[j] = A j) : Nums w B (some ⟨g, 0, none⟩) l := by
  intro _
  refine ⟨g, 0, rfl, hB, fun i hi => ?_⟩
  rw [Nat.zero_add, h.at_ (by omega), he i hi]
end

/-- How an element of a map reads: as itself. -/
def heldElem (v : Value) : Option (DataW Value × List MemPlace) := some (.held v, [])
/-- Block B is a map of at most n entries that reads as the function f (absent keys: z). -/
def MapV (P : Program) (w : World) (K : TypeId) (z : Value) (B n : Nat) (f : Int → Value) : Prop :=
  ∃ D : DataW Value, w.ownsMap P K heldElem B n D ∧ ∀ k, (Lit.int .i64 k).wf = true → D.atKey (.int .i64 k) (.held z) = .held (f k)
def putV (f : Int → Value) (k : Int) (v : Value) : Int → Value := fun x => if x = k then v else f x
section
variable {P : Program} {w w' : World} {K E : TypeId} {z : Value} {B n : Nat} {f : Int → Value}
theorem MapV.lt (h : MapV P w K z B n f) : B < w.heap.size := by obtain ⟨_, h, _⟩ := h; exact h.lt
theorem MapV.made (P : Program) (w : World) (K : TypeId) (z : Value) : MapV P (w.alloc (.map #[] 0)) K z w.heap.size 0 (fun _ => z) :=
  ⟨.map [], World.ownsMap_made _ _ _ _, fun _ _ => rfl⟩
theorem MapV.mono (h : MapV P w K z B n f) {n' : Nat} (hn : n ≤ n') : MapV P w K z B n' f := by obtain ⟨D, h1, h2⟩ := h; exact ⟨D, h1.mono hn, h2⟩
theorem MapV.kept {row : Option Nat} (h : MapV P w K z B n f) (hg : w.grownBy w' row) (hne : some B ≠ row) : MapV P w' K z B n f := by obtain ⟨D, h1, h2⟩ := h; exact ⟨D, h1.kept hg hne, h2⟩
theorem MapV.block (h : MapV P w K z B n f) (hb : w'.heap[B]? = w.heap[B]?) : MapV P w' K z B n f := by
  obtain ⟨D, ⟨es, c, h1, h3⟩, h2⟩ := h
  exact ⟨D, ⟨es, c, hb.trans h1, h3⟩, h2⟩
theorem MapV.alloc (h : MapV P w K z B n f) (o : Obj) : MapV P (w.alloc o) K z B n f := h.kept (World.grownBy_alloc w o none) (by simp)
theorem MapV.far (h : MapV P w K z B n f) {p : Addr} (hp : B ≠ p.block) (u : Value) : MapV P (w.setCell p u) K z B n f := h.block (Below.heap_setCell w p u B hp)
theorem MapV.below (h : MapV P w K z B n f) {b : Nat} (hb : Below b w w') (hB : B < b) : MapV P w' K z B n f := h.block (hb.block B hB)
theorem MapV.congr {f' : Int → Value} (h : MapV P w K z B n f) (e : ∀ k, f k = f' k) : MapV P w K z B n f' := by
  obtain ⟨D, h1, h2⟩ := h
  exact ⟨D, h1, fun k hk => by rw [← e k]; exact h2 k hk⟩

theorem wpList_lookV {ops : Array Oper} {rest : List Oper} {o : Oper} {a : Act} {Q : Exit → Act → World → Prop}
    (hg : o.guard = none) (m x : Operand) (t : TypeId) (hop : o.op = Op.lookup t m x false) (K E : TypeId)
    (hK : P.underlying K = some (.int .i64)) (ht : P.underlying t = some (.map K E)) (hz : (zeroValue E).run P w = .ok z w) (B n : Nat) (f : Int → Value) (k : Int) (v : Value)
    (hm : a.eval m = .map (some B)) (hown : MapV P w K z B n f) (hx : a.eval x = .int .i64 k) (hk : (Lit.int .i64 k).wf = true) (hf : f k = v)
    (hh : wpList P ops Q rest (a.put o.dst v) w) :
    wpList P ops Q (o :: rest) a w := by
  obtain ⟨D, h1, h2⟩ := hown
  refine wpList_plain hg fun K' hK' => ?_
  obtain ⟨u, ps, hrun, hv⟩ := h1.lookup (int_keyed hK) ht hz (zd := .held z) (zp := []) rfl (keyOf_int_mk hK hk)
  rw [h2 k hk, hf] at hv
  have e : u = v := by
    unfold heldElem at hv
    injection hv with hv
    injection hv with hv
    injection hv
  subst e
  unfold Oper.wp
  simp [execOp, hop, hm, hx, hrun, Result.andThen]
  exact hK' _ _ hh
theorem wpList_putV {ops : Array Oper} {rest : List Oper} {o : Oper} {a : Act} {Q : Exit → Act → World → Prop}
    (hg : o.guard = none) (m x v : Operand) (t : TypeId) (hop : o.op = Op.mapUpdate t m x v) (K E : TypeId)
    (hK : P.underlying K = some (.int .i64)) (ht : P.underlying t = some (.map K E)) (B n : Nat) (f : Int → Value) (k : Int) (y : Value)
    (hm : a.eval m = .map (some B)) (hown : MapV P w K z B n f) (hn : n < maxLen) (hx : a.eval x = .int .i64 k) (hv : a.eval v = y) (hk : (Lit.int .i64 k).wf = true)
    (hh : ∀ w', MapV P w' K z B (n + 1) (putV f k y) → w.grownBy w' (some B) → wpList P ops Q rest (a.put o.dst undef) w') :
    wpList P ops Q (o :: rest) a w := by
  obtain ⟨D, h1, h2⟩ := hown
  refine wpList_mapUpdate_own w hg m x v t hop K E (int_keyed hK) ht _ B n D hm h1 hn _ _ _ hx hv (keyOf_int_mk hK hk) (.held y) [] rfl ?_
  intro w1 hown1 hgrow1
  refine hh w1 ⟨_, hown1, fun k' hk' => ?_⟩ hgrow1
  have hkey := (int_keyed hK).key (keyOf_int_mk hK hk)
  have hmap : IsMap D := by
    obtain ⟨es, c, _, _, _, rfl⟩ := h1
    exact ⟨_, rfl⟩
  by_cases e : k' = k
  · subst e
    rw [atKey_put_same hmap hkey]
    simp [putV]
  · rw [atKey_put_other (by intro h; apply e; injection h)]
    simp only [putV, if_neg e]
    exact h2 k' hk'
end

#print axioms wpList_putV
end Go.Proofs.Ytieicimoolegoaa
