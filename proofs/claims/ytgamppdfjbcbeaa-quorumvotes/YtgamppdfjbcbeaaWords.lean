/-
  Words for memory: a map with int keys and integer elements that reads as a function; a slice of events that reads as a list. General: over any program.
-/
import Derived.WalkKit
import Derived.WalkSpells
import Derived.WalkLawsBesides
import Derived.Maps.OwnSet
import Derived.Lib.Hide
namespace Go.Proofs.Ytgamppdfjbcbeaa
open Go.RowKit Go.Maps

/-- An event: process, kind, message. -/
structure Ev where
  p : Int
  k : Int
  m : Int

/-- Is a number an int of Go's? -/
abbrev I64 (k : Int) : Prop := -9223372036854775808 ≤ k ∧ k ≤ 9223372036854775807

/-- Block B is a map of at most n entries that reads as the function f (absent keys: 0). -/
def MapIs (P : Program) (w : World) (K E : TypeId) (q : IntKind) (B n : Nat) (f : Int → Int) : Prop :=
  ∃ D : DataW Unit, w.ownsMap P K (plainElem P E) B n D ∧ ∀ k, (Lit.int .i64 k).wf = true → D.atKey (.int .i64 k) (.lit (.int q 0)) = .lit (.int q (f k))

/-- A function turned at one place. -/
def put (f : Int → Int) (k v : Int) : Int → Int := fun x => if x = k then v else f x

theorem put_same (f : Int → Int) (k v : Int) : put f k v k = v := by simp [put]
theorem put_other (f : Int → Int) {k x : Int} (v : Int) (h : x ≠ k) : put f k v x = f x := by simp [put, h]

section
variable {P : Program} {w w' : World} {K E : TypeId} {q : IntKind} {B n : Nat} {f : Int → Int}

theorem MapIs.lt (h : MapIs P w K E q B n f) : B < w.heap.size := by
  obtain ⟨_, h, _⟩ := h
  exact h.lt

theorem MapIs.made (P : Program) (w : World) (K E : TypeId) (q : IntKind) : MapIs P (w.alloc (.map #[] 0)) K E q w.heap.size 0 (fun _ => 0) :=
  ⟨.map [], World.ownsMap_made _ _ _ _, fun _ _ => rfl⟩

theorem MapIs.mono (h : MapIs P w K E q B n f) {n' : Nat} (hn : n ≤ n') : MapIs P w K E q B n' f := by
  obtain ⟨D, h1, h2⟩ := h
  exact ⟨D, h1.mono hn, h2⟩

theorem MapIs.kept {row : Option Nat} (h : MapIs P w K E q B n f) (hg : w.grownBy w' row) (hne : some B ≠ row) : MapIs P w' K E q B n f := by
  obtain ⟨D, h1, h2⟩ := h
  exact ⟨D, h1.kept hg hne, h2⟩

theorem MapIs.block (h : MapIs P w K E q B n f) (hb : w'.heap[B]? = w.heap[B]?) : MapIs P w' K E q B n f := by
  obtain ⟨D, ⟨es, c, h1, h3⟩, h2⟩ := h
  exact ⟨D, ⟨es, c, hb.trans h1, h3⟩, h2⟩

theorem MapIs.alloc (h : MapIs P w K E q B n f) (o : Obj) : MapIs P (w.alloc o) K E q B n f := h.kept (World.grownBy_alloc w o none) (by simp)

theorem isMap_of (D : DataW Unit) {R : Value → Option (DataW Unit × List MemPlace)} (h : w.ownsMap P K R B n D) : IsMap D := by
  obtain ⟨es, c, _, _, _, rfl⟩ := h
  exact ⟨_, rfl⟩

/-- 'm[k]' at the operation. -/
theorem wpList_look {ops : Array Oper} {rest : List Oper} {o : Oper} {a : Act} {Q : Exit → Act → World → Prop}
    (hg : o.guard = none) (m x : Operand) (t : TypeId) (hop : o.op = Op.lookup t m x false) (K E : TypeId) (q : IntKind)
    (hK : P.underlying K = some (.int .i64)) (ht : P.underlying t = some (.map K E)) (he : P.underlying E = some (.int q)) (hz : (zeroValue E).run P w = .ok (.int q 0) w) (B n : Nat) (f : Int → Int) (k : Int)
    (hm : a.eval m = .map (some B)) (hown : MapIs P w K E q B n f) (hx : a.eval x = .int .i64 k) (hk : (Lit.int .i64 k).wf = true)
    (hh : (Lit.int q (f k)).wf = true → wpList P ops Q rest (a.put o.dst (.int q (f k))) w) :
    wpList P ops Q (o :: rest) a w := by
  obtain ⟨D, h1, h2⟩ := hown
  refine wpList_lookup_own_int w hg m x t hop K E q (int_keyed hK) ht he hz B n D hm h1 _ _ hx (keyOf_int_mk hK hk) ?_
  intro c hat hwc
  rw [h2 k hk] at hat
  have e : f k = c := by injection hat with hat; injection hat
  rw [← e] at hwc ⊢
  exact hh hwc

/-- 'm[k] = v' at the operation. -/
theorem wpList_put {ops : Array Oper} {rest : List Oper} {o : Oper} {a : Act} {Q : Exit → Act → World → Prop}
    (hg : o.guard = none) (m x v : Operand) (t : TypeId) (hop : o.op = Op.mapUpdate t m x v) (K E : TypeId) (q : IntKind)
    (hK : P.underlying K = some (.int .i64)) (ht : P.underlying t = some (.map K E)) (he : P.underlying E = some (.int q)) (B n : Nat) (f : Int → Int) (k y : Int)
    (hm : a.eval m = .map (some B)) (hown : MapIs P w K E q B n f) (hn : n < maxLen) (hx : a.eval x = .int .i64 k) (hv : a.eval v = .int q y) (hk : (Lit.int .i64 k).wf = true) (hy : (Lit.int q y).wf = true)
    (hh : ∀ w', MapIs P w' K E q B (n + 1) (put f k y) → w.grownBy w' (some B) → wpList P ops Q rest (a.put o.dst undef) w') :
    wpList P ops Q (o :: rest) a w := by
  obtain ⟨D, h1, h2⟩ := hown
  refine wpList_mapUpdate_own w hg m x v t hop K E (int_keyed hK) ht _ B n D hm h1 hn _ _ _ hx hv (keyOf_int_mk hK hk) _ [] (plainElem_int he hy) ?_
  intro w1 hown1 hgrow1
  refine hh w1 ⟨_, hown1, fun k' hk' => ?_⟩ hgrow1
  by_cases e : k' = k
  · subst e
    rw [put_same, atKey_put_same (isMap_of D h1) ((int_keyed hK).key (keyOf_int_mk hK hk))]
  · rw [put_other _ _ e, atKey_put_other (by intro h; apply e; injection h), h2 k' hk']
end

/-- The events of a slice whose array begins at A: in memory below block B. -/
def Evs (w : World) (B : Nat) (A : Option Addr) (l : List Ev) : Prop :=
  0 < l.length → ∃ b off, A = some ⟨b, off, none⟩ ∧ b < B ∧ ∀ i, (hi : i < l.length) →
    w.cell? ⟨b, off + i * 3, none⟩ = some (.int .i64 l[i].p) ∧ w.cell? ⟨b, off + i * 3 + 1, none⟩ = some (.int .i64 l[i].k) ∧ w.cell? ⟨b, off + i * 3 + 2, none⟩ = some (.int .i64 l[i].m)

/-- Every number of the events is an int. -/
def Fits (l : List Ev) : Prop := ∀ e ∈ l, I64 e.p ∧ I64 e.k ∧ I64 e.m

section
variable {w w' : World} {B B' : Nat} {A : Option Addr} {l : List Ev}
theorem Evs.keep (h : Evs w B A l) (hk : ∀ p : Addr, p.block < B → w'.cell? p = w.cell? p) : Evs w' B A l := by
  intro h0
  obtain ⟨b, off, e, hb, hc⟩ := h h0
  exact ⟨b, off, e, hb, fun i hi => by rw [hk _ hb, hk _ hb, hk _ hb]; exact hc i hi⟩
theorem Evs.below (h : Evs w B A l) (hb : Below B w w') : Evs w' B A l := h.keep fun _ hp => hb.cell hp
theorem Evs.more (h : Evs w B A l) (hB : B ≤ B') : Evs w B' A l := by
  intro h0
  obtain ⟨b, off, e, hb, hc⟩ := h h0
  exact ⟨b, off, e, by omega, hc⟩
theorem Evs.take (h : Evs w B A l) (n : Nat) : Evs w B A (l.take n) := by
  intro h0
  have hl : (l.take n).length ≤ l.length := by simp; omega
  obtain ⟨b, off, e, hb, hc⟩ := h (by omega)
  exact ⟨b, off, e, hb, fun i hi => by simp only [List.getElem_take]; exact hc i (by omega)⟩
theorem Fits.take (h : Fits l) (n : Nat) : Fits (l.take n) := fun e he => h e (List.mem_of_mem_take he)
end

/-- The ints of a slice whose array begins at A: in memory below block B. -/
def Nums (w : World) (B : Nat) (A : Option Addr) (l : List Int) : Prop :=
  0 < l.length → ∃ b off, A = some ⟨b, off, none⟩ ∧ b < B ∧ ∀ i, (hi : i < l.length) → w.cell? ⟨b, off + i, none⟩ = some (.int .i64 l[i])
def NumFits (l : List Int) : Prop := ∀ x ∈ l, I64 x

section
variable {w w' : World} {B B' : Nat} {A : Option Addr} {l : List Int}
theorem Nums.keep (h : Nums w B A l) (hk : ∀ p : Addr, p.block < B → w'.cell? p = w.cell? p) : Nums w' B A l := by
  intro h0
  obtain ⟨b, off, e, hb, hc⟩ := h h0
  exact ⟨b, off, e, hb, fun i hi => by rw [hk _ hb]; exact hc i hi⟩
theorem Nums.below (h : Nums w B A l) (hb : Below B w w') : Nums w' B A l := h.keep fun _ hp => hb.cell hp
theorem Nums.more (h : Nums w B A l) (hB : B ≤ B') : Nums w B' A l := by
  intro h0
  obtain ⟨b, off, e, hb, hc⟩ := h h0
  exact ⟨b, off, e, by omega, hc⟩
end

theorem int_eq {a b : Nat} (h : a = b) : Value.int .i64 (a : Int) = .int .i64 (b : Int) := by rw [h]
theorem int_eq1 {a b : Nat} (h : b = a + 1) : Value.int .i64 ((a : Int) + 1) = .int .i64 (b : Int) := by rw [h]; rfl

#print axioms wpList_put
end Go.Proofs.Ytgamppdfjbcbeaa
