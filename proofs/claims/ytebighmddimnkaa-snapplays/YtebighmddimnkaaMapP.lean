/-
  Words for memory: a map[[2]int]*T that reads as a function of pairs; ranging over it.
-/
import Derived.Test.YtebighmddimnkaaRows
import Derived.Test.YtebighmddimnkaaIntW
import Derived.KernelRfl
import Derived.WideKeyPair
import Derived.DeepKeys4
import Derived.Maps.OwnSet
import Derived.Maps.RangeWalk
namespace Go.Proofs.Ytebighmddimnkaa
open Go.RowKit Go.Maps Go.WideMaps

/-- Two numbers, as an array. -/
def arr2 (i j : Nat) : Value := .agg #[.int .i64 (i : Int), .int .i64 (j : Int)]
def key2 (i j : Nat) : Lit := .string (keyBytes [.int .i64 (i : Int), .int .i64 (j : Int)])

theorem laid2 : laidOutB Try.prog = true := by kernel_rfl
theorem row20 : (65 : TypeId) < Try.prog.types.size := of_decide_eq_true (by kernel_rfl)
theorem cells20 : Try.prog.cellsOf 65 = 2 := by kernel_rfl
theorem under20 : Try.prog.underlying 65 = some (.array 2 3) := by kernel_rfl
theorem arr20 : ArrKey Try.prog 65 3 2 := ⟨under20, by kernel_rfl, by kernel_rfl, cells20⟩
theorem wide20 : (match Try.prog.underlying 65 with | some (.array _ _) | some (.struct _) => true | _ => false) = true := by rw [under20]
theorem law20 : Keyed Try.prog 65 := Keyed.of_law (deep_law_laid laid2 (m := 2) (by omega) row20 (by kernel_rfl) wide20)
theorem types20 : ∃ m, Try.prog.types.size = m + 1 := by
  have h : 0 < Try.prog.types.size := Nat.lt_of_le_of_lt (Nat.zero_le _) row20
  generalize Try.prog.types.size = z at *
  exact ⟨z - 1, by omega⟩
theorem zeroP (w : World) : (zeroValue 62).run Try.prog w = .ok (.pointer none) w := by kernel_rfl
theorem keyOf2 {i j : Nat} (hi : i < 1000) (hj : j < 1000) : keyOf Try.prog 65 (arr2 i j) = some (key2 i j) := by
  have w1 : (Lit.int .i64 (i : Int)).wf = true := WalkArith.wf_i64 (by omega)
  have w2 : (Lit.int .i64 (j : Int)).wf = true := WalkArith.wf_i64 (by omega)
  have hkt := arr20.keyType types20
  obtain ⟨m, hm⟩ := types20
  unfold keyOf arr2 key2
  simp only [under20]
  rw [if_pos (by simp [hkt, Value.formed, cells20]), hm]
  unfold Program.keyLits
  simp only [under20, Value.cells]
  rw [if_pos (by rw [cells20]; rfl), show List.range 2 = [0, 1] from rfl, List.mapM_cons, List.mapM_cons, List.mapM_nil]
  simp [arr20.one, Program.keyLits, Try.underlying3, w1, w2]
theorem key2_inj {i j a b : Nat} (hi : i < 1000) (hj : j < 1000) (ha : a < 1000) (hb : b < 1000) (h : key2 i j = key2 a b) : i = a ∧ j = b := by
  have h1 := keyOf2 ha hb
  rw [← h] at h1
  have h2 := law20.inj (keyOf2 hi hj) h1
  unfold arr2 at h2
  simp only [Value.agg.injEq] at h2
  simp at h2
  omega
theorem key2_val {x : Value} {i j : Nat} (hi : i < 1000) (hj : j < 1000) (h : keyOf Try.prog 65 x = some (key2 i j)) : x = arr2 i j := law20.inj h (keyOf2 hi hj)

/-- What a map's reading says: f, and no other key. -/
structure Dat (D : DataW Value) (f : Nat → Nat → Option Value) : Prop where
  at_ : ∀ i j v, f i j = some v → ∀ zd, D.atKey (key2 i j) zd = .held v
  has_ : ∀ i j v, f i j = some v → Maps.has D (key2 i j) = true
  key : ∀ kl, Maps.has D kl = true → ∃ i j v, f i j = some v ∧ kl = key2 i j
  low : ∀ i j v, f i j = some v → i < 1000 ∧ j < 1000
/-- Block M is a map that reads as f. -/
def MapP (w : World) (M n : Nat) (f : Nat → Nat → Option Value) : Prop := ∃ D : DataW Value, w.ownsMap Try.prog 65 heldElem M n D ∧ Dat D f
def putP (f : Nat → Nat → Option Value) (i j : Nat) (v : Value) : Nat → Nat → Option Value := fun x y => if x = i ∧ y = j then some v else f x y
section
variable {w w' : World} {M n : Nat} {f : Nat → Nat → Option Value}
theorem MapP.lt (h : MapP w M n f) : M < w.heap.size := by obtain ⟨_, h, _⟩ := h; exact h.lt
theorem MapP.obj (h : MapP w M n f) : ∃ es c, w.heap[M]? = some (.map es c) := by
  obtain ⟨D, ⟨es, c, h1, _⟩, _⟩ := h
  exact ⟨es, c, h1⟩
theorem MapP.made (w : World) : MapP (w.alloc (.map #[] 0)) w.heap.size 0 (fun _ _ => none) :=
  ⟨.map [], World.ownsMap_made _ _ _ _, ⟨fun _ _ _ h => (by cases h), fun _ _ _ h => (by cases h), fun kl h => (by simp [Maps.has] at h), fun _ _ _ h => (by cases h)⟩⟩
theorem MapP.block (h : MapP w M n f) (hb : w'.heap[M]? = w.heap[M]?) : MapP w' M n f := by
  obtain ⟨D, ⟨es, c, h1, h3⟩, h2⟩ := h
  exact ⟨D, ⟨es, c, hb.trans h1, h3⟩, h2⟩
theorem MapP.kept {row : Option Nat} (h : MapP w M n f) (hg : w.grownBy w' row) (hne : some M ≠ row) : MapP w' M n f := h.block (hg.block M h.lt hne)
theorem MapP.alloc (h : MapP w M n f) (o : Obj) : MapP (w.alloc o) M n f := h.kept (World.grownBy_alloc w o none) (by simp)
theorem MapP.far (h : MapP w M n f) {p : Addr} (hp : M ≠ p.block) (u : Value) : MapP (w.setCell p u) M n f := h.block (Below.heap_setCell w p u M hp)
theorem MapP.ne_row {g : Nat} {t : TypeId} {ys : List Value} (h : MapP w M n f) (hg : Row w g t ys) : M ≠ g := by
  intro e
  subst e
  obtain ⟨es, c, h1⟩ := h.obj
  unfold Row at hg
  rw [h1] at hg
  injection hg with hg
  cases hg

/-- 'm[k]', k there. -/
theorem wpList_lookP {ops : Array Oper} {rest : List Oper} {o : Oper} {a : Act} {Q : Exit → Act → World → Prop}
    (hg : o.guard = none) (m x : Operand) (hop : o.op = Op.lookup 57 m x false) (M n : Nat) (f : Nat → Nat → Option Value) (i j : Nat) (v : Value) (hf : f i j = some v)
    (hm : a.eval m = .map (some M)) (hown : MapP w M n f) (hx : a.eval x = arr2 i j)
    (hh : wpList Try.prog ops Q rest (a.put o.dst v) w) :
    wpList Try.prog ops Q (o :: rest) a w := by
  obtain ⟨D, h1, h2⟩ := hown
  obtain ⟨hi, hj⟩ := h2.low i j v hf
  refine wpList_plain hg fun K' hK' => ?_
  obtain ⟨u, ps, hrun, hv⟩ := h1.lookup law20 Try.underlying57 (zeroP w) (zd := .held (.pointer none)) (zp := []) rfl (keyOf2 hi hj)
  rw [h2.at_ i j v hf] at hv
  have e : u = v := by
    unfold heldElem at hv
    injection hv with hv
    injection hv with hv
    injection hv
  subst e
  unfold Oper.wp
  simp [execOp, hop, hm, hx, hrun, Result.andThen]
  exact hK' _ _ hh
/-- 'm[k] = v', k not there. -/
theorem wpList_putP {ops : Array Oper} {rest : List Oper} {o : Oper} {a : Act} {Q : Exit → Act → World → Prop}
    (hg : o.guard = none) (m x v : Operand) (hop : o.op = Op.mapUpdate 57 m x v) (M n : Nat) (f : Nat → Nat → Option Value) (i j : Nat) (hi : i < 1000) (hj : j < 1000) (y : Value)
    (hm : a.eval m = .map (some M)) (hown : MapP w M n f) (hn : n < maxLen) (hx : a.eval x = arr2 i j) (hv : a.eval v = y)
    (hh : ∀ w', MapP w' M (n + 1) (putP f i j y) → w.grownBy w' (some M) → wpList Try.prog ops Q rest (a.put o.dst undef) w') :
    wpList Try.prog ops Q (o :: rest) a w := by
  obtain ⟨D, h1, h2⟩ := hown
  have hkey := law20.key (keyOf2 hi hj)
  have hmap := h1.isMap
  refine wpList_mapUpdate_own w hg m x v _ hop _ _ law20 Try.underlying57 _ M n D hm h1 hn _ _ _ hx hv (keyOf2 hi hj) (.held y) [] rfl ?_
  intro w1 hown1 hgrow1
  refine hh w1 ⟨_, hown1, fun a b u hu zd => ?_, fun a b u hu => ?_, fun kl hkl => ?_, fun a b u hu => ?_⟩ hgrow1
  · unfold putP at hu
    by_cases e : a = i ∧ b = j
    · rw [if_pos e] at hu
      obtain ⟨rfl, rfl⟩ := e
      injection hu with hu
      subst hu
      rw [atKey_put_same hmap hkey]
    · rw [if_neg e] at hu
      have := h2.low a b u hu
      have hne : key2 a b ≠ key2 i j := fun h => e (key2_inj this.1 this.2 hi hj h)
      rw [atKey_put_other hne]
      exact h2.at_ a b u hu zd
  · unfold putP at hu
    by_cases e : a = i ∧ b = j
    · obtain ⟨rfl, rfl⟩ := e
      rw [has_put_same hmap hkey]
    · rw [if_neg e] at hu
      have := h2.low a b u hu
      have hne : key2 a b ≠ key2 i j := fun h => e (key2_inj this.1 this.2 hi hj h)
      rw [has_put_other hne]
      exact h2.has_ a b u hu
  · by_cases e : kl = key2 i j
    · exact ⟨i, j, y, by simp [putP], e⟩
    · rw [has_put_other e] at hkl
      obtain ⟨a, b, u, hu, rfl⟩ := h2.key kl hkl
      exact ⟨a, b, u, by unfold putP; rw [if_neg (fun h => e (by rw [h.1, h.2]))]; exact hu, rfl⟩
  · unfold putP at hu
    by_cases e : a = i ∧ b = j
    · rw [e.1, e.2]; exact ⟨hi, hj⟩
    · rw [if_neg e] at hu; exact h2.low a b u hu
end

/-- Ranging over a map that reads as f: 'L i j': the entry at (i, j) is still to come. -/
def RngP (w : World) (M r n : Nat) (f : Nat → Nat → Option Value) (L : Nat → Nat → Bool) : Prop :=
  ∃ D left cnt, w.ranges Try.prog 65 heldElem M r n D left cnt ∧ Dat D f ∧ (∀ kl, left kl = true → Maps.has D kl = true) ∧ ∀ i j v, f i j = some v → left (key2 i j) = L i j
section
variable {w w' : World} {M r n : Nat} {f : Nat → Nat → Option Value} {L : Nat → Nat → Bool}
theorem RngP.lt (h : RngP w M r n f L) : r < w.heap.size := by obtain ⟨_, _, _, h, _⟩ := h; exact h.lt
theorem RngP.owns (h : RngP w M r n f L) : MapP w M n f := by obtain ⟨D, _, _, h, h2, _⟩ := h; exact ⟨D, h.owns, h2⟩
theorem RngP.kept {row : Option Nat} (h : RngP w M r n f L) (hg : w.grownBy w' row) (h1 : some M ≠ row) (h2 : some r ≠ row) : RngP w' M r n f L := by
  obtain ⟨D, left, cnt, h, rest⟩ := h
  exact ⟨D, left, cnt, h.kept hg h1 h2, rest⟩
theorem RngP.alloc (h : RngP w M r n f L) (o : Obj) : RngP (w.alloc o) M r n f L := h.kept (World.grownBy_alloc w o none) (by simp) (by simp)
theorem RngP.block (h : RngP w M r n f L) (h1 : w'.heap[M]? = w.heap[M]?) (h2 : w'.heap[r]? = w.heap[r]?) : RngP w' M r n f L := by
  obtain ⟨D, left, cnt, ⟨es, clock, since, seen, c0, hb, F, hs, hD, hr, rest⟩, rest2⟩ := h
  exact ⟨D, left, cnt, ⟨es, clock, since, seen, c0, h1.trans hb, F, hs, hD, h2.trans hr, rest⟩, rest2⟩
theorem RngP.far (h : RngP w M r n f L) {p : Addr} (h1 : M ≠ p.block) (h2 : r ≠ p.block) (u : Value) : RngP (w.setCell p u) M r n f L :=
  h.block (Below.heap_setCell w p u M h1) (Below.heap_setCell w p u r h2)
theorem RngP.ne_row {g : Nat} {t : TypeId} {ys : List Value} (h : RngP w M r n f L) (hg : Row w g t ys) : r ≠ g := by
  obtain ⟨D, left, cnt, ⟨es, clock, since, seen, c0, hb, F, hs, hD, hr, rest⟩, rest2⟩ := h
  intro e
  subst e
  unfold Row at hg
  rw [hr] at hg
  injection hg with hg
  cases hg
/-- 'range m'. -/
theorem wpList_rangeP {ops : Array Oper} {rest : List Oper} {o : Oper} {a : Act} {Q : Exit → Act → World → Prop}
    (hg : o.guard = none) (m : Operand) (hop : o.op = Op.range 57 m) (M n : Nat) (f : Nat → Nat → Option Value)
    (hm : a.eval m = .map (some M)) (hown : MapP w M n f)
    (hK : ∀ w', RngP w' M w.heap.size n f (fun _ _ => true) → w.grownBy w' none → w'.heap.size = w.heap.size + 1 → wpList Try.prog ops Q rest (a.put o.dst (.pointer (some ⟨w.heap.size, 0, none⟩))) w') :
    wpList Try.prog ops Q (o :: rest) a w := by
  obtain ⟨D, h1, h2⟩ := hown
  refine wpList_range_own w hg m _ hop _ _ law20 Try.underlying57 _ M n D hm h1 ?_
  intro w' r1 r2 r3
  exact hK w' ⟨D, _, _, r1, h2, fun _ h => h, fun i j v hv => h2.has_ i j v hv⟩ r2 r3
/-- The step. -/
theorem wpList_nextP {ops : Array Oper} {rest : List Oper} {o : Oper} {a : Act} {Q : Exit → Act → World → Prop}
    (hg : o.guard = none) (it : Operand) (hop : o.op = Op.next it false) (M r n : Nat) (f : Nat → Nat → Option Value) (L : Nat → Nat → Bool)
    (hit : a.eval it = .pointer (some ⟨r, 0, none⟩)) (h : RngP w M r n f L)
    (hDone : (∀ i j v, f i j = some v → L i j = false) → wpList Try.prog ops Q rest (a.put o.dst (.tuple #[.bool false])) w)
    (hMore : ∀ (i j : Nat) (v : Value) (w' : World), f i j = some v → L i j = true → RngP w' M r n f (fun x y => L x y && !(decide (x = i ∧ y = j))) → w'.rangeLeft M r < w.rangeLeft M r → w.grownBy w' (some r) → w'.heap.size = w.heap.size →
      (Instr.entry (.pointer (some ⟨r, 0, none⟩))).run Try.prog w' = .ok (.tuple #[arr2 i j, v]) w' → wpList Try.prog ops Q rest (a.put o.dst (.tuple #[.bool true, arr2 i j, v])) w') :
    wpList Try.prog ops Q (o :: rest) a w := by
  obtain ⟨D, left, cnt, hr, hD, hsub, hL⟩ := h
  refine wpList_next_ranges w hg it hop _ law20 heldElem (fun x : Value => x) (fun x : Value => x) (fun key kl _ => ⟨key, rfl⟩) (fun v y _ => ⟨v, rfl⟩) M r n D left cnt hit hr ?_ ?_
  · intro h0 hl
    exact hDone fun i j v hv => by rw [← hL i j v hv]; exact hl _
  · intro x c kl y w' cnt' hkey hlk hv hat hrg hlt hgr hsz hen
    obtain ⟨i, j, v, hf, rfl⟩ := hD.key kl (hsub kl hlk)
    obtain ⟨hi, hj⟩ := hD.low i j v hf
    have hx := key2_val hi hj hkey
    have hc : c = v := by
      have h1 := hat (.held v)
      rw [hD.at_ i j v hf] at h1
      unfold heldElem at hv
      injection hv with hv
      rw [← hv] at h1
      injection h1 with h1
      exact h1.symm
    subst hx hc
    refine hMore i j c w' hf (by rw [← hL i j c hf]; exact hlk) ⟨D, _, cnt', hrg, hD, fun kl' h => hsub kl' (by simp at h; exact h.1), fun a b u hu => ?_⟩ (by rw [hrg.left_eq, hr.left_eq]; exact hlt) hgr hsz hen
    obtain ⟨ha, hb⟩ := hD.low a b u hu
    rw [hL a b u hu]
    congr 2
    rw [Bool.eq_iff_iff]
    constructor
    · intro h
      have := key2_inj ha hb hi hj (WideAt.sameKey_eq h)
      simp [this]
    · intro h
      simp at h
      rw [h.1, h.2]
      exact WideAt.sameKey_self (law20.key (keyOf2 hi hj))
end

#print axioms wpList_nextP
end Go.Proofs.Ytebighmddimnkaa
