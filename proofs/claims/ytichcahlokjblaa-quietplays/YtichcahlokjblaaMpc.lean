/-
  Words for memory: a map[channel]int (package quiet) that reads as a function of pairs; 'm[k]++'; ranging over it.
-/
import Derived.Test.YtichcahlokjblaaRows
import Derived.Test.YtichcahlokjblaaIntW
import Derived.KernelRfl
import Derived.WideKeyEntry
import Derived.DeepKeys4
import Derived.Maps.OwnSet
import Derived.Maps.RangeWalk
namespace Go.Proofs.Ytichcahlokjblaa
open Go.RowKit Go.Maps Go.WideMaps

/-- A channel. -/
def chv (i j : Nat) : Value := .agg #[.int .i64 (i : Int), .int .i64 (j : Int)]
def chk (i j : Nat) : Lit := .string (keyBytes [.int .i64 (i : Int), .int .i64 (j : Int)])

theorem laidC : laidOutB Try.prog = true := by kernel_rfl
theorem rowC : (59 : TypeId) < Try.prog.types.size := of_decide_eq_true (by kernel_rfl)
theorem cellsC : Try.prog.cellsOf 59 = 2 := by kernel_rfl
theorem oneC : Try.prog.cellsOf 3 = 1 := by kernel_rfl
theorem typeC : Try.prog.keyType 59 = true := by kernel_rfl
theorem wideC : (match Try.prog.underlying 59 with | some (.array _ _) | some (.struct _) => true | _ => false) = true := by rw [Try.underlying59]
theorem klawC : KeyLaw Try.prog 59 := deep_law_laid laidC (m := 2) (by omega) rowC (by kernel_rfl) wideC
theorem lawC : Keyed Try.prog 59 := Keyed.of_law klawC
theorem typesC : ∃ m, Try.prog.types.size = m + 1 := by
  have h : 0 < Try.prog.types.size := Nat.lt_of_le_of_lt (Nat.zero_le _) rowC
  generalize Try.prog.types.size = z at *
  exact ⟨z - 1, by omega⟩
theorem zeroC (w : World) : (zeroValue 3).run Try.prog w = .ok (.int .i64 0) w := by kernel_rfl
theorem keyOfC {i j : Nat} (hi : i < 1000) (hj : j < 1000) : keyOf Try.prog 59 (chv i j) = some (chk i j) := by
  have w1 : (Lit.int .i64 (i : Int)).wf = true := WalkArith.wf_i64 (by omega)
  have w2 : (Lit.int .i64 (j : Int)).wf = true := WalkArith.wf_i64 (by omega)
  have hkt := typeC
  obtain ⟨m, hm⟩ := typesC
  unfold keyOf chv chk
  simp only [Try.underlying59]
  rw [if_pos (by simp [hkt, Value.formed, cellsC]), hm]
  unfold Program.keyLits
  simp only [Try.underlying59, Value.cells]
  rw [if_pos (by rw [cellsC]; simp)]
  simp [oneC, Program.keyLits, Try.underlying3, w1, w2]
theorem chk_inj {i j a b : Nat} (hi : i < 1000) (hj : j < 1000) (ha : a < 1000) (hb : b < 1000) (h : chk i j = chk a b) : i = a ∧ j = b := by
  have h1 := keyOfC ha hb
  rw [← h] at h1
  have h2 := lawC.inj (keyOfC hi hj) h1
  unfold chv at h2
  simp only [Value.agg.injEq] at h2
  simp at h2
  omega
theorem chk_val {x : Value} {i j : Nat} (hi : i < 1000) (hj : j < 1000) (h : keyOf Try.prog 59 x = some (chk i j)) : x = chv i j := lawC.inj h (keyOfC hi hj)

/-- What a map's reading says: f, and no other key. -/
structure DatC (D : DataW Value) (f : Nat → Nat → Option Int) : Prop where
  at_ : ∀ i j v, f i j = some v → ∀ zd, D.atKey (chk i j) zd = .held (.int .i64 v)
  no_ : ∀ i j, i < 1000 → j < 1000 → f i j = none → ∀ zd, D.atKey (chk i j) zd = zd
  has_ : ∀ i j v, f i j = some v → Maps.has D (chk i j) = true
  key : ∀ kl, Maps.has D kl = true → ∃ i j v, f i j = some v ∧ kl = chk i j
  low : ∀ i j v, f i j = some v → i < 1000 ∧ j < 1000
/-- Block M is a map that reads as f. -/
def MapC (w : World) (M n : Nat) (f : Nat → Nat → Option Int) : Prop := ∃ D : DataW Value, w.ownsMap Try.prog 59 heldElem M n D ∧ DatC D f
def putC (f : Nat → Nat → Option Int) (i j : Nat) (v : Int) : Nat → Nat → Option Int := fun x y => if x = i ∧ y = j then some v else f x y
theorem putC_same (f : Nat → Nat → Option Int) (i j : Nat) (v : Int) : putC f i j v i j = some v := by simp [putC]
theorem putC_other (f : Nat → Nat → Option Int) {i j x y : Nat} (v : Int) (h : ¬ (x = i ∧ y = j)) : putC f i j v x y = f x y := by simp only [putC, if_neg h]
section
variable {w w' : World} {M n : Nat} {f : Nat → Nat → Option Int}
theorem MapC.lt (h : MapC w M n f) : M < w.heap.size := by obtain ⟨_, h, _⟩ := h; exact h.lt
theorem MapC.mono {c : Nat} (hM : MapC w M n f) (hc : n ≤ c) : MapC w M c f := by
  obtain ⟨D, h1, h2⟩ := hM
  exact ⟨D, h1.mono hc, h2⟩
theorem MapC.obj (h : MapC w M n f) : ∃ es c, w.heap[M]? = some (.map es c) := by
  obtain ⟨D, ⟨es, c, h1, _⟩, _⟩ := h
  exact ⟨es, c, h1⟩
theorem MapC.made (w : World) : MapC (w.alloc (.map #[] 0)) w.heap.size 0 (fun _ _ => none) :=
  ⟨.map [], World.ownsMap_made _ _ _ _, ⟨fun _ _ _ h => (by cases h), fun _ _ _ _ _ _ => rfl, fun _ _ _ h => (by cases h), fun kl h => (by simp [Maps.has] at h), fun _ _ _ h => (by cases h)⟩⟩
theorem MapC.block (h : MapC w M n f) (hb : w'.heap[M]? = w.heap[M]?) : MapC w' M n f := by
  obtain ⟨D, ⟨es, c, h1, h3⟩, h2⟩ := h
  exact ⟨D, ⟨es, c, hb.trans h1, h3⟩, h2⟩
theorem MapC.kept {row : Option Nat} (h : MapC w M n f) (hg : w.grownBy w' row) (hne : some M ≠ row) : MapC w' M n f := h.block (hg.block M h.lt hne)
theorem MapC.alloc (h : MapC w M n f) (o : Obj) : MapC (w.alloc o) M n f := h.kept (World.grownBy_alloc w o none) (by simp)
theorem MapC.far (h : MapC w M n f) {p : Addr} (hp : M ≠ p.block) (u : Value) : MapC (w.setCell p u) M n f := h.block (Below.heap_setCell w p u M hp)
theorem MapC.ne_row {g : Nat} {t : TypeId} {ys : List Value} (h : MapC w M n f) (hg : Row w g t ys) : M ≠ g := by
  intro e
  subst e
  obtain ⟨es, c, h1⟩ := h.obj
  unfold Row at hg
  rw [h1] at hg
  injection hg with hg
  cases hg

/-- 'm[k]'. -/
theorem MapC.look (h : MapC w M n f) {i j : Nat} (hi : i < 1000) (hj : j < 1000) :
    (Instr.lookup 52 (.map (some M)) (chv i j) false).run Try.prog w = .ok (.int .i64 ((f i j).getD 0)) w := by
  obtain ⟨D, h1, h2⟩ := h
  obtain ⟨u, ps, hrun, hv⟩ := h1.lookup lawC Try.underlying52 (zeroC w) (zd := .held (.int .i64 0)) (zp := []) rfl (keyOfC hi hj)
  have e : u = .int .i64 ((f i j).getD 0) := by
    cases hf : f i j with
    | none =>
      rw [h2.no_ i j hi hj hf] at hv
      unfold heldElem at hv
      injection hv with hv
      injection hv with hv
      injection hv
    | some v =>
      rw [h2.at_ i j v hf] at hv
      unfold heldElem at hv
      injection hv with hv
      injection hv with hv
      injection hv
  rw [hrun, e]
/-- 'm[k] = v' as a run. -/
theorem MapC.update (h : MapC w M n f) (hn : n < maxLen) {i j : Nat} (hi : i < 1000) (hj : j < 1000) (v : Int) :
    ∃ w', (Instr.mapUpdate 52 (.map (some M)) (chv i j) (.int .i64 v)).run Try.prog w = .ok () w' ∧ MapC w' M (n + 1) (putC f i j v) ∧ w.grownBy w' (some M) := by
  obtain ⟨D, h1, h2⟩ := h
  have hkey := lawC.key (keyOfC hi hj)
  have hmap := h1.isMap
  obtain ⟨w1, hrun, hown1, hgrow1⟩ := h1.update lawC Try.underlying52 hn (keyOfC hi hj) (val := .int .i64 v) (d := .held (.int .i64 v)) (ps := []) rfl
  have hne : ∀ {a b : Nat}, a < 1000 → b < 1000 → ¬ (a = i ∧ b = j) → chk a b ≠ chk i j := fun ha hb e h => e (chk_inj ha hb hi hj h)
  refine ⟨w1, hrun, ⟨_, hown1, fun a b u hu zd => ?_, fun a b ha hb hu zd => ?_, fun a b u hu => ?_, fun kl hkl => ?_, fun a b u hu => ?_⟩, hgrow1⟩
  · by_cases e : a = i ∧ b = j
    · obtain ⟨rfl, rfl⟩ := e
      rw [putC_same] at hu
      injection hu with hu
      subst hu
      rw [atKey_put_same hmap hkey]
    · rw [putC_other _ _ e] at hu
      have := h2.low a b u hu
      rw [atKey_put_other (hne this.1 this.2 e)]
      exact h2.at_ a b u hu zd
  · by_cases e : a = i ∧ b = j
    · obtain ⟨rfl, rfl⟩ := e
      rw [putC_same] at hu; cases hu
    · rw [putC_other _ _ e] at hu
      rw [atKey_put_other (hne ha hb e)]
      exact h2.no_ a b ha hb hu zd
  · by_cases e : a = i ∧ b = j
    · obtain ⟨rfl, rfl⟩ := e
      rw [has_put_same hmap hkey]
    · rw [putC_other _ _ e] at hu
      have := h2.low a b u hu
      rw [has_put_other (hne this.1 this.2 e)]
      exact h2.has_ a b u hu
  · by_cases e : kl = chk i j
    · exact ⟨i, j, v, putC_same _ _ _ _, e⟩
    · rw [has_put_other e] at hkl
      obtain ⟨a, b, u, hu, rfl⟩ := h2.key kl hkl
      exact ⟨a, b, u, by rw [putC_other _ _ (fun h => e (by rw [h.1, h.2]))]; exact hu, rfl⟩
  · by_cases e : a = i ∧ b = j
    · rw [e.1, e.2]; exact ⟨hi, hj⟩
    · rw [putC_other _ _ e] at hu; exact h2.low a b u hu
/-- The first half of 'm[k]++': the entry is made ready; the second: it is stored into. -/
theorem MapC.entry (h : MapC w M n f) (hn : n < maxLen) {i j : Nat} (hi : i < 1000) (hj : j < 1000) (v : Int) :
    ∃ (v0 : Value) (st : Int) (w1 w2 : World), (Instr.mapEntry 52 (.map (some M)) (chv i j)).run Try.prog w = .ok (.tuple #[v0, .int .i64 st]) w1 ∧
      (Instr.lookup 52 (.map (some M)) (chv i j) false).run Try.prog w1 = .ok (.int .i64 ((f i j).getD 0)) w1 ∧
      w.grownBy w1 (some M) ∧
      (Instr.entryStore 52 (.map (some M)) (.int .i64 st) (.int .i64 v)).run Try.prog w1 = .ok () w2 ∧
      MapC w2 M (n + 1) (putC f i j v) ∧ w.grownBy w2 (some M) := by
  obtain ⟨w', hrun, hC, hg⟩ := h.update hn hi hj v
  obtain ⟨wz, hrunz, hCz, hgz⟩ := h.update hn hi hj 0
  have hlook := h.look hi hj
  obtain ⟨D, ⟨es, clock, hb, F, hsz, hD⟩, h2⟩ := h
  obtain ⟨v0, st, es1, clock1, e1, e2, e3⟩ := Go.WideElems.entry_then_store klawC Try.underlying52 zeroC hb F (keyOfC hi hj)
  have hb1 : (ChangeMaps.setBlock w M (.map es1 clock1)).heap[M]? = some (.map es1 clock1) := ChangeMaps.heap_setBlock_same hb _
  obtain ⟨es', clock', e4, e5⟩ := e3 (ChangeMaps.setBlock w M (.map es1 clock1)) (.int .i64 v) hb1
  have hset : ChangeMaps.setBlock (ChangeMaps.setBlock w M (.map es1 clock1)) M (.map es' clock') = ChangeMaps.setBlock w M (.map es' clock') := by
    unfold ChangeMaps.setBlock
    simp
  rw [hset] at e4
  rw [hrun] at e5
  have ew : w' = ChangeMaps.setBlock w M (.map es' clock') := by injection e5
  have hg1 : w.grownBy (ChangeMaps.setBlock w M (.map es1 clock1)) (some M) := ⟨rfl, rfl, rfl, by simp [ChangeMaps.setBlock], fun i _ hi => ChangeMaps.heap_setBlock_other hb _ (fun e => hi (by rw [e]))⟩
  refine ⟨v0, st, _, _, e1, ?_, hg1, e4, by rw [← ew]; exact hC, by rw [← ew]; exact hg⟩
  rcases lawC.find w (keyOfC hi hj) es.toList F.keys with ⟨f1, f2⟩ | ⟨x, e0, f1, f2, f3⟩
  · have r1 : (Instr.mapEntry 52 (.map (some M)) (chv i j)).run Try.prog w = .ok (.tuple #[.int .i64 0, goInt clock]) (ChangeMaps.setBlock w M (.map (es.push ⟨chv i j, .int .i64 0, clock⟩) (clock + 1))) := by
      simp [Instr.mapEntry, run_underlying Try.underlying52, MapKept.run_getObj_map hb, lawC.check w false (keyOfC hi hj), f1, MapKept.run_setObj_map _ hb, Result.andThen, ChangeMaps.setBlock]
    have r2 : (Instr.mapUpdate 52 (.map (some M)) (chv i j) (.int .i64 0)).run Try.prog w = .ok () (ChangeMaps.setBlock w M (.map (es.push ⟨chv i j, .int .i64 0, clock⟩) (clock + 1))) := by
      simp [Instr.mapUpdate, run_underlying Try.underlying52, MapKept.run_getObj_map hb, lawC.check w false (keyOfC hi hj), f1, MapKept.run_setObj_map _ hb, Result.andThen, ChangeMaps.setBlock]
    rw [hrunz] at r2
    rw [e1] at r1
    have e6 : wz = ChangeMaps.setBlock w M (.map es1 clock1) := by
      injection r2 with _ r2
      injection r1 with _ r1
      rw [r2, r1]
    have l1 := hCz.look hi hj
    rw [e6, putC_same] at l1
    have l2 : (Instr.lookup 52 (.map (some M)) (chv i j) false).run Try.prog w = .ok (.int .i64 0) w := by
      simp [Instr.lookup, run_underlying Try.underlying52, MapKept.run_getObj_map hb, lawC.check w _ (keyOfC hi hj), f1, Result.andThen]
    rw [hlook] at l2
    have e7 : (f i j).getD 0 = 0 := by injection l2 with l2; injection l2
    rw [e7]
    exact l1
  · have r1 : (Instr.mapEntry 52 (.map (some M)) (chv i j)).run Try.prog w = .ok (.tuple #[e0.val, goInt e0.born]) (ChangeMaps.setBlock w M (.map es clock)) := by
      have hj' : es[x]? = some e0 := by simpa using f2
      have hsame : es.modify x (fun e => { e with key := chv i j }) = es := by
        apply Array.ext'
        rw [Array.toList_modify, ChangeMaps.modify_eq_set _ _ _ _ f2]
        have : ({ e0 with key := chv i j } : MapEntry) = e0 := by rw [← f3]
        rw [this]
        exact Go.WideElems.set_self _ _ _ f2
      simp [Instr.mapEntry, run_underlying Try.underlying52, MapKept.run_getObj_map hb, lawC.check w false (keyOfC hi hj), f1, hj', f3, lawC.stays w (keyOfC hi hj), hsame, MapKept.run_setObj_map _ hb, Result.andThen, ChangeMaps.setBlock]
    rw [e1] at r1
    have e6 : ChangeMaps.setBlock w M (.map es1 clock1) = ChangeMaps.setBlock w M (.map es clock) := by injection r1
    have hMC : MapC (ChangeMaps.setBlock w M (.map es1 clock1)) M n f := by
      rw [e6]
      refine MapC.block (w := w) ⟨D, ⟨es, clock, hb, F, hsz, hD⟩, h2⟩ ?_
      rw [ChangeMaps.heap_setBlock_same hb _, hb]
    exact hMC.look hi hj
end

/-- Ranging over a map that reads as f: 'L i j': the entry at (i, j) is still to come. -/
def RngC (w : World) (M r n : Nat) (f : Nat → Nat → Option Int) (L : Nat → Nat → Bool) : Prop :=
  ∃ D left cnt, w.ranges Try.prog 59 heldElem M r n D left cnt ∧ DatC D f ∧ (∀ kl, left kl = true → Maps.has D kl = true) ∧ ∀ i j v, f i j = some v → left (chk i j) = L i j
section
variable {w w' : World} {M r n : Nat} {f : Nat → Nat → Option Int} {L : Nat → Nat → Bool}
theorem RngC.lt (h : RngC w M r n f L) : r < w.heap.size := by obtain ⟨_, _, _, h, _⟩ := h; exact h.lt
/-- 'range m'. -/
theorem wpList_rangeC {ops : Array Oper} {rest : List Oper} {o : Oper} {a : Act} {Q : Exit → Act → World → Prop}
    (hg : o.guard = none) (m : Operand) (hop : o.op = Op.range 52 m) (M n : Nat) (f : Nat → Nat → Option Int)
    (hm : a.eval m = .map (some M)) (hown : MapC w M n f)
    (hK : ∀ w', RngC w' M w.heap.size n f (fun _ _ => true) → w.grownBy w' none → w'.heap.size = w.heap.size + 1 → wpList Try.prog ops Q rest (a.put o.dst (.pointer (some ⟨w.heap.size, 0, none⟩))) w') :
    wpList Try.prog ops Q (o :: rest) a w := by
  obtain ⟨D, h1, h2⟩ := hown
  refine wpList_range_own w hg m _ hop _ _ lawC Try.underlying52 _ M n D hm h1 ?_
  intro w' r1 r2 r3
  exact hK w' ⟨D, _, _, r1, h2, fun _ h => h, fun i j v hv => h2.has_ i j v hv⟩ r2 r3
/-- The step. -/
theorem wpList_nextC {ops : Array Oper} {rest : List Oper} {o : Oper} {a : Act} {Q : Exit → Act → World → Prop}
    (hg : o.guard = none) (it : Operand) (hop : o.op = Op.next it false) (M r n : Nat) (f : Nat → Nat → Option Int) (L : Nat → Nat → Bool)
    (hit : a.eval it = .pointer (some ⟨r, 0, none⟩)) (h : RngC w M r n f L)
    (hDone : (∀ i j v, f i j = some v → L i j = false) → wpList Try.prog ops Q rest (a.put o.dst (.tuple #[.bool false])) w)
    (hMore : ∀ (i j : Nat) (v : Int) (w' : World), f i j = some v → L i j = true → RngC w' M r n f (fun x y => L x y && !(decide (x = i ∧ y = j))) → w'.rangeLeft M r < w.rangeLeft M r → w.grownBy w' (some r) → w'.heap.size = w.heap.size →
      (Instr.entry (.pointer (some ⟨r, 0, none⟩))).run Try.prog w' = .ok (.tuple #[chv i j, .int .i64 v]) w' → wpList Try.prog ops Q rest (a.put o.dst (.tuple #[.bool true, chv i j, .int .i64 v])) w') :
    wpList Try.prog ops Q (o :: rest) a w := by
  obtain ⟨D, left, cnt, hr, hD, hsub, hL⟩ := h
  refine wpList_next_ranges w hg it hop _ lawC heldElem (fun x : Value => x) (fun x : Value => x) (fun key kl _ => ⟨key, rfl⟩) (fun v y _ => ⟨v, rfl⟩) M r n D left cnt hit hr ?_ ?_
  · intro h0 hl
    exact hDone fun i j v hv => by rw [← hL i j v hv]; exact hl _
  · intro x c kl y w' cnt' hkey hlk hv hat hrg hlt hgr hsz hen
    obtain ⟨i, j, v, hf, rfl⟩ := hD.key kl (hsub kl hlk)
    obtain ⟨hi, hj⟩ := hD.low i j v hf
    have hx := chk_val hi hj hkey
    have hc : c = .int .i64 v := by
      have h1 := hat (.held (.int .i64 v))
      rw [hD.at_ i j v hf] at h1
      unfold heldElem at hv
      injection hv with hv
      rw [← hv] at h1
      injection h1 with h1
      exact h1.symm
    subst hx hc
    refine hMore i j v w' hf (by rw [← hL i j v hf]; exact hlk) ⟨D, _, cnt', hrg, hD, fun kl' h => hsub kl' (by simp at h; exact h.1), fun a b u hu => ?_⟩ (by rw [hrg.left_eq, hr.left_eq]; exact hlt) hgr hsz hen
    obtain ⟨ha, hb⟩ := hD.low a b u hu
    rw [hL a b u hu]
    congr 2
    rw [Bool.eq_iff_iff]
    constructor
    · intro h
      have := chk_inj ha hb hi hj (WideAt.sameKey_eq h)
      simp [this]
    · intro h
      simp at h
      rw [h.1, h.2]
      exact WideAt.sameKey_self (lawC.key (keyOfC hi hj))
end

#print axioms MapC.entry
#print axioms wpList_nextC
end Go.Proofs.Ytichcahlokjblaa
